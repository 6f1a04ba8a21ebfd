/- Plain facts on names: which are valid.
   Plain facts on names: their order; where a further one goes; what is left without one. -/
import Derived.Test.YtengcjglkcmkbaaNames
import Derived.Test.YtengcjglkcmkbaaTexts
namespace Go.Proofs.Ytengcjglkcmkbaa
open Go.RowKit

/-- Text a is not behind text b. -/
def leT (a b : ByteArray) : Bool := Op.bytesLess a.toList b.toList || a.toList == b.toList
/-- Name k is in order, its bucket among those before. -/
def nmStepB (ps : List Nm) (k : Nat) : Bool :=
  match ps[k]? with
  | none => true
  | some p => decide (0 ≤ bkV p.a) && inB p.b 0 7 && (match k with
    | 0 => true
    | j + 1 => match ps[j]? with
      | none => true
      | some q => !decide (bkV p.a < bkV q.a) && !((bkV q.a == bkV p.a) && leT p.a q.a)) && (match k with
    | i + 3 => match ps[i]? with
      | none => true
      | some r => !(bkV r.a == bkV p.a)
    | _ => true)
theorem nmStep_1 {ps : List Nm} {k : Nat} {p q : Nm} (hp : ps[k]? = some p) (hk : 0 < k) (h3 : k < 3) (hq : ps[k - 1]? = some q) : nmStepB ps k = (decide (0 ≤ bkV p.a) && inB p.b 0 7 && (!decide (bkV p.a < bkV q.a) && !((bkV q.a == bkV p.a) && leT p.a q.a))) := by
  match k, hk, h3 with
  | 1, _, _ => simp only [nmStepB, hp, hq] at *; simp
  | 2, _, _ => simp only [nmStepB, hp, hq] at *; simp
theorem nmStep_3 {ps : List Nm} {k : Nat} {p q r : Nm} (hp : ps[k]? = some p) (h3 : 3 ≤ k) (hq : ps[k - 1]? = some q) (hr : ps[k - 3]? = some r) : nmStepB ps k = (decide (0 ≤ bkV p.a) && inB p.b 0 7 && (!decide (bkV p.a < bkV q.a) && !((bkV q.a == bkV p.a) && leT p.a q.a)) && !(bkV r.a == bkV p.a)) := by
  obtain ⟨i, rfl⟩ : ∃ i, k = i + 3 := ⟨k - 3, by omega⟩
  rw [show i + 3 - 1 = i + 2 by omega] at hq
  rw [show i + 3 - 3 = i by omega] at hr
  simp only [nmStepB, hp, hq, hr]
theorem nmStep_q {ps : List Nm} {k : Nat} {p q : Nm} (hp : ps[k]? = some p) (hk : 0 < k) (hq : ps[k - 1]? = some q) (h : (!decide (bkV p.a < bkV q.a) && !((bkV q.a == bkV p.a) && leT p.a q.a)) = false) : nmStepB ps k = false := by
  obtain ⟨i, rfl⟩ : ∃ i, k = i + 1 := ⟨k - 1, by omega⟩
  rw [show i + 1 - 1 = i by omega] at hq
  simp only [nmStepB, hp, hq, h, Bool.and_false, Bool.false_and]
/-- Valid names. -/
def nmB (ps : List Nm) : Bool := (List.range ps.length).all (nmStepB ps)
theorem nm_bad {ps : List Nm} {k : Nat} (hk : k < ps.length) (h : nmStepB ps k = false) : nmB ps = false := by
  unfold nmB
  rw [List.all_eq_false]
  exact ⟨k, List.mem_range.2 hk, by simp [h]⟩
theorem nm_end {ps : List Nm} (h : ∀ k, k < ps.length → nmStepB ps k = true) : nmB ps = true := by
  unfold nmB
  rw [List.all_eq_true]
  intro k hk
  exact h k (List.mem_range.1 hk)
theorem nm_steps {ps : List Nm} (h : nmB ps = true) : ∀ k, k < ps.length → nmStepB ps k = true := by
  simp only [nmB, List.all_eq_true, List.mem_range] at h
  exact h
/-- The file of a text among names. -/
def nmFind (ps : List Nm) (s : ByteArray) : Int := match ps.find? (fun p => p.a.toList == s.toList) with
  | some p => p.b
  | none => -1
/-- What FindName answers. -/
def findV (ps : List Nm) (s : ByteArray) : Int := if nmB ps then nmFind ps s else -1
theorem nmFind_at {ps : List Nm} {s : ByteArray} {k : Nat} {p : Nm} (hp : ps[k]? = some p) (he : p.a.toList = s.toList) (hb : ∀ (j : Nat) q, j < k → ps[j]? = some q → q.a.toList ≠ s.toList) : nmFind ps s = p.b := by
  induction ps generalizing k with
  | nil => simp at hp
  | cons q r ih =>
    cases k with
    | zero =>
      simp at hp
      subst hp
      simp [nmFind, he]
    | succ k =>
      have hq : q.a.toList ≠ s.toList := hb 0 q (by omega) rfl
      have := ih (k := k) (by simpa using hp) (fun j x hj hx => hb (j + 1) x (by omega) (by simpa using hx))
      simpa [nmFind, List.find?_cons, hq] using this
theorem nmFind_none {ps : List Nm} {s : ByteArray} (hb : ∀ (j : Nat) q, ps[j]? = some q → q.a.toList ≠ s.toList) : nmFind ps s = -1 := by
  have : ps.find? (fun p => p.a.toList == s.toList) = none := by
    rw [List.find?_eq_none]
    intro q hq
    obtain ⟨j, hj⟩ := List.getElem?_of_mem hq
    simpa using hb j q hj
  simp [nmFind, this]
end Go.Proofs.Ytengcjglkcmkbaa
namespace Go.Proofs.Ytengcjglkcmkbaa
open Go.RowKit

theorem less_irr (x : List UInt8) : Op.bytesLess x x = false := by
  induction x with
  | nil => rfl
  | cons a r ih =>
    have h : ¬ a < a := by rw [UInt8.lt_iff_toNat_lt]; omega
    simp [Op.bytesLess, ih, h]
theorem less_trans (x y z : List UInt8) (h1 : Op.bytesLess x y = true) (h2 : Op.bytesLess y z = true) : Op.bytesLess x z = true := by
  induction x generalizing y z with
  | nil =>
    cases z with
    | nil => cases y <;> simp [Op.bytesLess] at h2
    | cons c t => rfl
  | cons a r ih =>
    cases y with
    | nil => simp [Op.bytesLess] at h1
    | cons b s =>
      cases z with
      | nil => simp [Op.bytesLess] at h2
      | cons c t =>
        simp only [Op.bytesLess, Bool.or_eq_true, Bool.and_eq_true, decide_eq_true_eq, beq_iff_eq, UInt8.lt_iff_toNat_lt] at h1 h2 ⊢
        rcases h1 with h1 | ⟨rfl, h1⟩
        · rcases h2 with h2 | ⟨rfl, h2⟩
          · exact .inl (by omega)
          · exact .inl h1
        · rcases h2 with h2 | ⟨rfl, h2⟩
          · exact .inl h2
          · exact .inr ⟨rfl, ih _ _ h1 h2⟩
theorem less_total (x y : List UInt8) : (Op.bytesLess x y || x == y) = !Op.bytesLess y x := by
  induction x generalizing y with
  | nil => cases y <;> simp [Op.bytesLess]
  | cons a r ih =>
    cases y with
    | nil => simp [Op.bytesLess]
    | cons b s =>
      have h := ih s
      rw [Bool.eq_iff_iff] at h ⊢
      simp only [Op.bytesLess, Bool.or_eq_true, Bool.and_eq_true, decide_eq_true_eq, beq_iff_eq, UInt8.lt_iff_toNat_lt, Bool.not_eq_true', Bool.or_eq_false_iff, Bool.and_eq_false_iff, decide_eq_false_iff_not, List.cons.injEq, beq_eq_false_iff_ne, ne_eq] at h ⊢
      by_cases hab : a = b
      · subst hab
        simp only [true_and, not_true, false_or]
        constructor
        · rintro (h1 | h1)
          · rcases h1 with h1 | h1
            · omega
            · exact ⟨by omega, h.1 (.inl h1)⟩
          · exact ⟨by omega, h.1 (.inr h1)⟩
        · intro h1
          rcases h.2 h1.2 with h2 | h2
          · exact .inl (.inr h2)
          · exact .inr h2
      · have hne : a.toNat ≠ b.toNat := fun e => hab (UInt8.toNat_inj.1 e)
        have hba : ¬ b = a := fun e => hab e.symm
        simp only [hab, hba, false_and, or_false, not_false_iff, true_or, and_true]
        omega
/-- A text stands before another one. -/
def befT (a b : ByteArray) : Bool := decide (bkV a < bkV b) || ((bkV a == bkV b) && Op.bytesLess a.toList b.toList)
theorem bef_irr (a : ByteArray) : befT a a = false := by simp [befT, less_irr]
theorem bef_trans {a b c : ByteArray} (h1 : befT a b = true) (h2 : befT b c = true) : befT a c = true := by
  simp only [befT, Bool.or_eq_true, Bool.and_eq_true, decide_eq_true_eq, beq_iff_eq] at h1 h2 ⊢
  rcases h1 with h1 | ⟨e1, h1⟩
  · rcases h2 with h2 | ⟨e2, h2⟩
    · exact .inl (by omega)
    · exact .inl (by omega)
  · rcases h2 with h2 | ⟨e2, h2⟩
    · exact .inl (by omega)
    · exact .inr ⟨by omega, less_trans _ _ _ h1 h2⟩
theorem bef_bk {a b : ByteArray} (h : befT a b = true) : bkV a ≤ bkV b := by
  simp only [befT, Bool.or_eq_true, Bool.and_eq_true, decide_eq_true_eq, beq_iff_eq] at h
  omega
theorem bef_ne {a b : ByteArray} (h : befT a b = true) : a.toList ≠ b.toList := by
  intro e
  have hab : a = b := by
    rw [ByteArray.toList_eq, ByteArray.toList_eq] at e
    exact ByteArray.ext (Array.toList_inj.1 e)
  subst hab
  rw [bef_irr] at h
  cases h
/-- The test of NamesValid on neighbours. -/
theorem bef_step (p q : ByteArray) : (!decide (bkV p < bkV q) && !((bkV q == bkV p) && leT p q)) = befT q p := by
  unfold leT befT
  rw [less_total]
  by_cases h1 : bkV p < bkV q
  · have h2 : ¬ bkV q < bkV p := by omega
    have h3 : bkV q ≠ bkV p := by omega
    simp [h1, h2, h3]
  · by_cases h2 : bkV q = bkV p
    · simp [h2]
    · have h3 : bkV q < bkV p := by omega
      simp [h1, h2, h3]
/-- A name can stand in valid names. -/
def okN (p : Nm) : Bool := decide (0 ≤ bkV p.a) && inB p.b 0 7
/-- Names in order: each one is a name; each before all behind it; no four of a bucket. -/
def NOrd (ps : List Nm) : Prop :=
  (∀ (k : Nat) p, ps[k]? = some p → okN p = true) ∧ (∀ (i j : Nat) p q, i < j → ps[i]? = some p → ps[j]? = some q → befT p.a q.a = true) ∧ (∀ (i j : Nat) p q, i + 3 ≤ j → ps[i]? = some p → ps[j]? = some q → bkV p.a ≠ bkV q.a)
theorem nm_at {ps : List Nm} {k : Nat} {p : Nm} (h : nmStepB ps k = true) (hp : ps[k]? = some p) :
    okN p = true ∧ (∀ q, 0 < k → ps[k - 1]? = some q → befT q.a p.a = true) ∧ ∀ r, 3 ≤ k → ps[k - 3]? = some r → bkV r.a ≠ bkV p.a := by
  match k with
  | 0 =>
    simp only [nmStepB, hp, Bool.and_true] at h
    exact ⟨h, fun q hq => absurd hq (by omega), fun r hr => absurd hr (by omega)⟩
  | 1 =>
    obtain ⟨q, hq⟩ : ∃ q, ps[0]? = some q := ⟨_, List.getElem?_eq_getElem (by have := (List.getElem?_eq_some_iff.1 hp).1; omega)⟩
    rw [nmStep_1 hp (by omega) (by omega) hq, bef_step, Bool.and_eq_true] at h
    refine ⟨h.1, fun q' _ hq' => ?_, fun r hr => absurd hr (by omega)⟩
    rw [show 1 - 1 = 0 from rfl, hq] at hq'
    injection hq' with hq'
    exact hq' ▸ h.2
  | 2 =>
    obtain ⟨q, hq⟩ : ∃ q, ps[1]? = some q := ⟨_, List.getElem?_eq_getElem (by have := (List.getElem?_eq_some_iff.1 hp).1; omega)⟩
    rw [nmStep_1 hp (by omega) (by omega) hq, bef_step, Bool.and_eq_true] at h
    refine ⟨h.1, fun q' _ hq' => ?_, fun r hr => absurd hr (by omega)⟩
    rw [show 2 - 1 = 1 from rfl, hq] at hq'
    injection hq' with hq'
    exact hq' ▸ h.2
  | k + 3 =>
    obtain ⟨q, hq⟩ : ∃ q, ps[k + 3 - 1]? = some q := ⟨_, List.getElem?_eq_getElem (by have := (List.getElem?_eq_some_iff.1 hp).1; omega)⟩
    obtain ⟨r, hr⟩ : ∃ r, ps[k + 3 - 3]? = some r := ⟨_, List.getElem?_eq_getElem (by have := (List.getElem?_eq_some_iff.1 hp).1; omega)⟩
    rw [nmStep_3 hp (by omega) hq hr, bef_step] at h
    simp only [Bool.and_eq_true, Bool.not_eq_true', beq_eq_false_iff_ne, ne_eq] at h
    refine ⟨by simp only [okN, Bool.and_eq_true]; exact h.1.1, fun q' _ hq' => ?_, fun r' _ hr' => ?_⟩
    · rw [hq] at hq'
      injection hq' with hq'
      exact hq' ▸ h.1.2
    · rw [hr] at hr'
      injection hr' with hr'
      exact hr' ▸ h.2
theorem nm_ord {ps : List Nm} (h : nmB ps = true) : NOrd ps := by
  have hs : ∀ (k : Nat) p, ps[k]? = some p → _ := fun k p hp => nm_at (nm_steps h k (List.getElem?_eq_some_iff.1 hp).1) hp
  have hb : ∀ (d i : Nat) p q, ps[i]? = some p → ps[i + d + 1]? = some q → befT p.a q.a = true := by
    intro d
    induction d with
    | zero => exact fun i p q hp hq => (hs _ q hq).2.1 p (by omega) (by rw [show i + 0 + 1 - 1 = i by omega]; exact hp)
    | succ d ih =>
      intro i p q hp hq
      obtain ⟨r, hr⟩ : ∃ r, ps[i + d + 1]? = some r := ⟨_, List.getElem?_eq_getElem (by have := (List.getElem?_eq_some_iff.1 hq).1; omega)⟩
      exact bef_trans (ih i p r hp hr) ((hs _ q hq).2.1 r (by omega) (by rw [show i + (d + 1) + 1 - 1 = i + d + 1 by omega]; exact hr))
  have hb2 : ∀ (i j : Nat) p q, i < j → ps[i]? = some p → ps[j]? = some q → befT p.a q.a = true := fun i j p q hij hp hq => by
    obtain ⟨d, rfl⟩ : ∃ d, j = i + d + 1 := ⟨j - i - 1, by omega⟩
    exact hb d i p q hp hq
  refine ⟨fun k p hp => (hs k p hp).1, hb2, fun i j p q hij hp hq e => ?_⟩
  obtain ⟨r, hr⟩ : ∃ r, ps[j - 3]? = some r := ⟨_, List.getElem?_eq_getElem (by have := (List.getElem?_eq_some_iff.1 hq).1; omega)⟩
  have h1 := (hs j q hq).2.2 r (by omega) hr
  have h2 := bef_bk (hb2 (j - 3) j r q (by omega) hr hq)
  rcases Nat.lt_or_ge i (j - 3) with h3 | h3
  · have h4 := bef_bk (hb2 i (j - 3) p r h3 hp hr)
    omega
  · have h5 : i = j - 3 := by omega
    subst h5
    rw [hp] at hr
    injection hr with hr
    exact h1 (hr ▸ e)
theorem ord_nm {ps : List Nm} (h : NOrd ps) : nmB ps = true := by
  refine nm_end fun k hk => ?_
  obtain ⟨p, hp⟩ : ∃ p, ps[k]? = some p := ⟨_, List.getElem?_eq_getElem hk⟩
  have h0 := h.1 k p hp
  by_cases hz : k = 0
  · subst hz
    simp only [nmStepB, hp, Bool.and_true]
    exact h0
  · obtain ⟨q, hq⟩ : ∃ q, ps[k - 1]? = some q := ⟨_, List.getElem?_eq_getElem (by omega)⟩
    have h1 := h.2.1 (k - 1) k q p (by omega) hq hp
    by_cases h3 : k < 3
    · rw [nmStep_1 hp (by omega) h3 hq, bef_step, Bool.and_eq_true]
      exact ⟨h0, h1⟩
    · obtain ⟨r, hr⟩ : ∃ r, ps[k - 3]? = some r := ⟨_, List.getElem?_eq_getElem (by omega)⟩
      have h2 := h.2.2 (k - 3) k r p (by omega) hr hp
      rw [nmStep_3 hp (by omega) hq hr, bef_step]
      simp only [Bool.and_eq_true, Bool.not_eq_true', beq_eq_false_iff_ne, ne_eq]
      exact ⟨⟨by simpa only [okN, Bool.and_eq_true] using h0, h1⟩, h2⟩
/-- Valid names, some of them left out. -/
theorem ord_sub {ps qs : List Nm} (h : NOrd ps) (f : Nat → Nat) (hf : ∀ i j, i < j → f i < f j) (hq : ∀ (k : Nat) p, qs[k]? = some p → ps[f k]? = some p) : NOrd qs := by
  have h3 : ∀ i j, i + 3 ≤ j → f i + 3 ≤ f j := fun i j hij => by
    have h1 := hf i (i + 1) (by omega)
    have h2 := hf (i + 1) (i + 2) (by omega)
    have h4 := hf (i + 2) (i + 3) (by omega)
    rcases Nat.lt_or_ge (i + 3) j with h5 | h5
    · have := hf (i + 3) j h5; omega
    · obtain rfl : j = i + 3 := by omega
      omega
  exact ⟨fun k p hp => h.1 _ _ (hq k p hp), fun i j p q hij hp hq' => h.2.1 _ _ p q (hf i j hij) (hq i p hp) (hq j q hq'), fun i j p q hij hp hq' => h.2.2 _ _ p q (h3 i j hij) (hq i p hp) (hq j q hq')⟩
theorem nm_tail {p : Nm} {r : List Nm} (h : nmB (p :: r) = true) : nmB r = true :=
  ord_nm (ord_sub (nm_ord h) (fun k => k + 1) (fun i j hij => by omega) (fun k q hq => by simpa using hq))
theorem nm_twice (p : Nm) (r : List Nm) : nmB (p :: p :: r) = false := by
  cases h : nmB (p :: p :: r) with
  | false => rfl
  | true =>
    have := (nm_ord h).2.1 0 1 p p (by omega) rfl rfl
    rw [bef_irr] at this
    cases this
/-- Where a further one goes: the names before it. -/
def befN (n : Nm) (p : Nm) : Bool := befT p.a n.a
def insNms (ps : List Nm) (n : Nm) : List Nm := ps.takeWhile (befN n) ++ n :: ps.dropWhile (befN n)
/-- What PutName answers. -/
def putNms (ps : List Nm) (n : Nm) : List Nm := if nmB ps then (if nmB (insNms ps n) then insNms ps n else ps) else []
def putNok (ps : List Nm) (n : Nm) : Bool := nmB ps && nmB (insNms ps n)
/-- Names without a text. -/
def outNms (ps : List Nm) (s : ByteArray) : List Nm := ps.filter fun p => p.a.toList != s.toList
/-- What DropName answers. -/
def dropNms (ps : List Nm) (s : ByteArray) : List Nm := if nmB ps then outNms ps s else []
def dropNok (ps : List Nm) (s : ByteArray) : Bool := nmB ps && decide ((outNms ps s).length < ps.length)
theorem ord_tail {p : Nm} {r : List Nm} (h : NOrd (p :: r)) : NOrd r := ord_sub h (fun k => k + 1) (fun i j hij => by omega) (fun k q hq => by simpa using hq)
/-- Among names in order, those before a further one come first. -/
theorem bef_first {ps : List Nm} {n : Nm} (h : NOrd ps) : ps.filter (befN n) = ps.takeWhile (befN n) ∧ ps.filter (fun p => !befN n p) = ps.dropWhile (befN n) := by
  induction ps with
  | nil => exact ⟨rfl, rfl⟩
  | cons p r ih =>
    have hr := ih (ord_tail h)
    cases hp : befN n p with
    | true => exact ⟨by rw [List.filter_cons_of_pos hp, List.takeWhile_cons_of_pos hp, hr.1], by rw [List.filter_cons_of_neg (by simp [hp]), List.dropWhile_cons_of_pos hp, hr.2]⟩
    | false =>
      have ha : ∀ q, q ∈ r → befN n q = false := fun q hq => by
        obtain ⟨j, hj⟩ := List.getElem?_of_mem hq
        have h1 := h.2.1 0 (j + 1) p q (by omega) rfl (by simpa using hj)
        cases hb : befN n q with
        | false => rfl
        | true =>
          have h2 : befN n p = true := bef_trans h1 hb
          rw [hp] at h2
          cases h2
      refine ⟨?_, ?_⟩
      · rw [List.filter_cons_of_neg (by simp [hp]), List.takeWhile_cons_of_neg (by simp [hp])]
        exact List.filter_eq_nil_iff.2 fun q hq => by simp [ha q hq]
      · rw [List.filter_cons_of_pos (by simp [hp]), List.dropWhile_cons_of_neg (by simp [hp])]
        exact congrArg _ (List.filter_eq_self.2 fun q hq => by simp [ha q hq])
theorem ins_filter {ps : List Nm} {n : Nm} (h : NOrd ps) : ps.filter (befN n) ++ [n] ++ ps.filter (fun p => !befN n p) = insNms ps n := by
  rw [(bef_first h).1, (bef_first h).2, insNms, List.append_assoc]
  rfl
theorem ins_length (ps : List Nm) (n : Nm) : (insNms ps n).length = ps.length + 1 := by
  have h := congrArg List.length (List.takeWhile_append_dropWhile (p := befN n) (l := ps))
  rw [List.length_append] at h
  simp only [insNms, List.length_append, List.length_cons]
  omega
theorem ins_mem {ps : List Nm} {n p : Nm} (h : p ∈ insNms ps n) : p = n ∨ p ∈ ps := by
  simp only [insNms, List.mem_append, List.mem_cons] at h
  rcases h with h | h | h
  · exact .inr (List.takeWhile_sublist _ |>.subset h)
  · exact .inl h
  · exact .inr (List.dropWhile_sublist _ |>.subset h)
theorem putN_length (ps : List Nm) (n : Nm) : (putNms ps n).length ≤ ps.length + 1 := by
  unfold putNms
  split
  · split
    · rw [ins_length]; omega
    · omega
  · simp
theorem putN_mem {ps : List Nm} {n p : Nm} (h : p ∈ putNms ps n) : p = n ∨ p ∈ ps := by
  unfold putNms at h
  split at h
  · split at h
    · exact ins_mem h
    · exact .inr h
  · cases h
theorem outN_length (ps : List Nm) (s : ByteArray) : (outNms ps s).length ≤ ps.length := List.length_filter_le _ _
theorem dropN_length (ps : List Nm) (s : ByteArray) : (dropNms ps s).length ≤ ps.length := by
  unfold dropNms
  split
  · exact outN_length _ _
  · simp
theorem outN_none {ps : List Nm} {s : ByteArray} (h : ∀ p, p ∈ ps → p.a.toList ≠ s.toList) : outNms ps s = ps := List.filter_eq_self.2 fun p hp => by simpa using h p hp
/-- A further name in its place: without it the names are as before, and it is found. -/
theorem putN_back {ps : List Nm} {n : Nm} (h : putNok ps n = true) : putNms ps n = insNms ps n ∧ nmB (insNms ps n) = true ∧ dropNms (insNms ps n) n.a = ps ∧ dropNok (insNms ps n) n.a = true ∧ findV (insNms ps n) n.a = n.b := by
  obtain ⟨h1, h2⟩ : nmB ps = true ∧ nmB (insNms ps n) = true := by simpa [putNok] using h
  have ho := nm_ord h2
  obtain ⟨L, hL⟩ : ∃ L, ps.takeWhile (befN n) = L := ⟨_, rfl⟩
  obtain ⟨R, hR⟩ : ∃ R, ps.dropWhile (befN n) = R := ⟨_, rfl⟩
  have hps : L ++ R = ps := by rw [← hL, ← hR]; exact List.takeWhile_append_dropWhile
  have hin : insNms ps n = L ++ n :: R := by rw [insNms, hL, hR]
  rw [hin] at ho
  have hl : ∀ (k : Nat) p, L[k]? = some p → p.a.toList ≠ n.a.toList := fun k p hp => by
    have hk := (List.getElem?_eq_some_iff.1 hp).1
    exact bef_ne (ho.2.1 k L.length p n hk (by rw [List.getElem?_append_left hk]; exact hp) (by rw [List.getElem?_append_right (Nat.le_refl _), Nat.sub_self]; rfl))
  have hr : ∀ (k : Nat) p, R[k]? = some p → p.a.toList ≠ n.a.toList := fun k p hp => by
    exact (bef_ne (ho.2.1 L.length (L.length + (k + 1)) n p (by omega) (by rw [List.getElem?_append_right (Nat.le_refl _), Nat.sub_self]; rfl) (by rw [List.getElem?_append_right (by omega), Nat.add_sub_cancel_left]; simpa using hp))).symm
  have hout : outNms (insNms ps n) n.a = ps := by
    rw [hin, outNms, List.filter_append, List.filter_cons_of_neg (by simp), ← hps]
    congr 1
    · exact outN_none (s := n.a) fun p hp => by
        obtain ⟨k, hk⟩ := List.getElem?_of_mem hp
        exact hl k p hk
    · exact outN_none (s := n.a) fun p hp => by
        obtain ⟨k, hk⟩ := List.getElem?_of_mem hp
        exact hr k p hk
  refine ⟨by simp [putNms, h1, h2], h2, by simp [dropNms, h2, hout], by simp [dropNok, h2, hout, ins_length], ?_⟩
  simp only [findV, h2, if_true]
  refine nmFind_at (k := L.length) (p := n) (by rw [hin, List.getElem?_append_right (Nat.le_refl _), Nat.sub_self]; rfl) rfl fun j q hj hq => ?_
  rw [hin, List.getElem?_append_left hj] at hq
  exact hl j q hq
theorem putN_not {ps : List Nm} {n : Nm} (h : putNok ps n = false) : putNms ps n = ps ∨ putNms ps n = [] := by
  unfold putNms
  split
  · next h1 =>
    split
    · next h2 => simp [putNok, h1, h2] at h
    · exact .inl rfl
  · exact .inr rfl
/-- A name is dropped: it is not found then, and there is one less. -/
theorem dropN_gone {ps : List Nm} {s : ByteArray} (h : dropNok ps s = true) : dropNms ps s = outNms ps s ∧ nmB (outNms ps s) = true ∧ findV (outNms ps s) s = -1 ∧ (outNms ps s).length + 1 = ps.length := by
  obtain ⟨h1, h2⟩ : nmB ps = true ∧ (outNms ps s).length < ps.length := by simpa [dropNok] using h
  have ho := nm_ord h1
  obtain ⟨p, hp, hpe⟩ : ∃ p, p ∈ ps ∧ p.a.toList = s.toList := by
    apply Classical.byContradiction
    intro hn
    have := outN_none (ps := ps) (s := s) fun p hp he => hn ⟨p, hp, he⟩
    rw [this] at h2
    omega
  obtain ⟨L, R, rfl⟩ := List.append_of_mem hp
  have hl : ∀ (k : Nat) q, L[k]? = some q → q.a.toList ≠ s.toList := fun k q hq => by
    have hk := (List.getElem?_eq_some_iff.1 hq).1
    rw [← hpe]
    exact bef_ne (ho.2.1 k L.length q p hk (by rw [List.getElem?_append_left hk]; exact hq) (by rw [List.getElem?_append_right (Nat.le_refl _), Nat.sub_self]; rfl))
  have hr : ∀ (k : Nat) q, R[k]? = some q → q.a.toList ≠ s.toList := fun k q hq => by
    rw [← hpe]
    exact (bef_ne (ho.2.1 L.length (L.length + (k + 1)) p q (by omega) (by rw [List.getElem?_append_right (Nat.le_refl _), Nat.sub_self]; rfl) (by rw [List.getElem?_append_right (by omega), Nat.add_sub_cancel_left]; simpa using hq))).symm
  have hout : outNms (L ++ p :: R) s = L ++ R := by
    rw [outNms, List.filter_append, List.filter_cons_of_neg (by simp [hpe])]
    congr 1
    · exact outN_none fun q hq => by
        obtain ⟨k, hk⟩ := List.getElem?_of_mem hq
        exact hl k q hk
    · exact outN_none fun q hq => by
        obtain ⟨k, hk⟩ := List.getElem?_of_mem hq
        exact hr k q hk
  have hv : nmB (L ++ R) = true := by
    refine ord_nm (ord_sub ho (fun k => if k < L.length then k else k + 1) (fun i j hij => ?_) (fun k q hq => ?_))
    · split <;> split <;> omega
    · split
      · next hk => rw [List.getElem?_append_left hk] at hq ⊢; exact hq
      · next hk =>
        rw [List.getElem?_append_right (by omega)] at hq ⊢
        rw [show k + 1 - L.length = (k - L.length) + 1 by omega]
        simpa using hq
  refine ⟨by simp [dropNms, h1], by rw [hout]; exact hv, ?_, by rw [hout]; simp only [List.length_append, List.length_cons]; omega⟩
  simp only [findV, hout, hv, if_true]
  refine nmFind_none fun j q hq => ?_
  rcases List.mem_append.1 (List.mem_of_getElem? hq) with h3 | h3
  · obtain ⟨k, hk⟩ := List.getElem?_of_mem h3
    exact hl k q hk
  · obtain ⟨k, hk⟩ := List.getElem?_of_mem h3
    exact hr k q hk
theorem dropN_not {ps : List Nm} {s : ByteArray} (h : dropNok ps s = false) : dropNms ps s = ps ∨ dropNms ps s = [] := by
  unfold dropNms
  split
  · next h1 =>
    refine .inl (List.Sublist.eq_of_length (l₁ := outNms ps s) List.filter_sublist ?_)
    have h2 := outN_length ps s
    simp only [dropNok, h1, Bool.true_and, decide_eq_false_iff_not] at h
    omega
  · exact .inr rfl
end Go.Proofs.Ytengcjglkcmkbaa
