/- Plain facts on rolling forward: the pages since a stamp, by stamps, and a table after them.
   What the program's PagesSince answers.
   What the model's PagesSince answers. Written by mk/roll_spec.py.
   PagesSince by letters.
   What the program's withoutPage and RollForward answer. Written by mk/rolls.py.
   What the model's RollForward answers. Written by mk/rolls.py. -/
import Derived.Test.YteniikfgellhfaaCounts
import Derived.Test.YteniikfgellhfaaTables7
import Derived.Test.YteniikfgellhfaaHand
import Derived.Test.YteniikfgellhfaaLawFiles
namespace Go.Proofs.Yteniikfgellhfaa
open Go.ChangeShapes Go.WideShapes Go.ChangeAt Go.RowKit
set_option linter.unusedVariables false
set_option linter.unusedSimpArgs false

theorem roll_page {bs : List Bk} (hd : devB bs = true) {k : Nat} {p : Pg} (hp : pageAt bs k = some p) : pageB p.f p.a p.b p.c p.d = true := by
  obtain ⟨_, hall⟩ := dev_parts hd
  unfold pageAt at hp
  rw [Option.bind_eq_some_iff] at hp
  obtain ⟨b, hb, hq⟩ := hp
  obtain ⟨_, h4, ho⟩ := block_parts (hall b (List.mem_of_getElem? hb))
  have hlt := (List.getElem?_eq_some_iff.1 hq).1
  unfold ordB at ho
  rw [List.all_eq_true] at ho
  have h1 := ho (k % 4) (by simpa using hlt)
  unfold okAt at h1
  rw [Bool.and_eq_true] at h1
  have h2 := h1.1
  have e : b.ps.getD (k % 4) pz = p := by simp [List.getD_eq_getElem?_getD, hq]
  rw [e] at h2
  exact h2
theorem roll_stamp {bs : List Bk} (hd : devB bs = true) {k : Nat} {p : Pg} (hp : pageAt bs k = some p) : 0 ≤ p.d ∧ p.d ≤ 1000000 ∧ (p.f = true → 1 ≤ p.d) ∧ (p.f = false → p.d = 0) := by
  have h := roll_page hd hp
  unfold pageB at h
  cases hf : p.f
  · rw [hf] at h
    simp only [Bool.false_eq_true, if_false, Bool.and_eq_true, decide_eq_true_eq] at h
    obtain ⟨_, h4⟩ := h
    exact ⟨by omega, by omega, fun h => (by cases h), fun _ => h4⟩
  · rw [hf] at h
    simp only [if_true, Bool.and_eq_true] at h
    have := inB_iff.1 h.2
    exact ⟨by omega, by omega, fun _ => (by omega), fun h => (by cases h)⟩
theorem roll_read {bs : List Bk} (hd : devB bs = true) {k : Nat} (hk : k < 4 * bs.length) : ∃ p, pageAt bs k = some p ∧ readV bs (k : Int) = p := by
  obtain ⟨_, hall⟩ := dev_parts hd
  have h4 : ∀ b, b ∈ bs → b.ps.length = 4 := fun b hm => (block_parts (hall b hm)).2.1
  obtain ⟨p, hp⟩ := page_some h4 hk
  refine ⟨p, hp, ?_⟩
  unfold readV
  rw [if_pos hd, if_pos (by omega), Int.toNat_natCast, hp]
  rfl
/-- The stamp of a page. -/
def stV (bs : List Bk) (x : Int) : Int := (readV bs x).d
/-- Is a page written, and since then? -/
def sinB (bs : List Bk) (s x : Int) : Bool := (readV bs x).f && decide (s < stV bs x)
/-- A page put behind all whose stamp is not greater. -/
def insV (bs : List Bk) (L : List Int) (x : Int) : List Int := L.filter (fun y => decide (stV bs y ≤ stV bs x)) ++ x :: L.filter (fun y => !decide (stV bs y ≤ stV bs x))
theorem ins_perm (bs : List Bk) (L : List Int) (x : Int) : (insV bs L x).Perm (x :: L) := by
  unfold insV
  exact List.perm_middle.trans (List.Perm.cons x (List.filter_append_perm _ L))
theorem insP_length (bs : List Bk) (L : List Int) (x : Int) : (insV bs L x).length = L.length + 1 := by
  rw [(ins_perm bs L x).length_eq]
  rfl
theorem insP_mem {bs : List Bk} {L : List Int} {x y : Int} : y ∈ insV bs L x ↔ y = x ∨ y ∈ L := by
  rw [(ins_perm bs L x).mem_iff, List.mem_cons]
/-- Stamps do not descend. -/
def Asc (bs : List Bk) (L : List Int) : Prop := L.Pairwise fun a b => stV bs a ≤ stV bs b
theorem ins_asc {bs : List Bk} {L : List Int} (h : Asc bs L) (x : Int) : Asc bs (insV bs L x) := by
  unfold Asc insV
  rw [List.pairwise_append]
  refine ⟨h.filter _, ?_, fun a ha b hb => ?_⟩
  · rw [List.pairwise_cons]
    refine ⟨fun b hb => ?_, h.filter _⟩
    rw [List.mem_filter] at hb
    have := hb.2
    simp only [Bool.not_eq_true', decide_eq_false_iff_not] at this
    omega
  · rw [List.mem_filter] at ha
    have h1 := of_decide_eq_true ha.2
    rw [List.mem_cons] at hb
    rcases hb with rfl | hb
    · exact h1
    · rw [List.mem_filter] at hb
      have := hb.2
      simp only [Bool.not_eq_true', decide_eq_false_iff_not] at this
      omega
/-- The place is found from the end: what stands before it has no greater stamp, what stands behind it has. -/
theorem ins_at {bs : List Bk} {L : List Int} (h : Asc bs L) {x : Int} {k : Nat} (hk : k ≤ L.length) (hb : ∀ (i : Nat) (y : Int), k ≤ i → L[i]? = some y → stV bs x < stV bs y) (ha : k = 0 ∨ ∃ y, L[k - 1]? = some y ∧ stV bs y ≤ stV bs x) :
    insV bs L x = L.take k ++ x :: L.drop k := by
  have e := List.take_append_drop k L
  have h1 : ∀ y, y ∈ L.take k → stV bs y ≤ stV bs x := by
    intro y hy
    obtain ⟨i, hi⟩ := List.mem_iff_getElem?.1 hy
    have hik : i < k := by
      have := (List.getElem?_eq_some_iff.1 hi).1
      rw [List.length_take] at this
      omega
    rw [List.getElem?_take, if_pos hik] at hi
    rcases ha with rfl | ⟨z, hz, hzx⟩
    · omega
    · rcases Nat.lt_or_ge i (k - 1) with h2 | h2
      · obtain ⟨l1, g1⟩ := List.getElem?_eq_some_iff.1 hi
        obtain ⟨l2, g2⟩ := List.getElem?_eq_some_iff.1 hz
        have := List.pairwise_iff_getElem.1 h i (k - 1) l1 l2 h2
        rw [g1, g2] at this
        omega
      · obtain rfl : i = k - 1 := by omega
        rw [hi] at hz
        injection hz with hz
        subst hz
        exact hzx
  have h2 : ∀ y, y ∈ L.drop k → stV bs x < stV bs y := by
    intro y hy
    obtain ⟨i, hi⟩ := List.mem_iff_getElem?.1 hy
    rw [List.getElem?_drop] at hi
    exact hb _ _ (by omega) hi
  unfold insV
  have f1 : L.filter (fun y => decide (stV bs y ≤ stV bs x)) = L.take k := by
    conv => lhs; rw [← e]
    rw [List.filter_append, List.filter_eq_self.2 (fun y hy => decide_eq_true (h1 y hy)), List.filter_eq_nil_iff.2 (fun y hy => by have := h2 y hy; simp; omega), List.append_nil]
  have f2 : L.filter (fun y => !decide (stV bs y ≤ stV bs x)) = L.drop k := by
    conv => lhs; rw [← e]
    rw [List.filter_append, List.filter_eq_nil_iff.2 (fun y hy => by have := h1 y hy; simp; omega), List.filter_eq_self.2 (fun y hy => by have := h2 y hy; simp; omega), List.nil_append]
  rw [f1, f2]
theorem fil_take {p : Int → Bool} {L : List Int} {i : Nat} {x : Int} (h : L[i]? = some x) : (L.take (i + 1)).filter p = (L.take i).filter p ++ if p x then [x] else [] := by
  rw [List.take_add_one, h, List.filter_append]
  cases hp : p x <;> simp [hp]
theorem fil_yes {p : Int → Bool} {L : List Int} {i : Nat} {x : Int} (h : L[i]? = some x) (hp : p x = true) : (L.take (i + 1)).filter p = (L.take i).filter p ++ [x] := by rw [fil_take h, if_pos hp]
theorem fil_no {p : Int → Bool} {L : List Int} {i : Nat} {x : Int} (h : L[i]? = some x) (hp : p x = false) : (L.take (i + 1)).filter p = (L.take i).filter p := by
  rw [fil_take h, hp]
  simp
theorem fil_le (p : Int → Bool) (L : List Int) (i : Nat) : ((L.take i).filter p).length ≤ L.length := Nat.le_trans (List.length_filter_le _ _) (by rw [List.length_take]; exact Nat.min_le_right _ _)
/-- The pages since a stamp among the first k, by stamps. -/
def sinTo (bs : List Bk) (s : Int) : Nat → List Int
  | 0 => []
  | k + 1 => if sinB bs s (k : Int) then insV bs (sinTo bs s k) (k : Int) else sinTo bs s k
theorem sin_yes {bs : List Bk} {s : Int} {k : Nat} (h : sinB bs s (k : Int) = true) : sinTo bs s (k + 1) = insV bs (sinTo bs s k) (k : Int) := by simp only [sinTo, h, if_true]
theorem sin_no {bs : List Bk} {s : Int} {k : Nat} (h : sinB bs s (k : Int) = false) : sinTo bs s (k + 1) = sinTo bs s k := by simp only [sinTo, h]; rfl
theorem sin_le (bs : List Bk) (s : Int) (k : Nat) : (sinTo bs s k).length ≤ k := by
  induction k with
  | zero => exact Nat.le_refl _
  | succ k ih =>
    cases h : sinB bs s (k : Int)
    · rw [sin_no h]; omega
    · rw [sin_yes h, insP_length]; omega
theorem sin_mem {bs : List Bk} {s : Int} {k : Nat} {x : Int} : x ∈ sinTo bs s k ↔ 0 ≤ x ∧ x < k ∧ sinB bs s x = true := by
  induction k with
  | zero => simp [sinTo]; omega
  | succ k ih =>
    cases h : sinB bs s (k : Int)
    · rw [sin_no h, ih]
      constructor
      · rintro ⟨h1, h2, h3⟩; exact ⟨h1, by omega, h3⟩
      · rintro ⟨h1, h2, h3⟩
        refine ⟨h1, ?_, h3⟩
        rcases Int.lt_or_le x k with h4 | h4
        · exact h4
        · obtain rfl : x = (k : Int) := by omega
          rw [h] at h3; cases h3
    · rw [sin_yes h, insP_mem, ih]
      constructor
      · rintro (rfl | ⟨h1, h2, h3⟩)
        · exact ⟨by omega, by omega, h⟩
        · exact ⟨h1, by omega, h3⟩
      · rintro ⟨h1, h2, h3⟩
        rcases Int.lt_or_le x k with h4 | h4
        · exact .inr ⟨h1, h4, h3⟩
        · exact .inl (by omega)
theorem sin_asc (bs : List Bk) (s : Int) (k : Nat) : Asc bs (sinTo bs s k) := by
  induction k with
  | zero => exact List.Pairwise.nil
  | succ k ih =>
    cases h : sinB bs s (k : Int)
    · rw [sin_no h]; exact ih
    · rw [sin_yes h]; exact ins_asc ih _
theorem sin_nodup (bs : List Bk) (s : Int) (k : Nat) : (sinTo bs s k).Nodup := by
  induction k with
  | zero => exact List.nodup_nil
  | succ k ih =>
    cases h : sinB bs s (k : Int)
    · rw [sin_no h]; exact ih
    · rw [sin_yes h, (ins_perm _ _ _).nodup_iff, List.nodup_cons]
      refine ⟨fun hm => ?_, ih⟩
      have := (sin_mem.1 hm).2.1
      omega
/-- What PagesSince answers. -/
def sinV (bs : List Bk) (s : Int) : List Int := if devB bs then sinTo bs s (4 * bs.length) else []
theorem sinV_no {bs : List Bk} (h : devB bs = false) (s : Int) : sinV bs s = [] := by simp [sinV, h]
theorem sinV_yes {bs : List Bk} (h : devB bs = true) (s : Int) : sinV bs s = sinTo bs s (4 * bs.length) := by simp [sinV, h]
theorem sinV_small (bs : List Bk) (s : Int) : (sinV bs s).length ≤ 48 := by
  cases h : devB bs
  · rw [sinV_no h]; simp
  · obtain ⟨⟨_, h12⟩, _⟩ := dev_parts h
    rw [sinV_yes h]
    exact Nat.le_trans (sin_le _ _ _) (by omega)
theorem sinV_in {bs : List Bk} {s x : Int} (h : x ∈ sinV bs s) : devB bs = true ∧ 0 ≤ x ∧ x < 4 * bs.length ∧ sinB bs s x = true := by
  cases hd : devB bs
  · rw [sinV_no hd] at h; simp at h
  · rw [sinV_yes hd] at h
    have := sin_mem.1 h
    exact ⟨rfl, this.1, by omega, this.2.2⟩
/-- A page of the list, opened. -/
theorem sinV_page {bs : List Bk} {s x : Int} (h : x ∈ sinV bs s) : ∃ (a f j : Nat) (v d : Int), x = (a : Int) ∧ a < 4 * bs.length ∧ pageAt bs a = some ⟨true, (f : Int), (j : Int), v, d⟩ ∧ readV bs x = ⟨true, (f : Int), (j : Int), v, d⟩ ∧ f < 8 ∧ j < 6 ∧ s < d := by
  obtain ⟨hd, h0, h1, h2⟩ := sinV_in h
  obtain ⟨a, rfl⟩ := Int.eq_ofNat_of_zero_le h0
  obtain ⟨⟨pf, pa, pb, v, d⟩, hp, hr⟩ := roll_read hd (k := a) (by omega)
  unfold sinB stV at h2
  rw [hr] at h2
  simp only [Bool.and_eq_true, decide_eq_true_eq] at h2
  obtain ⟨rfl, h3⟩ := h2
  obtain ⟨f, j, ea, eb, hf, hj⟩ := full_in hd hp rfl
  dsimp only at ea eb
  subst ea; subst eb
  exact ⟨a, f, j, v, d, rfl, by omega, hp, hr, hf, hj, h3⟩
/-! ### Tables -/
/-- The table without a page, in its first m cells. -/
def clrTo (xss : List (List Int)) (x : Int) : Nat → List (List Int)
  | 0 => xss
  | m + 1 => if cellO xss (m / 6) (m % 6) = some x then tset (clrTo xss x m) (m / 6) (m % 6) (-1) else clrTo xss x m
theorem clr_yes {xss : List (List Int)} {x : Int} {m : Nat} (h : cellO xss (m / 6) (m % 6) = some x) : clrTo xss x (m + 1) = tset (clrTo xss x m) (m / 6) (m % 6) (-1) := by simp only [clrTo, h, if_true]
theorem clr_no {xss : List (List Int)} {x : Int} {m : Nat} (h : cellO xss (m / 6) (m % 6) ≠ some x) : clrTo xss x (m + 1) = clrTo xss x m := by simp only [clrTo, h, if_false]
theorem clr_tv {xss : List (List Int)} (h : TV xss) (x : Int) : ∀ m, m ≤ 48 → TV (clrTo xss x m)
  | 0, _ => h
  | m + 1, hm => by
    have ih := clr_tv h x m (by omega)
    by_cases e : cellO xss (m / 6) (m % 6) = some x
    · rw [clr_yes e]
      exact tset_valid ih (by omega) (by omega) (by omega) (fun hE => hE.1 rfl)
    · rw [clr_no e]; exact ih
theorem clr_cell {xss : List (List Int)} (h : TV xss) (x : Int) : ∀ m, m ≤ 48 → ∀ f k, k < 6 → cellO (clrTo xss x m) f k = if 6 * f + k < m ∧ cellO xss f k = some x then some (-1) else cellO xss f k
  | 0, _, f, k, _ => by rw [if_neg (by omega)]; rfl
  | m + 1, hm, f, k, hk => by
    have ih := clr_cell h x m (by omega) f k hk
    by_cases e : cellO xss (m / 6) (m % 6) = some x
    · rw [clr_yes e, tset_cell (clr_tv h x m (by omega)) (by omega) (by omega)]
      by_cases hq : f = m / 6 ∧ k = m % 6
      · obtain ⟨rfl, rfl⟩ := hq
        rw [if_pos ⟨rfl, rfl⟩, if_pos ⟨by omega, e⟩]
      · rw [if_neg hq, ih]
        by_cases hc : cellO xss f k = some x
        · by_cases hlt : 6 * f + k < m
          · rw [if_pos ⟨hlt, hc⟩, if_pos ⟨by omega, hc⟩]
          · rw [if_neg (fun h => hlt h.1), if_neg (fun h => by omega)]
        · rw [if_neg (fun h => hc h.2), if_neg (fun h => hc h.2)]
    · rw [clr_no e, ih]
      by_cases hc : cellO xss f k = some x
      · by_cases hlt : 6 * f + k < m
        · rw [if_pos ⟨hlt, hc⟩, if_pos ⟨by omega, hc⟩]
        · rw [if_neg (fun h => hlt h.1), if_neg (fun h => ?_)]
          have hq : f = m / 6 ∧ k = m % 6 := by omega
          rw [hq.1, hq.2] at hc
          exact e hc
      · rw [if_neg (fun h => hc h.2), if_neg (fun h => hc h.2)]
/-- The cell that comes next is as it was. -/
theorem clr_at {xss : List (List Int)} (h : TV xss) (x : Int) {m : Nat} (hm : m < 48) : cellO (clrTo xss x m) (m / 6) (m % 6) = cellO xss (m / 6) (m % 6) := by
  rw [clr_cell h x m (by omega) _ _ (by omega), if_neg (by omega)]
/-- A page is the one of its file and place, and of no other. -/
def putB (bs : List Bk) (xss : List (List Int)) (x : Int) : List (List Int) := tset (clrTo xss x 48) (readV bs x).a.toNat (readV bs x).b.toNat x
/-- The table after the first k pages of a list. -/
def rollTo (bs : List Bk) (xss : List (List Int)) (L : List Int) : Nat → List (List Int)
  | 0 => xss
  | k + 1 => match L[k]? with
    | some x => putB bs (rollTo bs xss L k) x
    | none => rollTo bs xss L k
theorem roll_step {bs : List Bk} {xss : List (List Int)} {L : List Int} {k : Nat} {x : Int} (h : L[k]? = some x) : rollTo bs xss L (k + 1) = putB bs (rollTo bs xss L k) x := by simp only [rollTo, h]
theorem put_tv {bs : List Bk} {xss : List (List Int)} (h : TV xss) {s x : Int} (hx : x ∈ sinV bs s) : TV (putB bs xss x) := by
  obtain ⟨a, f, j, v, d, rfl, ha, hp, hr, hf, hj, _⟩ := sinV_page hx
  obtain ⟨⟨_, h12⟩, _⟩ := dev_parts (sinV_in hx).1
  unfold putB
  rw [hr]
  simp only [Int.toNat_natCast]
  refine tset_valid (clr_tv h _ 48 (Nat.le_refl _)) hf hj (by omega) fun hE => ?_
  obtain ⟨_, f', k', hc, _⟩ := hE
  have hl := six_lt (clr_tv h (a : Int) 48 (Nat.le_refl _)).six hc
  have hlen := (clr_tv h (a : Int) 48 (Nat.le_refl _)).len
  rw [clr_cell h _ 48 (Nat.le_refl _) _ _ hl.1] at hc
  by_cases hq : cellO xss f' k' = some (a : Int)
  · rw [if_pos ⟨by omega, hq⟩] at hc
    injection hc with hc
    omega
  · rw [if_neg (fun h => hq h.2)] at hc
    exact hq hc
theorem roll_tv {bs : List Bk} {xss : List (List Int)} (h : TV xss) (s : Int) : ∀ k, TV (rollTo bs xss (sinV bs s) k)
  | 0 => h
  | k + 1 => by
    have ih := roll_tv h s k (bs := bs)
    cases hx : (sinV bs s)[k]? with
    | none => simp only [rollTo, hx]; exact ih
    | some x => rw [roll_step hx]; exact put_tv ih (List.mem_of_getElem? hx)
/-- What RollForward answers. -/
def rollV (bs : List Bk) (xss : List (List Int)) (s : Int) : List (List Int) := if devB bs && tabB xss then rollTo bs xss (sinV bs s) (sinV bs s).length else []
theorem rollV_no {bs : List Bk} {xss : List (List Int)} (h : (devB bs && tabB xss) = false) (s : Int) : rollV bs xss s = [] := by simp [rollV, h]
theorem rollV_yes {bs : List Bk} {xss : List (List Int)} (h : devB bs = true) (h' : tabB xss = true) (s : Int) : rollV bs xss s = rollTo bs xss (sinV bs s) (sinV bs s).length := by simp [rollV, h, h']
theorem rollV_tab {bs : List Bk} {xss : List (List Int)} (h : devB bs = true) (h' : tabB xss = true) (s : Int) : tabB (rollV bs xss s) = true := by
  rw [rollV_yes h h']
  exact (tabB_iff _).2 (roll_tv ((tabB_iff _).1 h') s _)
theorem sinV_is {bs cs : List Bk} (h : cs.map Bk.is = bs.map Bk.is) (s : Int) : sinV cs s = sinV bs s := by
  have e0 : ∀ x, stV cs x = stV bs x := fun x => by simp only [stV, readV_is h]
  have e1 : ∀ x, sinB cs s x = sinB bs s x := fun x => by simp only [sinB, e0, readV_is h]
  have e2 : ∀ L x, insV cs L x = insV bs L x := fun L x => by simp only [insV, e0]
  have e3 : ∀ k, sinTo cs s k = sinTo bs s k := fun k => by
    induction k with
    | zero => rfl
    | succ k ih => simp only [sinTo, ih, e1, e2]
  simp only [sinV, devB_is h, e3, is_length h]
theorem rollV_is {bs cs : List Bk} (h : cs.map Bk.is = bs.map Bk.is) (xss : List (List Int)) (s : Int) : rollV cs xss s = rollV bs xss s := by
  have e1 : ∀ X x, putB cs X x = putB bs X x := fun X x => by simp only [putB, readV_is h]
  have e2 : ∀ L k, rollTo cs xss L k = rollTo bs xss L k := fun L k => by
    induction k with
    | zero => rfl
    | succ k ih =>
      cases hx : L[k]? with
      | none => simp only [rollTo, hx, ih]
      | some x => rw [roll_step hx, roll_step hx, ih, e1]
  simp only [rollV, devB_is h, sinV_is h, e2]
/-- What MountTable answers, of what NewerSave answers. -/
def mountV (bs : List Bk) (T : List (List Int)) (ok : Bool) (s : Int) : List (List Int) × Bool :=
  if devB bs then (if ok then (rollV bs T s, true) else (tabOf bs, true)) else ([], false)
end Go.Proofs.Yteniikfgellhfaa
namespace Go.Proofs.Yteniikfgellhfaa
open Go.ChangeShapes Go.WideShapes Go.ChangeAt Go.RowKit
set_option linter.unusedVariables false
set_option linter.unusedSimpArgs false

theorem grownRow {w wr w' : World} {v : Value} (h : w.grownBy wr none) (hg : wr.grownBy w' v.ownBlock) (hv : ∀ g, v.ownBlock = some g → w.heap.size ≤ g) : w.grownBy w' none := by
  cases e : v.ownBlock with
  | none => rw [e] at hg; exact grown_trans h hg
  | some k => rw [e] at hg; exact grown_join h hg (hv k e)
/-- append(u, s...), of any numbers; and where the row lies then. -/
theorem addInts {w : World} {base : Nat} {u : Value} {xs ys : List Int} {A : Option Addr} {B m c : Nat} (h : IOwn w base u xs) (hr : IRow w B A ys) (hl : ys.length = m) (hn : xs.length + m ≤ 1000000) (hb : base ≤ w.heap.size) :
    ∃ u' w', (∀ ty, (Builtin.append_ #[26, 26] ty #[u, .slice A m c]).run Try.prog w = .ok u' w') ∧ IOwn w' base u' (xs ++ ys) ∧ w.grownBy w' u.ownBlock ∧ (u'.ownBlock = u.ownBlock ∨ u'.ownBlock = some w.heap.size) := by
  have h1 := h
  unfold IOwn VOwn at h1
  rw [iv_length] at h1
  rcases Nat.eq_zero_or_pos m with rfl | hpos
  · obtain rfl := List.eq_nil_of_length_eq_zero hl
    exact ⟨u, w, appendInts_none w base u _ A c _ h1, by rw [List.append_nil]; exact h, grown_refl w _, .inl rfl⟩
  · obtain ⟨u', w', hrun, h2, h3, h4⟩ := append_ints _ base u xs.length A B m c ys (iv xs) h1 hr hl hpos (by omega) hb
    refine ⟨u', w', hrun, ?_, h3, h4⟩
    unfold IOwn VOwn
    rw [iv_length, List.length_append, iv_append, hl]
    exact h2
/-- Two rows of the call's own, the pages before and those behind, while a list of pages is read. -/
def PSt (w : World) (A : Option Addr) (L : List Int) (D : Option Addr) (bs : List Bk) (U : Value) (us : List Int) (u : Value) (xs : List Int) (wr : World) : Prop :=
  USt w U us u xs wr ∧ IRow wr w.heap.size A L ∧ DRow wr w.heap.size D bs ∧ w.grownBy wr none
section
variable {w wr w' : World} {A D : Option Addr} {L : List Int} {bs : List Bk} {U u u' : Value} {us xs : List Int}
theorem PSt.keep (h : PSt w A L D bs U us u xs wr) (k : wr.grownBy w' none) : PSt w A L D bs U us u xs w' := ⟨h.1.keep k, VRow.kept h.2.1 k, h.2.2.1.kept k, grown_trans h.2.2.2 k⟩
theorem PSt.swap (h : PSt w A L D bs U us u xs wr) : PSt w A L D bs u xs U us wr := ⟨⟨h.1.2.1, h.1.1, fun g e e' => h.1.2.2 g e' e⟩, h.2⟩
theorem PSt.push {x : Int} (h : PSt w A L D bs U us u xs wr) (hi : IOwn w' w.heap.size u' (xs ++ [x])) (hg : (wr.alloc (.cells #[.int .i64 x] 3)).grownBy w' u.ownBlock) (hk : u'.ownBlock = u.ownBlock ∨ u'.ownBlock = some (wr.heap.size + 1)) : PSt w A L D bs U us u' (xs ++ [x]) w' := by
  have K := grown_alloc (grown_refl wr none) (.cells #[.int .i64 x] 3)
  have hl : ∀ g, u.ownBlock = some g → w.heap.size ≤ g := fun g e => (VOwn.lt h.1.1 g e).1
  exact ⟨h.1.push hi hg hk, VRow.grown (VRow.kept h.2.1 K) hg hl, (h.2.2.1.kept K).grown hg hl, grownRow (grown_trans h.2.2.2 K) hg hl⟩
end
section
variable {D : Option Addr} {nd cd : Nat} {bs : List Bk} {A : Option Addr} {n c : Nat} {L : List Int} {w : World}
set_option maxHeartbeats 2000000 in
theorem withPage_any {x : Nat} (hld : bs.length = nd) (hrd : DRow w w.heap.size D bs) (hd : devB bs = true) (hl : L.length = n) (hr : IRow w w.heap.size A L) (hn : n ≤ 48) (hx : x < 4 * nd) (hL : ∀ y, y ∈ L → 0 ≤ y ∧ y < 4 * (nd : Int)) :
    Calls Try.prog 53 #[.slice D nd cd, .slice A n c, .int .i64 (x : Int)] w (IMade (insV bs L (x : Int)) w) := by
  obtain ⟨⟨pf, pa, pb, pv, s⟩, hp, hrv⟩ := roll_read hd (k := x) (by omega)
  have hsx : stV bs (x : Int) = s := by unfold stV; rw [hrv]
  have hfd : ∀ w : World, (Instr.field 30 (.agg #[.bool pf, .int .i64 pa, .int .i64 pb, .int .i64 pv, .int .i64 s]) 4).run Try.prog w = .ok (.int .i64 s) w := fun _ => by kernel_rfl
  have HP := Lib.hid (And.intro hld (And.intro hd (And.intro hp hL)))
  have HL := Lib.hid hl
  have HX := Lib.hid hsx
  have HR := Lib.hid (And.intro hrd hr)
  have hn48 : n ≤ 1048576 := by omega
  clear hrd hr hd hp hrv hL hld hsx hl
  go_enter Try.func53, Try.ntmps53
  go_wp2_with fail
  refine (pageOf_at _ _ _ bs x _ w HP.out.1 HR.out.1 HP.out.2.1 HP.out.2.2.1).mono ?_
  rintro e w1 ⟨rfl, hk⟩
  have HS := Lib.hid (show PSt w A L D bs (.slice none 0 0) ((L.take 0).filter (fun y => !decide (stV bs y ≤ s))) (.slice none 0 0) ((L.take 0).filter (fun y => decide (stV bs y ≤ s))) w1 from
    ⟨⟨World.ownsRow_nil _ _ _ _, World.ownsRow_nil _ _ _ _, fun g e => by simp [Value.ownBlock] at e⟩, VRow.kept HR.out.2 hk, HR.out.1.kept hk, hk⟩)
  clear hk HR
  go_wp2
  go_loopw [8, 9, 18] (fun u v i wr => ∃ k : Nat, i = .int .i64 k ∧ k ≤ n ∧ PSt w A L D bs v ((L.take k).filter (fun y => !decide (stV bs y ≤ s))) u ((L.take k).filter (fun y => decide (stV bs y ≤ s))) wr) (fun _ _ i _ => n - (intOf i).toNat)
  case atStart => exact ⟨0, rfl, Nat.zero_le _, HS.out⟩
  case round =>
    rename World => wq
    obtain ⟨k, rfl, hk, hS⟩ := hrel
    clear HS
    have HS := Lib.hid hS
    clear hS
    by_cases hlt : k < n
    · have k1 : (k : Int) < n := by omega
      have k0 : decide ((0 : Int) ≤ k) = true := decide_eq_true (by omega)
      obtain ⟨gA, oA, rfl⟩ := IRow.pos HS.out.2.1 (by have := HL.out; omega)
      obtain ⟨y, hy⟩ : ∃ y, L[k]? = some y := ⟨_, List.getElem?_eq_getElem (by have := HL.out; omega)⟩
      have c0 := IRow.cellf HS.out.2.1 hy
      have hyb := HP.out.2.2.2 y (List.mem_of_getElem? hy)
      obtain ⟨a, rfl⟩ := Int.eq_ofNat_of_zero_le hyb.1
      obtain ⟨⟨qf, qa, qb, qv, q⟩, hq, hrq⟩ := roll_read HP.out.2.1 (k := a) (by have := HP.out.1; omega)
      have hsq : stV bs (a : Int) = q := by unfold stV; rw [hrq]
      have hfq : ∀ w : World, (Instr.field 30 (.agg #[.bool qf, .int .i64 qa, .int .i64 qb, .int .i64 qv, .int .i64 q]) 4).run Try.prog w = .ok (.int .i64 q) w := fun _ => by kernel_rfl
      have HY := Lib.hid (And.intro hy (And.intro hsq hq))
      clear hy hsq hq hrq hyb
      go_wp2_with fail
      refine (pageOf_at _ _ _ bs a _ wq HP.out.1 HS.out.2.2.1.here HP.out.2.1 HY.out.2.2).mono ?_
      rintro e w2 ⟨rfl, hkk⟩
      replace HS := Lib.hid (HS.out.keep hkk)
      clear hkk c0
      by_cases hle : q ≤ s
      · have t1 := decide_eq_true hle
        have e1 := fil_yes (p := fun y => decide (stV bs y ≤ s)) HY.out.1 (by rw [HY.out.2.1]; exact t1)
        have e2 := fil_no (p := fun y => !decide (stV bs y ≤ s)) HY.out.1 (by rw [HY.out.2.1, t1]; rfl)
        obtain ⟨u', w3, hrun, hi, hg, hb⟩ := push_intK (wr := w) (a : Int) HS.out.1.1 HS.out.2.2.2.size (Nat.le_trans (fil_le _ _ _) (by have := HL.out; omega))
        have hz := HS.out.push hi hg hb
        rw [← e1, ← e2] at hz
        have HZ := Lib.hid hz
        have HRUN := Lib.hid hrun
        clear hrun hi hg hb hz e1 e2 HS hle
        go_wp2_with (at_builtin; refine wpList_append_run _ rfl (.tmp 28) (.tmp 30) _ _ rfl _ _ rfl rfl HRUN.out ?_)
        go_roundw
        case rel => exact ⟨k + 1, by go_num, by omega, HZ.out⟩
        case measure => simp [intOf]; omega
      · have t1 := decide_eq_false hle
        have e1 := fil_no (p := fun y => decide (stV bs y ≤ s)) HY.out.1 (by rw [HY.out.2.1]; exact t1)
        have e2 := fil_yes (p := fun y => !decide (stV bs y ≤ s)) HY.out.1 (by rw [HY.out.2.1, t1]; rfl)
        obtain ⟨u', w3, hrun, hi, hg, hb⟩ := push_intK (wr := w) (a : Int) HS.out.swap.1.1 HS.out.2.2.2.size (Nat.le_trans (fil_le _ _ _) (by have := HL.out; omega))
        have hz := (HS.out.swap.push hi hg hb).swap
        rw [← e1, ← e2] at hz
        have HZ := Lib.hid hz
        have HRUN := Lib.hid hrun
        clear hrun hi hg hb hz e1 e2 HS hle
        go_wp2_with (at_builtin; refine wpList_append_run _ rfl (.tmp 32) (.tmp 34) _ _ rfl _ _ rfl rfl HRUN.out ?_)
        go_roundw
        case rel => exact ⟨k + 1, by go_num, by omega, HZ.out⟩
        case measure => simp [intOf]; omega
    · obtain rfl : k = n := by omega
      have hfull : L.take k = L := List.take_of_length_le (by have := HL.out; omega)
      rw [hfull] at HS
      have hf1 : (L.filter (fun y => decide (stV bs y ≤ s))).length ≤ k := by rw [← HL.out]; exact List.length_filter_le _ _
      have hf2 : (L.filter (fun y => !decide (stV bs y ≤ s))).length ≤ k := by rw [← HL.out]; exact List.length_filter_le _ _
      obtain ⟨u1, w2, hrun, hi, hg, hb⟩ := push_intK (wr := w) (x : Int) HS.out.1.1 HS.out.2.2.2.size (by omega)
      have hz := HS.out.push hi hg hb
      obtain ⟨Au, cu, e⟩ := IOwn.slice hz.1.2.1
      obtain ⟨m2, hm2⟩ : ∃ m2, (L.filter (fun y => !decide (stV bs y ≤ s))).length = m2 := ⟨_, rfl⟩
      rw [hm2] at e hf2
      subst e
      obtain ⟨u2, w3, hrun2, hi2, hg2, hb2⟩ := addInts (c := cu) hz.1.1 (VOwn.row hz.1.2.1) hm2 (by rw [List.length_append, List.length_singleton]; omega) hz.2.2.2.size
      have hk2 := grownRow hz.2.2.2 hg2 fun g e => (VOwn.lt hz.1.1 g e).1
      have hins : L.filter (fun y => decide (stV bs y ≤ s)) ++ [(x : Int)] ++ L.filter (fun y => !decide (stV bs y ≤ s)) = insV bs L (x : Int) := by
        unfold insV
        rw [HX.out, List.append_assoc]
        rfl
      rw [hins] at hi2
      obtain ⟨Az, cz, e⟩ := IOwn.slice hi2
      rw [insP_length] at e
      obtain ⟨m3, hm3⟩ : ∃ m3, L.length + 1 = m3 := ⟨_, rfl⟩
      rw [hm3] at e
      subst e
      have HM := Lib.hid hm3
      have HZ := Lib.hid (And.intro hi2 hk2)
      have HRUN := Lib.hid (And.intro hrun hrun2)
      clear hrun hi hg hb hz hrun2 hi2 hg2 hb2 hk2 hins hfull HS hf1 hf2 hm2 hm3
      go_upto_region 12 with (at_builtin; refine wpList_append_run _ rfl (.tmp 37) (.tmp 39) _ _ rfl _ _ rfl rfl HRUN.out.1 ?_)
      go_wp2_with (at_builtin; refine wpList_append_run _ rfl (.tmp 41) (.tmp 42) _ _ rfl _ _ rfl rfl HRUN.out.2 ?_)
      go_ret
      exact ⟨Az, _, cz, rfl, (insP_length _ _ _).trans HM.out, HZ.out.1, HZ.out.2⟩
/-- The loop over the pages. -/
def PLp (w : World) (D : Option Addr) (bs : List Bk) (u : Value) (xs : List Int) (wr : World) : Prop := IOwn wr w.heap.size u xs ∧ DRow wr w.heap.size D bs ∧ w.grownBy wr none
theorem PLp.keep {wr w' : World} {u : Value} {xs : List Int} (h : PLp w D bs u xs wr) (k : wr.grownBy w' none) : PLp w D bs u xs w' := ⟨VOwn.keep h.1 k, h.2.1.kept k, grown_trans h.2.2 k⟩
theorem pagesSince_no (s : Int) (hld : bs.length = nd) (hrd : DRow w w.heap.size D bs) (hnd : nd ≤ 1048576) (hpd : ∀ b, b ∈ bs → b.ps.length ≤ 1048576) (hd : devB bs = false) :
    Calls Try.prog 12 #[.slice D nd cd, .int .i64 s] w (IMade [] w) := by
  have HP := Lib.hid (And.intro hld (And.intro hpd (And.intro hd hrd)))
  clear hld hpd hd hrd
  go_enter Try.func12, Try.ntmps12
  go_wp2_with fail
  refine (deviceValid_val HP.out.1 HP.out.2.2.1 _ HP.out.2.2.2 hnd HP.out.2.1).mono ?_
  rintro e w1 ⟨rfl, hk⟩
  have HK := Lib.hid hk
  clear hk
  go_wp2
  go_ret
  exact ⟨none, 0, 0, rfl, rfl, World.ownsRow_nil _ _ _ _, HK.out⟩
set_option maxHeartbeats 2000000 in
theorem pagesSince_yes (s : Int) (hld : bs.length = nd) (hrd : DRow w w.heap.size D bs) (hd : devB bs = true) :
    Calls Try.prog 12 #[.slice D nd cd, .int .i64 s] w (IMade (sinTo bs s (4 * nd)) w) := by
  obtain ⟨⟨h1, h12⟩, hall⟩ := dev_parts hd
  have hnd : nd ≤ 12 := by omega
  have HP := Lib.hid (And.intro hld (And.intro hd (And.intro hrd (fun (b : Bk) (hm : b ∈ bs) => show b.ps.length ≤ 1048576 by have := (block_parts (hall b hm)).2.1; omega))))
  clear hld hrd hd h1 h12 hall
  go_enter Try.func12, Try.ntmps12
  go_wp2_with fail
  refine (deviceValid_val HP.out.1 HP.out.2.1 _ HP.out.2.2.1 (by omega) HP.out.2.2.2).mono ?_
  rintro e w1 ⟨rfl, hk⟩
  have HS := Lib.hid (show PLp w D bs (.slice none 0 0) (sinTo bs s 0) w1 from ⟨World.ownsRow_nil _ _ _ _, HP.out.2.2.1.kept hk, hk⟩)
  clear hk
  go_wp2
  go_loopw [5, 6] (fun u i wr => ∃ k : Nat, i = .int .i64 k ∧ k ≤ 4 * nd ∧ PLp w D bs u (sinTo bs s k) wr) (fun _ i _ => 4 * nd - (intOf i).toNat)
  case atStart => exact ⟨0, rfl, Nat.zero_le _, HS.out⟩
  case round =>
    rename World => wq
    obtain ⟨k, rfl, hk, hS⟩ := hrel
    clear HS
    have HS := Lib.hid hS
    obtain ⟨Au, cu, rfl⟩ := IOwn.slice hS.1
    clear hS
    obtain ⟨nu, hnu⟩ : ∃ nu, (sinTo bs s k).length = nu := ⟨_, rfl⟩
    have hnk := sin_le bs s k
    rw [hnu] at HS hnk ⊢
    have HN := Lib.hid hnu
    clear hnu
    by_cases hlt : k < 4 * nd
    · have k1 : (k : Int) < (nd : Int) * 4 := by omega
      obtain ⟨⟨pf, pa, pb, pv, d⟩, hp, hr⟩ := roll_read HP.out.2.1 (k := k) (by have := HP.out.1; omega)
      have HV := Lib.hid (And.intro hp hr)
      clear hp hr
      go_wp2_with fail
      refine (pageOf_at _ _ _ bs k _ wq HP.out.1 HS.out.2.1.here HP.out.2.1 HV.out.1).mono ?_
      rintro e w2 ⟨rfl, hkk⟩
      have K2 := grown_alloc hkk (.cells #[.bool pf, .int .i64 pa, .int .i64 pb, .int .i64 pv, .int .i64 d] 30)
      replace HS := Lib.hid (HS.out.keep K2)
      obtain ⟨p0, p1, p2, p3, p4⟩ := cells5 (Blk.new w2 30 #[.bool pf, .int .i64 pa, .int .i64 pb, .int .i64 pv, .int .i64 d])
      clear hkk K2
      cases pf
      · have HZ := Lib.hid (sin_no (bs := bs) (s := s) (k := k) (by unfold sinB; rw [HV.out.2]; rfl))
        go_wp2
        go_roundw
        case rel => exact ⟨k + 1, by go_num, by omega, by rw [HZ.out]; exact HS.out⟩
        case measure => simp [intOf]; omega
      · by_cases hs : s < d
        · have t1 := decide_eq_true hs
          have HZ := Lib.hid (sin_yes (bs := bs) (s := s) (k := k) (by unfold sinB stV; rw [HV.out.2]; simpa using hs))
          clear hs
          go_wp2_with fail
          refine (withPage_any HP.out.1 HS.out.2.1.here HP.out.2.1 HN.out (VOwn.row HS.out.1) (by omega) hlt (fun y hy => by have := sin_mem.1 hy; omega)).mono ?_
          rintro e w3 ⟨A3, n3, c3, rfl, hl3, ho3, hkk⟩
          have HE := Lib.hid (show PLp w D bs (.slice A3 n3 c3) (sinTo bs s (k + 1)) w3 from by
            rw [HZ.out]
            exact ⟨VOwn.base_le ho3 HS.out.2.2.size, HS.out.2.1.kept hkk, grown_trans HS.out.2.2 hkk⟩)
          clear ho3 hkk hl3
          go_wp2
          go_roundw
          case rel => exact ⟨k + 1, by go_num, by omega, HE.out⟩
          case measure => simp [intOf]; omega
        · have t1 := decide_eq_false hs
          have HZ := Lib.hid (sin_no (bs := bs) (s := s) (k := k) (by unfold sinB stV; rw [HV.out.2]; simpa using hs))
          clear hs
          go_wp2
          go_roundw
          case rel => exact ⟨k + 1, by go_num, by omega, by rw [HZ.out]; exact HS.out⟩
          case measure => simp [intOf]; omega
    · obtain rfl : k = 4 * nd := by omega
      go_wp2
      go_ret
      exact ⟨_, _, _, rfl, HN.out, HS.out.1, HS.out.2.2⟩
theorem pagesSince_any (s : Int) (hld : bs.length = nd) (hrd : DRow w w.heap.size D bs) (hnd : nd ≤ 1048576) (hpd : ∀ b, b ∈ bs → b.ps.length ≤ 1048576) :
    Calls Try.prog 12 #[.slice D nd cd, .int .i64 s] w (IMade (sinV bs s) w) := by
  cases hd : devB bs
  · rw [sinV_no hd]
    exact pagesSince_no s hld hrd hnd hpd hd
  · rw [sinV_yes hd, hld]
    exact pagesSince_yes s hld hrd hd
end
end Go.Proofs.Yteniikfgellhfaa
namespace Go.Proofs.Yteniikfgellhfaa
open Go.ChangeShapes Go.WideShapes Go.ChangeAt Go.RowKit
set_option linter.unusedVariables false
set_option linter.unusedSimpArgs false

theorem ints_from {w : World} {B : Nat} {A : Option Addr} {xs : List Int} (h : IRow w B A xs) (m : Nat) : IRow w B (Option.map (fun x => x.add m) A) (xs.drop m) := fun hn => by
  rw [iv_length, List.length_drop] at hn
  obtain ⟨g, off, rfl, hb, hz, hc⟩ := h (by rw [iv_length]; omega)
  refine ⟨g, off + m, by simp [Go.WideShapes.add_plain], hb, hz, fun i u hu => ?_⟩
  have e : (iv (xs.drop m))[i]? = (iv xs)[m + i]? := by simp [iv, List.getElem?_drop]
  rw [e] at hu
  have := hc _ _ hu
  rwa [← Nat.add_assoc] at this
theorem ints_upto {w : World} {B : Nat} {A : Option Addr} {xs : List Int} (h : IRow w B A xs) (m : Nat) : IRow w B A (xs.take m) := fun hn => by
  rw [iv_length, List.length_take] at hn
  obtain ⟨g, off, rfl, hb, hz, hc⟩ := h (by rw [iv_length]; omega)
  refine ⟨g, off, rfl, hb, hz, fun i u hu => ?_⟩
  have hi : i < m := by
    have := (List.getElem?_eq_some_iff.1 hu).1
    rw [iv_length, List.length_take] at this
    omega
  have e : (iv (xs.take m))[i]? = (iv xs)[i]? := by simp [iv, List.getElem?_take, hi]
  rw [e] at hu
  exact hc _ _ hu
theorem ints_cut {w : World} {B c k : Nat} {A : Option Addr} {xs : List Int} (h : IRow w B A xs) (hc : xs.length ≤ c) : IRow w B (if c = k then A else Option.map (fun x => x.add k) A) (xs.drop k) := by
  split
  · rw [List.drop_of_length_le (by omega)]; exact VRow.nil
  · exact ints_from h k
theorem ints_cut1 {w : World} {B c k g off : Nat} {xs : List Int} (h : IRow w B (some ⟨g, off, none⟩) xs) (hc : xs.length ≤ c) : IRow w B (if c = k then (some ⟨g, off, none⟩ : Option Addr) else some ⟨g, off + k, none⟩) (xs.drop k) := by
  have h1 := ints_cut (k := k) h hc
  simpa [Go.WideShapes.add_plain] using h1
/-- The state while the further number is put in: all numbers, and those behind the place. -/
structure IPSt (w : World) (A X : Option Addr) (L : List Int) (k : Nat) (wr : World) : Prop where
  all : IRow wr w.heap.size A L
  fr : IRow wr w.heap.size X (L.drop k)
  grown : w.grownBy wr none
section
variable {w wr w' : World} {A X : Option Addr} {L xs : List Int} {k : Nat} {u : Value} {x : Int}
theorem IPSt.keep (H : IPSt w A X L k wr) (h : wr.grownBy w' none) : IPSt w A X L k w' := ⟨VRow.kept H.all h, VRow.kept H.fr h, grown_trans H.grown h⟩
theorem IPSt.own (H : IPSt w A X L k wr) (ho : IOwn wr w.heap.size u xs) (hg : wr.grownBy w' u.ownBlock) : IPSt w A X L k w' :=
  ⟨VRow.grown H.all hg fun g e => (VOwn.lt ho g e).1, VRow.grown H.fr hg fun g e => (VOwn.lt ho g e).1, grownRow H.grown hg fun g e => (VOwn.lt ho g e).1⟩
/-- What the last two steps leave. -/
def IPEnd (w : World) (A X : Option Addr) (L : List Int) (k c m cx : Nat) (x : Int) (u1 y : Value) (w3 : World) : Prop :=
  ∃ u2 w4 A3 c3 w5, (∀ ty, (Builtin.append_ #[26, 26] ty #[u1, y]).run Try.prog w3 = .ok u2 w4) ∧ IPSt w A X L k w4 ∧
    (∀ ty, (Builtin.append_ #[26, 26] ty #[u2, .slice X m cx]).run Try.prog w4 = .ok (.slice A3 (L.length + 1) c3) w5) ∧ IPSt w A X L k w5 ∧ IOwn w5 w.heap.size (.slice A3 (L.length + 1) c3) (L.take k ++ x :: L.drop k)
theorem iput_end {c m cx y : Nat} {w3 : World} {u1 : Value} (H3 : IPSt w A X L k w3) (o3 : IOwn w3 w.heap.size u1 (L.take k)) (hy : IRow w3 (y + 1) (some ⟨y, 0, none⟩) [x]) (hk : k ≤ L.length) (hm : (L.drop k).length = m) (hn : L.length ≤ 1000) :
    IPEnd w A X L k c m cx x u1 (.slice (some ⟨y, 0, none⟩) 1 1) w3 := by
  obtain ⟨u2, w4, hr4, o4, hg4, _⟩ := addInts (m := 1) (c := 1) o3 hy rfl (by rw [List.length_take]; omega) H3.grown.size
  have H4 := H3.own o3 hg4
  obtain ⟨u3, w5, hr5, o5, hg5, _⟩ := addInts (m := m) (c := cx) o4 H4.fr hm (by rw [List.length_append, List.length_take]; simp at hm ⊢; omega) H4.grown.size
  obtain ⟨A3, c3, e⟩ := IOwn.slice o5
  have hlen : (L.take k ++ [x] ++ L.drop k).length = L.length + 1 := by simp; omega
  rw [hlen] at e
  subst e
  refine ⟨u2, w4, A3, c3, w5, hr4, H4, hr5, H4.own o4 hg5, ?_⟩
  rw [List.append_assoc] at o5
  exact o5
theorem irow_blk {y : Nat} {x : Int} (h : Blk wr y 3 #[.int .i64 x]) : IRow wr (y + 1) (some ⟨y, 0, none⟩) [x] := fun _ => by
  refine ⟨y, 0, rfl, Nat.lt_succ_self _, h.lt, fun i u hu => ?_⟩
  match i, hu with
  | 0, hu => simp [iv] at hu; subst hu; exact h.cell 0
  | i + 1, hu => simp [iv] at hu
theorem iown_new (w : World) {base : Nat} (hb : base ≤ w.heap.size) : IOwn (w.alloc (.cells #[] 3)) base (.slice (some ⟨w.heap.size, 0, none⟩) 0 0) [] := vown_lit w base 3 [] hb (by simp)
/-- First the row, then the first part, then the further one. -/
theorem iput_a {c m cx : Nat} (H : IPSt w A X L k wr) (hk : k ≤ L.length) (hm : (L.drop k).length = m) (hn : L.length ≤ 1000) :
    IPSt w A X L k (wr.alloc (.cells #[] 3)) ∧ ∃ u1 w2, (∀ ty, (Builtin.append_ #[26, 26] ty #[.slice (some ⟨wr.heap.size, 0, none⟩) 0 0, .slice A k c]).run Try.prog (wr.alloc (.cells #[] 3)) = .ok u1 w2) ∧ IPSt w A X L k w2 ∧
      IPSt w A X L k (w2.alloc (.cells #[.int .i64 x] 3)) ∧ IPEnd w A X L k c m cx x u1 (.slice (some ⟨w2.heap.size, 0, none⟩) 1 1) (w2.alloc (.cells #[.int .i64 x] 3)) := by
  have H1 := H.keep (grown_alloc (grown_refl wr none) (.cells #[] 3))
  have o1 := iown_new wr (base := w.heap.size) H.grown.size
  obtain ⟨u1, w2, hr, o2, hg, _⟩ := addInts (m := k) (c := c) o1 (ints_upto H1.all k) (by rw [List.length_take]; omega) (by simp only [List.length_nil]; omega) H1.grown.size
  rw [List.nil_append] at o2
  have H2 := H1.own o1 hg
  have K3 := grown_alloc (grown_refl w2 none) (.cells #[.int .i64 x] 3)
  exact ⟨H1, u1, w2, hr, H2, H2.keep K3, iput_end (H2.keep K3) (VOwn.keep o2 K3) (irow_blk (Blk.new w2 _ _)) hk hm hn⟩
/-- First the row, then the further one, then the first part. -/
theorem iput_b {c m cx : Nat} (H : IPSt w A X L k wr) (hk : k ≤ L.length) (hm : (L.drop k).length = m) (hn : L.length ≤ 1000) :
    IPSt w A X L k (wr.alloc (.cells #[] 3)) ∧ IPSt w A X L k ((wr.alloc (.cells #[] 3)).alloc (.cells #[.int .i64 x] 3)) ∧
    ∃ u1 w3, (∀ ty, (Builtin.append_ #[26, 26] ty #[.slice (some ⟨wr.heap.size, 0, none⟩) 0 0, .slice A k c]).run Try.prog ((wr.alloc (.cells #[] 3)).alloc (.cells #[.int .i64 x] 3)) = .ok u1 w3) ∧ IPSt w A X L k w3 ∧
      IPEnd w A X L k c m cx x u1 (.slice (some ⟨wr.heap.size + 1, 0, none⟩) 1 1) w3 := by
  have H1 := H.keep (grown_alloc (grown_refl wr none) (.cells #[] 3))
  have K2 := grown_alloc (grown_refl (wr.alloc (.cells #[] 3)) none) (.cells #[.int .i64 x] 3)
  have H2 := H1.keep K2
  have o2 : IOwn _ w.heap.size _ [] := VOwn.keep (iown_new wr (base := w.heap.size) H.grown.size) K2
  obtain ⟨u1, w3, hr, o3, hg, _⟩ := addInts (m := k) (c := c) o2 (ints_upto H2.all k) (by rw [List.length_take]; omega) (by simp only [List.length_nil]; omega) H2.grown.size
  rw [List.nil_append] at o3
  have hB := (Blk.new (wr.alloc (.cells #[] 3)) 3 #[.int .i64 x]).grown hg (by simp [Value.ownBlock])
  simp only [size_alloc1] at hB
  exact ⟨H1, H2, u1, w3, hr, H2.own o2 hg, iput_end (H2.own o2 hg) o3 (irow_blk hB) hk hm hn⟩
/-- First the further one, then the row, then the first part. -/
theorem iput_c {c m cx : Nat} (H : IPSt w A X L k wr) (hk : k ≤ L.length) (hm : (L.drop k).length = m) (hn : L.length ≤ 1000) :
    IPSt w A X L k (wr.alloc (.cells #[.int .i64 x] 3)) ∧ IPSt w A X L k ((wr.alloc (.cells #[.int .i64 x] 3)).alloc (.cells #[] 3)) ∧
    ∃ u1 w3, (∀ ty, (Builtin.append_ #[26, 26] ty #[.slice (some ⟨wr.heap.size + 1, 0, none⟩) 0 0, .slice A k c]).run Try.prog ((wr.alloc (.cells #[.int .i64 x] 3)).alloc (.cells #[] 3)) = .ok u1 w3) ∧ IPSt w A X L k w3 ∧
      IPEnd w A X L k c m cx x u1 (.slice (some ⟨wr.heap.size, 0, none⟩) 1 1) w3 := by
  have H1 := H.keep (grown_alloc (grown_refl wr none) (.cells #[.int .i64 x] 3))
  have H2 := H1.keep (grown_alloc (grown_refl _ none) (.cells #[] 3))
  have o2 := iown_new (wr.alloc (.cells #[.int .i64 x] 3)) (base := w.heap.size) H1.grown.size
  have hB0 := (Blk.new wr 3 #[.int .i64 x]).alloc (.cells #[] 3)
  simp only [size_alloc1] at o2
  obtain ⟨u1, w3, hr, o3, hg, _⟩ := addInts (m := k) (c := c) o2 (ints_upto H2.all k) (by rw [List.length_take]; omega) (by simp only [List.length_nil]; omega) H2.grown.size
  rw [List.nil_append] at o3
  have hB := hB0.grown hg (by simp [Value.ownBlock])
  exact ⟨H1, H2, u1, w3, hr, H2.own o2 hg, iput_end (H2.own o2 hg) o3 (irow_blk hB) hk hm hn⟩
end
section
variable {D : Option Addr} {nd cd : Nat} {bs : List Bk} {w : World}
theorem specPagesSince_no (s : Int) (hld : bs.length = nd) (hrd : DRow w w.heap.size D bs) (hnd : nd ≤ 1048576) (hpd : ∀ b, b ∈ bs → b.ps.length ≤ 1048576) (hd : devB bs = false) :
    Calls Try.prog 14 #[.slice D nd cd, .int .i64 s] w (IMade [] w) := by
  have HP := Lib.hid (And.intro hld (And.intro hpd hd))
  have HS := Lib.hid (show PLp w D bs (.slice (some ⟨w.heap.size, 0, none⟩) 0 0) [] _ from ⟨iown_new w (base := w.heap.size) (Nat.le_refl _), hrd.alloc _, grown_alloc (grown_refl w none) (.cells #[] 3)⟩)
  clear hld hpd hd hrd
  go_enter Try.func14, Try.ntmps14
  go_wp2_with fail
  go_loopw [5, 6] (fun u i wr => i = .int .i64 0 ∧ PLp w D bs u [] wr) (fun _ _ _ => 1)
  case atStart => exact ⟨rfl, HS.out⟩
  case round =>
    rename World => wq
    obtain ⟨rfl, hS⟩ := hrel
    clear HS
    have HS := Lib.hid hS
    obtain ⟨Ax, cx, rfl⟩ := IOwn.slice hS.1
    clear hS
    by_cases hpos : 0 < nd
    · have p1 : (0 : Int) < 4 * (nd : Int) := by omega
      go_wp2_with fail
      refine (specDeviceValid_val HP.out.1 HP.out.2.2 _ HS.out.2.1.here hnd HP.out.2.1).mono ?_
      rintro e w4 ⟨rfl, hk⟩
      replace HS := Lib.hid (HS.out.keep hk)
      clear hk
      go_wp2
      go_ret
      exact ⟨Ax, 0, cx, rfl, rfl, HS.out.1, HS.out.2.2⟩
    · obtain rfl : nd = 0 := by omega
      go_wp2
      go_ret
      exact ⟨Ax, 0, cx, rfl, rfl, HS.out.1, HS.out.2.2⟩
set_option maxHeartbeats 4000000 in
set_option maxRecDepth 100000 in
theorem specPagesSince_yes (s : Int) (hld : bs.length = nd) (hrd : DRow w w.heap.size D bs) (hd : devB bs = true) :
    Calls Try.prog 14 #[.slice D nd cd, .int .i64 s] w (IMade (sinTo bs s (4 * nd)) w) := by
  obtain ⟨⟨h1, h12⟩, hall⟩ := dev_parts hd
  have hnd : nd ≤ 12 := by omega
  have HP := Lib.hid (And.intro hld (And.intro hd (fun (b : Bk) (hm : b ∈ bs) => show b.ps.length ≤ 1048576 by have := (block_parts (hall b hm)).2.1; omega)))
  have HS := Lib.hid (show PLp w D bs (.slice (some ⟨w.heap.size, 0, none⟩) 0 0) (sinTo bs s 0) _ from ⟨iown_new w (base := w.heap.size) (Nat.le_refl _), hrd.alloc _, grown_alloc (grown_refl w none) (.cells #[] 3)⟩)
  clear hld hrd hd h1 h12 hall
  go_enter Try.func14, Try.ntmps14
  go_wp2_with fail
  go_loopw [5, 6] (fun u i wr => ∃ m : Nat, i = .int .i64 m ∧ m ≤ 4 * nd ∧ PLp w D bs u (sinTo bs s m) wr) (fun _ i _ => 4 * nd - (intOf i).toNat)
  case atStart => exact ⟨0, rfl, Nat.zero_le _, HS.out⟩
  case round =>
    rename World => wq
    obtain ⟨m, rfl, hm, hS⟩ := hrel
    clear HS
    have HS := Lib.hid hS
    obtain ⟨A, c, rfl⟩ := IOwn.slice hS.1
    have hcap := VOwn.capn hS.1 (iv_length _)
    clear hS
    obtain ⟨L, hL⟩ : ∃ L, sinTo bs s m = L := ⟨_, rfl⟩
    have hLm := sin_le bs s m
    have hasc := sin_asc bs s m
    have hin : ∀ y, y ∈ sinTo bs s m → 0 ≤ y ∧ y < m := fun y hy => by have := sin_mem.1 hy; omega
    rw [hL] at HS hLm hasc hcap hin ⊢
    have HN := Lib.hid (And.intro hL (And.intro hasc hin))
    have hc1 : L.length ≤ c := hcap.1
    have hc2 : c ≤ 9223372036854775807 := hcap.2
    clear hL hasc hcap hin
    by_cases hlt : m < 4 * nd
    · have m1 : (m : Int) < 4 * (nd : Int) := by omega
      go_wp2_with fail
      refine (specDeviceValid_val HP.out.1 HP.out.2.1 _ HS.out.2.1.here (by omega) HP.out.2.2).mono ?_
      rintro e w4 ⟨rfl, hk⟩
      replace HS := Lib.hid (HS.out.keep hk)
      clear hk
      obtain ⟨⟨pf, pa, pb, pv, d⟩, hp, hr⟩ := roll_read HP.out.2.1 (k := m) (by have := HP.out.1; omega)
      have HV := Lib.hid hr
      clear hp hr
      go_wp2_with fail
      refine (specRead_val HV.out HP.out.1 HS.out.2.1.here (by omega) HP.out.2.2).mono ?_
      rintro e w5 ⟨rfl, hk⟩
      have hk7 := grown_alloc hk (.cells #[.bool pf, .int .i64 pa, .int .i64 pb, .int .i64 pv, .int .i64 d] 30)
      replace HS := Lib.hid (HS.out.keep hk7)
      have HB := Lib.hid (Blk.new w5 30 #[.bool pf, .int .i64 pa, .int .i64 pb, .int .i64 pv, .int .i64 d])
      obtain ⟨p0, p1, p2, p3, p4⟩ := cells5 HB.out
      clear hk hk7
      cases pf
      · have HZ := Lib.hid (sin_no (bs := bs) (s := s) (k := m) (by unfold sinB; rw [HV.out]; rfl))
        go_wp2
        go_roundw
        case rel => exact ⟨m + 1, by go_num, by omega, by rw [HZ.out, HN.out.1]; exact HS.out⟩
        case measure => simp [intOf]; omega
      · by_cases hs : d ≤ s
        · have t1 := decide_eq_true hs
          have HZ := Lib.hid (sin_no (bs := bs) (s := s) (k := m) (by unfold sinB stV; rw [HV.out]; simpa using hs))
          clear hs
          go_wp2
          go_roundw
          case rel => exact ⟨m + 1, by go_num, by omega, by rw [HZ.out, HN.out.1]; exact HS.out⟩
          case measure => simp [intOf]; omega
        · have t1 := decide_eq_false hs
          have HZ := Lib.hid (show sinTo bs s (m + 1) = insV bs L (m : Int) by rw [sin_yes (by unfold sinB stV; rw [HV.out]; simp; omega), HN.out.1])
          have HD := Lib.hid (show stV bs (m : Int) = d by unfold stV; rw [HV.out])
          clear hs
          go_wp2
          go_loopw [9] (fun z wr => ∃ k : Nat, z = .int .i64 k ∧ k ≤ L.length ∧ (∀ (i : Nat) (y : Int), k ≤ i → L[i]? = some y → d < stV bs y) ∧ Blk wr w5.heap.size 30 #[.bool true, .int .i64 pa, .int .i64 pb, .int .i64 pv, .int .i64 d] ∧ PLp w D bs (.slice A L.length c) L wr) (fun z _ => (intOf z).toNat)
          case atStart => exact ⟨L.length, rfl, Nat.le_refl _, fun i y hi hy => absurd (List.getElem?_eq_some_iff.1 hy).1 (by omega), HB.out, HS.out⟩
          case round =>
            rename World => wz
            obtain ⟨k, rfl, hkl, habove, hB, hS⟩ := hrel
            clear HS HB p0 p1 p2 p3 p4
            have HS := Lib.hid (And.intro habove (And.intro hB hS))
            clear habove hB hS
            rcases Nat.eq_zero_or_pos k with hk0 | hk0
            · have z0 : decide ((0 : Int) < (k : Int)) = false := decide_eq_false (by omega)
              have z1 : decide (0 < k) = false := decide_eq_false (by omega)
              have HI := Lib.hid (ins_at HN.out.2.1 (x := (m : Int)) hkl (by rw [HD.out]; exact HS.out.1) (.inl hk0))
              clear hk0
              have q0 : decide ((0 : Int) ≤ (k : Int)) = true := decide_eq_true (by omega)
              have q1 : (k : Int) ≤ (L.length : Int) := by omega
              have q2 : (k : Int) ≤ (c : Int) := by omega
              have q3 : (L.length : Int) ≤ (c : Int) := by omega
              go_wp2_with fail
              have hp0 : RowKit.Hid (IPSt wz A (if c = k then A else Option.map (fun x => x.add k) A) L k (World.drew wz)) := Lib.hid ⟨VOwn.row HS.out.2.2.1, ints_cut (VOwn.row HS.out.2.2.1 : IRow _ _ _ L) hc1, grown_drew (grown_refl _ _)⟩
              have HS0 := Lib.hid HS.out.2.2
              clear HS
              refine wp_region_held_drew (S := (fun _ => True)) (by kernel_rfl) ?_ (fun hHeld => ?_)
              · trivial
              refine heldY 1 60 ?_
              refine heldY 2 61 ?_
              refine heldY 3 62 ?_
              refine heldY 5 64 ?_
              refine heldY 8 67 ?_
              refine heldY 9 68 ?_
              refine heldY 10 69 ?_
              refine wpAnyH_ready (rs := [0, 6]) (by kernel_rfl) (by simp) ?_
              refine AllReadyH.cons rfl (fun K hK => ?_) (AllReadyH.cons rfl (fun K hK => ?_) AllReadyH.nil)
              · go_simp
                refine hK.out _ _ ?_ (fun hHeld => ?_)
                · trivial
                clear hK K
                try simp only [Act.put, List.setIfInBounds_toArray, List.set_cons_zero, List.set_cons_succ]
                refine wpAnyH_ready (rs := [4, 6]) (by kernel_rfl) (by simp) ?_
                refine AllReadyH.cons rfl (fun K hK => ?_) (AllReadyH.cons rfl (fun K hK => ?_) AllReadyH.nil)
                · obtain ⟨H1, u1, w2, hr1, H2, H3, u2, w4, A3, c3, w5, hr2, H4, hr3, H5, ho5⟩ := iput_a (c := c) (cx := c - k) (x := (m : Int)) hp0.out (by omega) (show (L.drop k).length = L.length - k by simp <;> omega) (by omega)
                  refine step_append_run _ rfl (.tmp 59) (.tmp 62) 26 26 rfl _ _ rfl rfl (fun ty => hr1 ty) ?_
                  refine hK.out _ _ ?_ (fun hHeld => ?_)
                  · trivial
                  clear hK K
                  try simp only [Act.put, List.setIfInBounds_toArray, List.set_cons_zero, List.set_cons_succ]
                  refine wpAnyH_ready (rs := [6]) (by kernel_rfl) (by simp) ?_
                  refine AllReadyH.cons rfl (fun K hK => ?_) AllReadyH.nil
                  go_simp
                  refine hK.out _ _ ?_ (fun hHeld => ?_)
                  · trivial
                  clear hK K
                  try simp only [Act.put, List.setIfInBounds_toArray, List.set_cons_zero, List.set_cons_succ]
                  refine wpAnyH_ready (rs := [7]) (by kernel_rfl) (by simp) ?_
                  refine AllReadyH.cons rfl (fun K hK => ?_) AllReadyH.nil
                  refine step_append_run _ rfl (.tmp 63) (.tmp 65) 26 26 rfl _ _ rfl rfl (fun ty => hr2 ty) ?_
                  refine hK.out _ _ ?_ (fun hHeld => ?_)
                  · trivial
                  clear hK K
                  try simp only [Act.put, List.setIfInBounds_toArray, List.set_cons_zero, List.set_cons_succ]
                  refine wpAnyH_ready (rs := [11]) (by kernel_rfl) (by simp) ?_
                  refine AllReadyH.cons rfl (fun K hK => ?_) AllReadyH.nil
                  refine step_append_run _ rfl (.tmp 66) (.tmp 69) 26 26 rfl _ _ rfl rfl (fun ty => hr3 ty) ?_
                  refine hK.out _ _ ?_ (fun hHeld => ?_)
                  · trivial
                  clear hK K
                  try simp only [Act.put, List.setIfInBounds_toArray, List.set_cons_zero, List.set_cons_succ]
                  refine heldY 12 5 ?_
                  refine wpAnyH_done (by kernel_rfl) ?_ _
                  have HE := Lib.hid (show PLp w D bs (.slice A3 (L.length + 1) c3) (sinTo bs s (m + 1)) w5 from by
                    rw [HZ.out, HI.out]
                    exact ⟨VOwn.base_le ho5 HS0.out.2.2.size, HS0.out.2.1.kept H5.grown, grown_trans HS0.out.2.2 H5.grown⟩)
                  clear hr1 H2 hr2 H4 hr3 H5 ho5 hp0 H1 H3 hHeld HS0
                  go_wp2
                  go_roundw
                  case rel => exact ⟨m + 1, by go_num, by omega, HE.out⟩
                  case measure => simp [intOf]; omega
                · obtain ⟨H1, H3, u1, w2, hr1, H2, u2, w4, A3, c3, w5, hr2, H4, hr3, H5, ho5⟩ := iput_b (c := c) (cx := c - k) (x := (m : Int)) hp0.out (by omega) (show (L.drop k).length = L.length - k by simp <;> omega) (by omega)
                  go_simp
                  refine hK.out _ _ ?_ (fun hHeld => ?_)
                  · trivial
                  clear hK K
                  try simp only [Act.put, List.setIfInBounds_toArray, List.set_cons_zero, List.set_cons_succ]
                  refine wpAnyH_ready (rs := [4]) (by kernel_rfl) (by simp) ?_
                  refine AllReadyH.cons rfl (fun K hK => ?_) AllReadyH.nil
                  refine step_append_run _ rfl (.tmp 59) (.tmp 62) 26 26 rfl _ _ rfl rfl (fun ty => hr1 ty) ?_
                  refine hK.out _ _ ?_ (fun hHeld => ?_)
                  · trivial
                  clear hK K
                  try simp only [Act.put, List.setIfInBounds_toArray, List.set_cons_zero, List.set_cons_succ]
                  refine wpAnyH_ready (rs := [7]) (by kernel_rfl) (by simp) ?_
                  refine AllReadyH.cons rfl (fun K hK => ?_) AllReadyH.nil
                  refine step_append_run _ rfl (.tmp 63) (.tmp 65) 26 26 rfl _ _ rfl rfl (fun ty => hr2 ty) ?_
                  refine hK.out _ _ ?_ (fun hHeld => ?_)
                  · trivial
                  clear hK K
                  try simp only [Act.put, List.setIfInBounds_toArray, List.set_cons_zero, List.set_cons_succ]
                  refine wpAnyH_ready (rs := [11]) (by kernel_rfl) (by simp) ?_
                  refine AllReadyH.cons rfl (fun K hK => ?_) AllReadyH.nil
                  refine step_append_run _ rfl (.tmp 66) (.tmp 69) 26 26 rfl _ _ rfl rfl (fun ty => hr3 ty) ?_
                  refine hK.out _ _ ?_ (fun hHeld => ?_)
                  · trivial
                  clear hK K
                  try simp only [Act.put, List.setIfInBounds_toArray, List.set_cons_zero, List.set_cons_succ]
                  refine heldY 12 5 ?_
                  refine wpAnyH_done (by kernel_rfl) ?_ _
                  have HE := Lib.hid (show PLp w D bs (.slice A3 (L.length + 1) c3) (sinTo bs s (m + 1)) w5 from by
                    rw [HZ.out, HI.out]
                    exact ⟨VOwn.base_le ho5 HS0.out.2.2.size, HS0.out.2.1.kept H5.grown, grown_trans HS0.out.2.2 H5.grown⟩)
                  clear hr1 H2 hr2 H4 hr3 H5 ho5 hp0 H1 H3 hHeld HS0
                  go_wp2
                  go_roundw
                  case rel => exact ⟨m + 1, by go_num, by omega, HE.out⟩
                  case measure => simp [intOf]; omega
              · obtain ⟨H1, H3, u1, w2, hr1, H2, u2, w4, A3, c3, w5, hr2, H4, hr3, H5, ho5⟩ := iput_c (c := c) (cx := c - k) (x := (m : Int)) hp0.out (by omega) (show (L.drop k).length = L.length - k by simp <;> omega) (by omega)
                go_simp
                refine hK.out _ _ ?_ (fun hHeld => ?_)
                · trivial
                clear hK K
                try simp only [Act.put, List.setIfInBounds_toArray, List.set_cons_zero, List.set_cons_succ]
                refine wpAnyH_ready (rs := [0]) (by kernel_rfl) (by simp) ?_
                refine AllReadyH.cons rfl (fun K hK => ?_) AllReadyH.nil
                go_simp
                refine hK.out _ _ ?_ (fun hHeld => ?_)
                · trivial
                clear hK K
                try simp only [Act.put, List.setIfInBounds_toArray, List.set_cons_zero, List.set_cons_succ]
                refine wpAnyH_ready (rs := [4]) (by kernel_rfl) (by simp) ?_
                refine AllReadyH.cons rfl (fun K hK => ?_) AllReadyH.nil
                refine step_append_run _ rfl (.tmp 59) (.tmp 62) 26 26 rfl _ _ rfl rfl (fun ty => hr1 ty) ?_
                refine hK.out _ _ ?_ (fun hHeld => ?_)
                · trivial
                clear hK K
                try simp only [Act.put, List.setIfInBounds_toArray, List.set_cons_zero, List.set_cons_succ]
                refine wpAnyH_ready (rs := [7]) (by kernel_rfl) (by simp) ?_
                refine AllReadyH.cons rfl (fun K hK => ?_) AllReadyH.nil
                refine step_append_run _ rfl (.tmp 63) (.tmp 65) 26 26 rfl _ _ rfl rfl (fun ty => hr2 ty) ?_
                refine hK.out _ _ ?_ (fun hHeld => ?_)
                · trivial
                clear hK K
                try simp only [Act.put, List.setIfInBounds_toArray, List.set_cons_zero, List.set_cons_succ]
                refine wpAnyH_ready (rs := [11]) (by kernel_rfl) (by simp) ?_
                refine AllReadyH.cons rfl (fun K hK => ?_) AllReadyH.nil
                refine step_append_run _ rfl (.tmp 66) (.tmp 69) 26 26 rfl _ _ rfl rfl (fun ty => hr3 ty) ?_
                refine hK.out _ _ ?_ (fun hHeld => ?_)
                · trivial
                clear hK K
                try simp only [Act.put, List.setIfInBounds_toArray, List.set_cons_zero, List.set_cons_succ]
                refine heldY 12 5 ?_
                refine wpAnyH_done (by kernel_rfl) ?_ _
                have HE := Lib.hid (show PLp w D bs (.slice A3 (L.length + 1) c3) (sinTo bs s (m + 1)) w5 from by
                  rw [HZ.out, HI.out]
                  exact ⟨VOwn.base_le ho5 HS0.out.2.2.size, HS0.out.2.1.kept H5.grown, grown_trans HS0.out.2.2 H5.grown⟩)
                clear hr1 H2 hr2 H4 hr3 H5 ho5 hp0 H1 H3 hHeld HS0
                go_wp2
                go_roundw
                case rel => exact ⟨m + 1, by go_num, by omega, HE.out⟩
                case measure => simp [intOf]; omega
            · have z0 : decide ((0 : Int) < (k : Int)) = true := decide_eq_true (by omega)
              have z1 : decide (0 < k) = true := decide_eq_true (by omega)
              obtain ⟨j, hj⟩ : ∃ j : Nat, j = k - 1 := ⟨_, rfl⟩
              have hjk : (k : Int) - 1 = (j : Int) := by omega
              have j0 : decide ((0 : Int) ≤ (j : Int)) = true := decide_eq_true (by omega)
              have j1 : (j : Int) < (L.length : Int) := by omega
              obtain ⟨g, off, rfl⟩ := IRow.pos (VOwn.row HS.out.2.2.1 : IRow _ _ _ L) (by omega)
              obtain ⟨y, hy⟩ : ∃ y, L[j]? = some y := ⟨_, List.getElem?_eq_getElem (by omega)⟩
              have c0 := IRow.cellf (VOwn.row HS.out.2.2.1 : IRow _ _ _ L) hy
              have hyb := HN.out.2.2 y (List.mem_of_getElem? hy)
              obtain ⟨⟨qf, qa, qb, qv, q⟩, hrq⟩ : ∃ p, readV bs y = p := ⟨_, rfl⟩
              have HY := Lib.hid (And.intro hy (And.intro hrq (show stV bs y = q by unfold stV; rw [hrq])))
              have HJ := Lib.hid hj
              clear hy hrq hyb hj
              go_wp2_with fail
              refine (specRead_val HY.out.2.1 HP.out.1 HS.out.2.2.2.1.here (by omega) HP.out.2.2).mono ?_
              rintro e w6 ⟨rfl, hk⟩
              have hk7 := grown_alloc hk (.cells #[.bool qf, .int .i64 qa, .int .i64 qb, .int .i64 qv, .int .i64 q] 30)
              replace HS := Lib.hid (And.intro HS.out.1 (And.intro (HS.out.2.1.keep hk7) (HS.out.2.2.keep hk7)))
              have HQ := Lib.hid (Blk.new w6 30 #[.bool qf, .int .i64 qa, .int .i64 qb, .int .i64 qv, .int .i64 q])
              have q4 := HQ.out.cell 4
              have v4 := HS.out.2.1.cell 4
              clear hk hk7 c0
              by_cases hle : q ≤ d
              · have t2 := decide_eq_true hle
                have HI := Lib.hid (ins_at HN.out.2.1 (x := (m : Int)) hkl (by rw [HD.out]; exact HS.out.1) (.inr ⟨y, by rw [← HJ.out]; exact HY.out.1, by rw [HY.out.2.2, HD.out]; exact hle⟩))
                clear hle HQ
                have q0 : decide ((0 : Int) ≤ (k : Int)) = true := decide_eq_true (by omega)
                have q1 : (k : Int) ≤ (L.length : Int) := by omega
                have q2 : (k : Int) ≤ (c : Int) := by omega
                have q3 : (L.length : Int) ≤ (c : Int) := by omega
                go_wp2_with fail
                clear q4 v4
                generalize w6.alloc (.cells #[.bool qf, .int .i64 qa, .int .i64 qb, .int .i64 qv, .int .i64 q] 30) = wx at HS ⊢
                have hp0 : RowKit.Hid (IPSt wx (some ⟨g, off, none⟩) (if c = k then (some ⟨g, off, none⟩ : Option Addr) else some ⟨g, off + k, none⟩) L k (World.drew wx)) := Lib.hid ⟨VOwn.row HS.out.2.2.1, ints_cut1 (VOwn.row HS.out.2.2.1 : IRow _ _ _ L) hc1, grown_drew (grown_refl _ _)⟩
                have HS0 := Lib.hid HS.out.2.2
                clear HS
                refine wp_region_held_drew (S := (fun _ => True)) (by kernel_rfl) ?_ (fun hHeld => ?_)
                · trivial
                refine heldY 1 60 ?_
                refine heldY 2 61 ?_
                refine heldY 3 62 ?_
                refine heldY 5 64 ?_
                refine heldY 8 67 ?_
                refine heldY 9 68 ?_
                refine heldY 10 69 ?_
                refine wpAnyH_ready (rs := [0, 6]) (by kernel_rfl) (by simp) ?_
                refine AllReadyH.cons rfl (fun K hK => ?_) (AllReadyH.cons rfl (fun K hK => ?_) AllReadyH.nil)
                · go_simp
                  refine hK.out _ _ ?_ (fun hHeld => ?_)
                  · trivial
                  clear hK K
                  try simp only [Act.put, List.setIfInBounds_toArray, List.set_cons_zero, List.set_cons_succ]
                  refine wpAnyH_ready (rs := [4, 6]) (by kernel_rfl) (by simp) ?_
                  refine AllReadyH.cons rfl (fun K hK => ?_) (AllReadyH.cons rfl (fun K hK => ?_) AllReadyH.nil)
                  · obtain ⟨H1, u1, w2, hr1, H2, H3, u2, w4, A3, c3, w5, hr2, H4, hr3, H5, ho5⟩ := iput_a (c := c) (cx := c - k) (x := (m : Int)) hp0.out (by omega) (show (L.drop k).length = L.length - k by simp <;> omega) (by omega)
                    refine step_append_run _ rfl (.tmp 59) (.tmp 62) 26 26 rfl _ _ rfl rfl (fun ty => hr1 ty) ?_
                    refine hK.out _ _ ?_ (fun hHeld => ?_)
                    · trivial
                    clear hK K
                    try simp only [Act.put, List.setIfInBounds_toArray, List.set_cons_zero, List.set_cons_succ]
                    refine wpAnyH_ready (rs := [6]) (by kernel_rfl) (by simp) ?_
                    refine AllReadyH.cons rfl (fun K hK => ?_) AllReadyH.nil
                    go_simp
                    refine hK.out _ _ ?_ (fun hHeld => ?_)
                    · trivial
                    clear hK K
                    try simp only [Act.put, List.setIfInBounds_toArray, List.set_cons_zero, List.set_cons_succ]
                    refine wpAnyH_ready (rs := [7]) (by kernel_rfl) (by simp) ?_
                    refine AllReadyH.cons rfl (fun K hK => ?_) AllReadyH.nil
                    refine step_append_run _ rfl (.tmp 63) (.tmp 65) 26 26 rfl _ _ rfl rfl (fun ty => hr2 ty) ?_
                    refine hK.out _ _ ?_ (fun hHeld => ?_)
                    · trivial
                    clear hK K
                    try simp only [Act.put, List.setIfInBounds_toArray, List.set_cons_zero, List.set_cons_succ]
                    refine wpAnyH_ready (rs := [11]) (by kernel_rfl) (by simp) ?_
                    refine AllReadyH.cons rfl (fun K hK => ?_) AllReadyH.nil
                    refine step_append_run _ rfl (.tmp 66) (.tmp 69) 26 26 rfl _ _ rfl rfl (fun ty => hr3 ty) ?_
                    refine hK.out _ _ ?_ (fun hHeld => ?_)
                    · trivial
                    clear hK K
                    try simp only [Act.put, List.setIfInBounds_toArray, List.set_cons_zero, List.set_cons_succ]
                    refine heldY 12 5 ?_
                    refine wpAnyH_done (by kernel_rfl) ?_ _
                    have HE := Lib.hid (show PLp w D bs (.slice A3 (L.length + 1) c3) (sinTo bs s (m + 1)) w5 from by
                      rw [HZ.out, HI.out]
                      exact ⟨VOwn.base_le ho5 HS0.out.2.2.size, HS0.out.2.1.kept H5.grown, grown_trans HS0.out.2.2 H5.grown⟩)
                    clear hr1 H2 hr2 H4 hr3 H5 ho5 hp0 H1 H3 hHeld HS0
                    go_wp2
                    go_roundw
                    case rel => exact ⟨m + 1, by go_num, by omega, HE.out⟩
                    case measure => simp [intOf]; omega
                  · obtain ⟨H1, H3, u1, w2, hr1, H2, u2, w4, A3, c3, w5, hr2, H4, hr3, H5, ho5⟩ := iput_b (c := c) (cx := c - k) (x := (m : Int)) hp0.out (by omega) (show (L.drop k).length = L.length - k by simp <;> omega) (by omega)
                    go_simp
                    refine hK.out _ _ ?_ (fun hHeld => ?_)
                    · trivial
                    clear hK K
                    try simp only [Act.put, List.setIfInBounds_toArray, List.set_cons_zero, List.set_cons_succ]
                    refine wpAnyH_ready (rs := [4]) (by kernel_rfl) (by simp) ?_
                    refine AllReadyH.cons rfl (fun K hK => ?_) AllReadyH.nil
                    refine step_append_run _ rfl (.tmp 59) (.tmp 62) 26 26 rfl _ _ rfl rfl (fun ty => hr1 ty) ?_
                    refine hK.out _ _ ?_ (fun hHeld => ?_)
                    · trivial
                    clear hK K
                    try simp only [Act.put, List.setIfInBounds_toArray, List.set_cons_zero, List.set_cons_succ]
                    refine wpAnyH_ready (rs := [7]) (by kernel_rfl) (by simp) ?_
                    refine AllReadyH.cons rfl (fun K hK => ?_) AllReadyH.nil
                    refine step_append_run _ rfl (.tmp 63) (.tmp 65) 26 26 rfl _ _ rfl rfl (fun ty => hr2 ty) ?_
                    refine hK.out _ _ ?_ (fun hHeld => ?_)
                    · trivial
                    clear hK K
                    try simp only [Act.put, List.setIfInBounds_toArray, List.set_cons_zero, List.set_cons_succ]
                    refine wpAnyH_ready (rs := [11]) (by kernel_rfl) (by simp) ?_
                    refine AllReadyH.cons rfl (fun K hK => ?_) AllReadyH.nil
                    refine step_append_run _ rfl (.tmp 66) (.tmp 69) 26 26 rfl _ _ rfl rfl (fun ty => hr3 ty) ?_
                    refine hK.out _ _ ?_ (fun hHeld => ?_)
                    · trivial
                    clear hK K
                    try simp only [Act.put, List.setIfInBounds_toArray, List.set_cons_zero, List.set_cons_succ]
                    refine heldY 12 5 ?_
                    refine wpAnyH_done (by kernel_rfl) ?_ _
                    have HE := Lib.hid (show PLp w D bs (.slice A3 (L.length + 1) c3) (sinTo bs s (m + 1)) w5 from by
                      rw [HZ.out, HI.out]
                      exact ⟨VOwn.base_le ho5 HS0.out.2.2.size, HS0.out.2.1.kept H5.grown, grown_trans HS0.out.2.2 H5.grown⟩)
                    clear hr1 H2 hr2 H4 hr3 H5 ho5 hp0 H1 H3 hHeld HS0
                    go_wp2
                    go_roundw
                    case rel => exact ⟨m + 1, by go_num, by omega, HE.out⟩
                    case measure => simp [intOf]; omega
                · obtain ⟨H1, H3, u1, w2, hr1, H2, u2, w4, A3, c3, w5, hr2, H4, hr3, H5, ho5⟩ := iput_c (c := c) (cx := c - k) (x := (m : Int)) hp0.out (by omega) (show (L.drop k).length = L.length - k by simp <;> omega) (by omega)
                  go_simp
                  refine hK.out _ _ ?_ (fun hHeld => ?_)
                  · trivial
                  clear hK K
                  try simp only [Act.put, List.setIfInBounds_toArray, List.set_cons_zero, List.set_cons_succ]
                  refine wpAnyH_ready (rs := [0]) (by kernel_rfl) (by simp) ?_
                  refine AllReadyH.cons rfl (fun K hK => ?_) AllReadyH.nil
                  go_simp
                  refine hK.out _ _ ?_ (fun hHeld => ?_)
                  · trivial
                  clear hK K
                  try simp only [Act.put, List.setIfInBounds_toArray, List.set_cons_zero, List.set_cons_succ]
                  refine wpAnyH_ready (rs := [4]) (by kernel_rfl) (by simp) ?_
                  refine AllReadyH.cons rfl (fun K hK => ?_) AllReadyH.nil
                  refine step_append_run _ rfl (.tmp 59) (.tmp 62) 26 26 rfl _ _ rfl rfl (fun ty => hr1 ty) ?_
                  refine hK.out _ _ ?_ (fun hHeld => ?_)
                  · trivial
                  clear hK K
                  try simp only [Act.put, List.setIfInBounds_toArray, List.set_cons_zero, List.set_cons_succ]
                  refine wpAnyH_ready (rs := [7]) (by kernel_rfl) (by simp) ?_
                  refine AllReadyH.cons rfl (fun K hK => ?_) AllReadyH.nil
                  refine step_append_run _ rfl (.tmp 63) (.tmp 65) 26 26 rfl _ _ rfl rfl (fun ty => hr2 ty) ?_
                  refine hK.out _ _ ?_ (fun hHeld => ?_)
                  · trivial
                  clear hK K
                  try simp only [Act.put, List.setIfInBounds_toArray, List.set_cons_zero, List.set_cons_succ]
                  refine wpAnyH_ready (rs := [11]) (by kernel_rfl) (by simp) ?_
                  refine AllReadyH.cons rfl (fun K hK => ?_) AllReadyH.nil
                  refine step_append_run _ rfl (.tmp 66) (.tmp 69) 26 26 rfl _ _ rfl rfl (fun ty => hr3 ty) ?_
                  refine hK.out _ _ ?_ (fun hHeld => ?_)
                  · trivial
                  clear hK K
                  try simp only [Act.put, List.setIfInBounds_toArray, List.set_cons_zero, List.set_cons_succ]
                  refine heldY 12 5 ?_
                  refine wpAnyH_done (by kernel_rfl) ?_ _
                  have HE := Lib.hid (show PLp w D bs (.slice A3 (L.length + 1) c3) (sinTo bs s (m + 1)) w5 from by
                    rw [HZ.out, HI.out]
                    exact ⟨VOwn.base_le ho5 HS0.out.2.2.size, HS0.out.2.1.kept H5.grown, grown_trans HS0.out.2.2 H5.grown⟩)
                  clear hr1 H2 hr2 H4 hr3 H5 ho5 hp0 H1 H3 hHeld HS0
                  go_wp2
                  go_roundw
                  case rel => exact ⟨m + 1, by go_num, by omega, HE.out⟩
                  case measure => simp [intOf]; omega
              · have t2 := decide_eq_false hle
                have HA := Lib.hid (show ∀ (i : Nat) (z : Int), j ≤ i → L[i]? = some z → d < stV bs z from fun i z hi hz => by
                  rcases Nat.lt_or_ge i k with h | h
                  · obtain rfl : i = j := by have := HJ.out; omega
                    rw [HY.out.1] at hz
                    injection hz with hz
                    subst hz
                    rw [HY.out.2.2]
                    omega
                  · exact HS.out.1 i z h hz)
                clear hle
                go_wp2
                go_roundw
                case rel => exact ⟨j, by go_num, by omega, HA.out, HS.out.2.1, HS.out.2.2⟩
                case measure => simp [intOf]; omega
    · obtain rfl : m = 4 * nd := by omega
      go_wp2
      go_ret
      exact ⟨_, _, _, by rfl, by rw [HN.out.1], by rw [HN.out.1]; exact HS.out.1, HS.out.2.2⟩
theorem specPagesSince_any (s : Int) (hld : bs.length = nd) (hrd : DRow w w.heap.size D bs) (hnd : nd ≤ 1048576) (hpd : ∀ b, b ∈ bs → b.ps.length ≤ 1048576) :
    Calls Try.prog 14 #[.slice D nd cd, .int .i64 s] w (IMade (sinV bs s) w) := by
  cases hd : devB bs
  · rw [sinV_no hd]
    exact specPagesSince_no s hld hrd hnd hpd hd
  · rw [sinV_yes hd, hld]
    exact specPagesSince_yes s hld hrd hd
end
end Go.Proofs.Yteniikfgellhfaa
namespace Go.Proofs.Yteniikfgellhfaa
open Go.ChangeShapes Go.WideShapes Go.ChangeAt Go.RowKit
set_option linter.unusedVariables false

section
variable {D : Option Addr} {nd cd : Nat} {bs : List Bk} {s : Int} {X : List Int} {n1 : Nat} {w : World}
theorem since_val (h : sinV bs s = X) (h1 : X.length = n1) (hld : bs.length = nd) (hrd : DRow w w.heap.size D bs) (hnd : nd ≤ 1048576) (hpd : ∀ b, b ∈ bs → b.ps.length ≤ 1048576) :
    Calls Try.prog 12 #[.slice D nd cd, .int .i64 s] w (IMadeN X n1 w) :=
  (pagesSince_any s hld hrd hnd hpd).mono fun _ _ q => by rw [h] at q; exact q.to h1
theorem specSince_val (h : sinV bs s = X) (h1 : X.length = n1) (hld : bs.length = nd) (hrd : DRow w w.heap.size D bs) (hnd : nd ≤ 1048576) (hpd : ∀ b, b ∈ bs → b.ps.length ≤ 1048576) :
    Calls Try.prog 14 #[.slice D nd cd, .int .i64 s] w (IMadeN X n1 w) :=
  (specPagesSince_any s hld hrd hnd hpd).mono fun _ _ q => by rw [h] at q; exact q.to h1
end
theorem since_is (bs : List Bk) (s : Int) : ∃ (n1 : Nat) (l1 : List Int), sinV bs s = l1 ∧ l1.length = n1 ∧ n1 ≤ 1048576 := ⟨_, _, rfl, rfl, Nat.le_trans (sinV_small bs s) (by omega)⟩
end Go.Proofs.Yteniikfgellhfaa
namespace Go.Proofs.Yteniikfgellhfaa
open Go.ChangeShapes Go.WideShapes Go.ChangeAt Go.RowKit
set_option linter.unusedVariables false
set_option linter.unusedSimpArgs false

theorem clr_upto {xss : List (List Int)} {x : Int} {f j : Nat} (hj : j < 6) (h : cellO xss f j = some x) : clrTo xss x (6 * f + j + 1) = tset (clrTo xss x (6 * f + j)) f j (-1) := by
  have e1 : (6 * f + j) / 6 = f := by omega
  have e2 : (6 * f + j) % 6 = j := by omega
  have := clr_yes (xss := xss) (x := x) (m := 6 * f + j) (by rw [e1, e2]; exact h)
  rw [e1, e2] at this
  exact this
theorem clr_past {xss : List (List Int)} {x : Int} {f j : Nat} (hj : j < 6) (h : cellO xss f j ≠ some x) : clrTo xss x (6 * f + j + 1) = clrTo xss x (6 * f + j) := by
  have e1 : (6 * f + j) / 6 = f := by omega
  have e2 : (6 * f + j) % 6 = j := by omega
  exact clr_no (by rw [e1, e2]; exact h)
/-- A table of the call's own in variable V, its row in block g. -/
def CTab (b hi V g ct : Nat) (xss : List (List Int)) (wr : World) : Prop :=
  (∃ cs, cs.length = 8 ∧ ll cs = xss ∧ TOwn wr b (.slice (some ⟨g, 0, none⟩) 8 ct) cs ∧ ∀ (l : Li) (a : Addr), l ∈ cs → l.A = some a → a.block < hi) ∧ Blk wr V 40 #[.slice (some ⟨g, 0, none⟩) 8 ct]
theorem CTab.keep {b hi V g ct : Nat} {xss : List (List Int)} {wr w' : World} (H : CTab b hi V g ct xss wr) (q : wr.grownBy w' none) : CTab b hi V g ct xss w' := by
  obtain ⟨⟨cs, h1, h2, h3, h5⟩, h4⟩ := H
  exact ⟨⟨cs, h1, h2, h3.keep q, h5⟩, h4.keep q⟩
theorem CTab.low {b b' hi V g ct : Nat} {xss : List (List Int)} {wr : World} (H : CTab b hi V g ct xss wr) (q : b' ≤ b) : CTab b' hi V g ct xss wr := by
  obtain ⟨⟨cs, h1, h2, h3, h5⟩, h4⟩ := H
  exact ⟨⟨cs, h1, h2, h3.base_le q, h5⟩, h4⟩
theorem CTab.row {b hi V g ct : Nat} {xss : List (List Int)} {wr : World} (H : CTab b hi V g ct xss wr) : ∃ cs, cs.length = 8 ∧ ll cs = xss ∧ TRow wr wr.heap.size (some ⟨g, 0, none⟩) cs := by
  obtain ⟨⟨cs, h1, h2, h3, h5⟩, h4⟩ := H
  exact ⟨cs, h1, h2, h3.row⟩
/-- What is needed of the table to read or write the cell of file f and place j. -/
theorem CTab.open_ {b hi V g ct : Nat} {xss : List (List Int)} {wr : World} (H : CTab b hi V g ct xss wr) (hT : TV xss) {f j : Nat} (hf : f < 8) (hj : j < 6) :
    ∃ (gl cl : Nat) (x : Int), wr.cell? ⟨g, f, none⟩ = some (.slice (some ⟨gl, 0, none⟩) 6 cl) ∧ wr.cell? ⟨gl, j, none⟩ = some (.int .i64 x) ∧ wr.frozen? ⟨gl, j, none⟩ = false ∧ cellO xss f j = some x ∧ (b ≤ gl ∧ gl < hi) ∧ gl ≠ g ∧
      (∀ {t : TypeId} {V' : Nat} {cc : Array Value}, Blk wr V' t cc → (3 : TypeId) ≠ t → gl ≠ V') ∧
      ∀ y : Int, CTab b hi V g ct (tset xss f j y) (wr.setCell ⟨gl, j, none⟩ (.int .i64 y)) := by
  obtain ⟨⟨cs, h1, h2, h3, h5⟩, h4⟩ := H
  obtain ⟨xs, x, e1, e6, e2, e3⟩ := hT.cell hf hj
  obtain ⟨gl, cl, hli, hio, hgl, hglz⟩ := h3.inner (f := f) (xs := xs) (by rw [h2]; exact e1) (by omega)
  have c0 := h3.at_ h1 hli
  dsimp only at c0
  rw [e6] at c0
  have hVg : gl ≠ g := by
    rcases VOwn.ne hio h3.1 int_ne with e | e
    · simp [Value.ownBlock] at e
    · simpa [Value.ownBlock] using e
  have n4 : gl ≠ V := VOwn.ne_blk hio h4 (by decide)
  rw [e6] at hio
  refine ⟨gl, cl, x, c0, VOwn.at_ hio (by rw [iv_length]; exact e6) (iv_at e2), VOwn.frozen hio (by rw [iv_length]; exact e6) j, e3, ⟨hgl, h5 _ _ (List.mem_of_getElem? hli) rfl⟩, hVg, fun hb ht => VOwn.ne_blk hio hb ht, fun y => ?_⟩
  refine ⟨⟨_, by rw [List.length_set]; exact h1, ?_, h3.set hli j y, fun l a hl ha => ?_⟩, h4.far (p := ⟨gl, j, none⟩) (fun e => n4 e.symm) _⟩
  · rw [ll_set, h2, tset_row e1]
  · rcases List.mem_or_eq_of_mem_set hl with hl | rfl
    · exact h5 l a hl ha
    · exact h5 _ a (List.mem_of_getElem? hli) ha
theorem town_lt {w : World} {b : Nat} {v : Value} {cs : List Li} (h : TOwn w b v cs) {l : Li} {a : Addr} (hl : l ∈ cs) (ha : l.A = some a) : a.block < w.heap.size := by
  have h1 := VOwn.lt (h.2.1 l hl) a.block (by unfold Li.row; rw [ha]; rfl)
  exact h1.2
/-- A copy put into a variable. -/
theorem CTab.start {w2 : World} {b c : Nat} {A : Option Addr} {xss : List (List Int)} {cs : List Li} (ho : TOwn w2 b (.slice A 8 c) cs) (hl : cs.length = 8) (hx : ll cs = xss) : ∃ g, A = some ⟨g, 0, none⟩ ∧ b ≤ g ∧ g < w2.heap.size ∧ CTab b w2.heap.size w2.heap.size g c xss (w2.alloc (.cells #[.slice A 8 c] 40)) := by
  obtain ⟨g, _, e, hg, hz, _⟩ := ho.head hl (by omega)
  injection e with e1 _ e3
  subst e1
  exact ⟨g, rfl, hg, hz, ⟨cs, hl, hx, ho.keep (grown_alloc (grown_refl _ _) _), fun l a hm ha => town_lt ho hm ha⟩, Blk.new w2 _ _⟩
/-- The loops of withoutPage: the table that came in, and the copy. -/
def WSt2 (w : World) (A : Option Addr) (c : Nat) (ls : List Li) (V g ct : Nat) (xss : List (List Int)) (wr : World) : Prop := TIn2 w A 8 c ls wr ∧ ∃ hi, CTab w.heap.size hi V g ct xss wr
set_option maxHeartbeats 2000000 in
theorem without_at {A : Option Addr} {n c : Nat} {ls : List Li} {w : World} (x : Int) (hl : ls.length = n) (hr : TRow w w.heap.size A ls) (hv : tabB (ll ls) = true) :
    Calls Try.prog 63 #[.agg #[.slice A n c], .int .i64 x] w (TabMade (clrTo (ll ls) x 48) 8 w) := by
  obtain ⟨h8, g, off, _, _, _, _, _, rfl, _⟩ := hr.open_ hv (show 0 < 8 by omega) (show 0 < 6 by omega)
  have en : n = 8 := by omega
  subst en
  have HT := Lib.hid (TIn2.start hr 8 c)
  have HV := Lib.hid (And.intro hl (And.intro hv ((tabB_iff _).1 hv)))
  have b0 := HT.out.1.cell 0
  clear hl hr hv h8
  go_enter Try.func63, Try.ntmps63
  go_wp2_with fail
  refine (copyTab_at _ _ _ ls _ HV.out.1 HT.out.2.2.1.here HV.out.2.1).mono ?_
  rintro e w2 ⟨A2, ct, cs, rfl, hcl, hcs, ho, hk⟩
  obtain ⟨gt, rfl, hgt, hgz, hC⟩ := CTab.start ho hcl hcs
  have K2 := grown_alloc (grown_refl w2 none) (.cells #[.slice (some ⟨gt, 0, none⟩) 8 ct] 40)
  have hC0 := hC.low HT.out.2.2.2.size
  have HS : RowKit.Hid (WSt2 w (some ⟨g, off, none⟩) c ls w2.heap.size gt ct (clrTo (ll ls) x 0) (w2.alloc (.cells #[.slice (some ⟨gt, 0, none⟩) 8 ct] 40))) := Lib.hid ⟨(HT.out.keep hk).keep K2, _, hC0⟩
  have hVw : w.heap.size + 1 < w2.heap.size := by
    have h1 := hk.size
    have h2 := HT.out.2.1.lt
    simp only [size_alloc1] at h1
    omega
  have c0 := HS.out.1.1.cell 0
  clear hcl hcs ho hk hC K2 hC0 b0 HT
  go_wp2
  generalize w2.heap.size = V at HS hVw c0 ⊢
  go_loopw [15] (fun i wr => ∃ f : Nat, i = .int .i64 f ∧ f ≤ 8 ∧ WSt2 w (some ⟨g, off, none⟩) c ls V gt ct (clrTo (ll ls) x (6 * f)) wr) (fun i _ => 8 - (intOf i).toNat)
  case atStart => exact ⟨0, rfl, Nat.zero_le _, HS.out⟩
  case round =>
    rename World => wq
    obtain ⟨f, rfl, hf, hS⟩ := hrel
    clear HS c0
    have HS := Lib.hid hS
    clear hS
    by_cases hlt : f < 8
    · have f1 : (f : Int) < 8 := by omega
      have f0 : decide ((0 : Int) ≤ f) = true := decide_eq_true (by omega)
      obtain ⟨gx, ox, cl, xs, hll, h6⟩ := HS.out.1.2.2.1.list HV.out.2.1 hlt
      have c0 := HS.out.1.2.2.1.cellf hll h6
      have HX := Lib.hid (And.intro hll h6)
      clear hll h6
      go_wp2
      go_loopw [22] (fun i wr => ∃ j : Nat, i = .int .i64 j ∧ j ≤ 6 ∧ WSt2 w (some ⟨g, off, none⟩) c ls V gt ct (clrTo (ll ls) x (6 * f + j)) wr) (fun i _ => 6 - (intOf i).toNat)
      case atStart => exact ⟨0, rfl, Nat.zero_le _, HS.out⟩
      case round =>
        rename World => wz
        obtain ⟨j, rfl, hj, hS⟩ := hrel
        clear HS c0
        have HS := Lib.hid hS
        clear hS
        by_cases hjlt : j < 6
        · have j1 : (j : Int) < 6 := by omega
          have j0 : decide ((0 : Int) ≤ j) = true := decide_eq_true (by omega)
          obtain ⟨y, hy⟩ : ∃ y, xs[j]? = some y := ⟨_, List.getElem?_eq_getElem (by have := HX.out.2; omega)⟩
          have c1 := (HS.out.1.2.2.1.inner HX.out.1).cellf hy
          have hcell : cellO (ll ls) f j = some y := cellO_of (ll_at HX.out.1) hy
          by_cases he : y = x
          · have e1 : (y == x) = true := by rw [beq_iff_eq]; exact he
            have hst := clr_upto hjlt (hcell.trans (by rw [he]))
            obtain ⟨hi, hCT⟩ := HS.out.2
            have v0 := hCT.2.cell 0
            obtain ⟨gl, cl2, z, d0, d1, d2, _, ⟨hgl, _⟩, hne, hnb, hput⟩ := hCT.open_ (clr_tv HV.out.2.2 x _ (by omega)) hlt hjlt
            have hfin := hput (-1)
            rw [← hst] at hfin
            have n0 : gl ≠ w.heap.size := hnb HS.out.1.1 (by decide)
            have n1 : gl ≠ w.heap.size + 1 := hnb HS.out.1.2.1 (by decide)
            have HZ := Lib.hid (show WSt2 w (some ⟨g, off, none⟩) c ls V gt ct (clrTo (ll ls) x (6 * f + (j + 1))) (wz.setCell ⟨gl, j, none⟩ (.int .i64 (-1))) from ⟨HS.out.1.far (p := ⟨gl, j, none⟩) hgl n0 n1 _, hi, hfin⟩)
            clear hst hput hfin hnb hy hcell he HS hCT
            go_wp2
            go_roundw
            case rel => exact ⟨j + 1, by go_num, by omega, HZ.out⟩
            case measure => simp [intOf]; omega
          · have e1 : (y == x) = false := by rw [beq_eq_false_iff_ne]; exact he
            have HZ := Lib.hid (clr_past (xss := ll ls) (x := x) hjlt (by rw [hcell]; intro e; injection e with e; exact he e))
            clear hy hcell he
            go_wp2
            go_roundw
            case rel => exact ⟨j + 1, by go_num, by omega, by rw [show 6 * f + (j + 1) = 6 * f + j + 1 from rfl, HZ.out]; exact HS.out⟩
            case measure => simp [intOf]; omega
        · obtain rfl : j = 6 := by omega
          go_wp2
          go_roundw
          case rel => exact ⟨f + 1, by go_num, by omega, by rw [show 6 * (f + 1) = 6 * f + 6 by omega]; exact HS.out⟩
          case measure => simp [intOf]; omega
    · obtain rfl : f = 8 := by omega
      have z0 : wq.cell? ⟨w.heap.size + 1, 0, none⟩ = some (.slice none 0 0) := HS.out.1.2.1.cell 0
      have z1 : wq.frozen? ⟨w.heap.size + 1, 0, none⟩ = false := HS.out.1.2.1.frozen 0
      obtain ⟨_, ⟨cs, h1, h2, h3, _⟩, h4⟩ := HS.out.2
      have v0 := h4.cell 0
      have HZ := Lib.hid (And.intro h1 (And.intro h2 (And.intro (h3.put HS.out.1.2.1 0 (.slice (some ⟨gt, 0, none⟩) 8 ct)) (grown_put HS.out.1.2.2.2 (p := ⟨w.heap.size + 1, 0, none⟩) (by dsimp only; omega) (.slice (some ⟨gt, 0, none⟩) 8 ct)))))
      clear h1 h2 h3 h4 HS
      go_wp2
      exact bodyPost_ret (v := .agg #[.slice (some ⟨gt, 0, none⟩) 8 ct]) (by simp [results, Try.results63, go_sem, *]) rfl ⟨_, _, cs, rfl, HZ.out.1, HZ.out.2.1, HZ.out.2.2.1, HZ.out.2.2.2⟩
/-- What RollForward has in memory: the table that came in, the device. -/
def RIn (w : World) (A : Option Addr) (n c : Nat) (ls : List Li) (D : Option Addr) (bs : List Bk) (wr : World) : Prop := TIn2 w A n c ls wr ∧ DRow wr w.heap.size D bs
section
variable {D : Option Addr} {nd cd : Nat} {bs : List Bk} {A : Option Addr} {n c : Nat} {ls : List Li} {w wr w' : World}
theorem RIn.keep (H : RIn w A n c ls D bs wr) (k : wr.grownBy w' none) : RIn w A n c ls D bs w' := ⟨H.1.keep k, H.2.kept k⟩
theorem RIn.start (hr : TRow w w.heap.size A ls) (hd : DRow w w.heap.size D bs) (n c : Nat) : RIn w A n c ls D bs ((w.alloc (.cells #[.slice A n c] 40)).alloc (.cells #[.slice none 0 0] 40)) := ⟨TIn2.start hr n c, (hd.alloc _).alloc _⟩
/-- Something of the call's own is written. -/
theorem RIn.far (H : RIn w A n c ls D bs wr) {p : Addr} (hp : w.heap.size ≤ p.block) (h0 : p.block ≠ w.heap.size) (h1 : p.block ≠ w.heap.size + 1) (u : Value) : RIn w A n c ls D bs (wr.setCell p u) :=
  ⟨H.1.far hp h0 h1 u, H.2.grown (grown_set (grown_refl wr (some p.block)) (.inl rfl) u) (fun g e => by injection e with e; omega)⟩
theorem roll_no (s : Int) (hld : bs.length = nd) (hrd : DRow w w.heap.size D bs) (hnd : nd ≤ 1048576) (hpd : ∀ b, b ∈ bs → b.ps.length ≤ 1048576) (hl : ls.length = n) (hr : TRow w w.heap.size A ls) (hn : n ≤ 1048576) (hp : ∀ l, l ∈ ls → l.xs.length ≤ 1048576) (hB : (devB bs && tabB (ll ls)) = false) :
    Calls Try.prog 21 #[.slice D nd cd, .agg #[.slice A n c], .int .i64 s] w (TabMade [] 0 w) := by
  have HT := Lib.hid (RIn.start hr hrd n c)
  cases hd : devB bs
  · have HP := Lib.hid (And.intro hld (And.intro hpd hd))
    clear hl hr hp hd hld hrd hpd hB
    go_enter Try.func21, Try.ntmps21
    go_wp2_with fail
    refine (deviceValid_val HP.out.1 HP.out.2.2 _ HT.out.2.here hnd HP.out.2.1).mono ?_
    rintro e w1 ⟨rfl, hk⟩
    have HK := Lib.hid (HT.out.keep hk)
    have z0 := HK.out.1.2.1.cell 0
    have z1 := HK.out.1.2.1.frozen 0
    clear hk
    go_wp2
    exact bodyPost_ret (v := .agg #[.slice none 0 0]) (by simp [results, Try.results21, go_sem, *]) rfl ⟨none, 0, [], rfl, rfl, rfl, town_nil _ _, grown_put HK.out.1.2.2.2 (p := ⟨w.heap.size + 1, 0, none⟩) (by dsimp only; omega) _⟩
  · rw [hd, Bool.true_and] at hB
    have HP := Lib.hid (And.intro hld (And.intro hpd hd))
    have HQ := Lib.hid (And.intro hl (And.intro hp hB))
    clear hl hr hp hd hld hrd hpd hB
    go_enter Try.func21, Try.ntmps21
    go_wp2_with fail
    refine (deviceValid_val HP.out.1 HP.out.2.2 _ HT.out.2.here hnd HP.out.2.1).mono ?_
    rintro e w1 ⟨rfl, hk⟩
    have HK := Lib.hid (HT.out.keep hk)
    have b0 : w1.cell? ⟨w.heap.size, 0, none⟩ = some (.slice A n c) := HK.out.1.1.cell 0
    clear hk
    go_wp2_with fail
    refine (tabValid_val HQ.out.2.2 HQ.out.1 HK.out.1.2.2.1.here hn HQ.out.2.1).mono ?_
    rintro e w2 ⟨rfl, hk⟩
    replace HK := Lib.hid (HK.out.keep hk)
    have z0 := HK.out.1.2.1.cell 0
    have z1 := HK.out.1.2.1.frozen 0
    clear hk b0
    go_wp2
    exact bodyPost_ret (v := .agg #[.slice none 0 0]) (by simp [results, Try.results21, go_sem, *]) rfl ⟨none, 0, [], rfl, rfl, rfl, town_nil _ _, grown_put HK.out.1.2.2.2 (p := ⟨w.heap.size + 1, 0, none⟩) (by dsimp only; omega) _⟩
/-- The loop over the pages: the pages are read, the table in variable V is the call's own. -/
def RLp (w : World) (A : Option Addr) (c : Nat) (ls : List Li) (D : Option Addr) (bs : List Bk) (G : Option Addr) (L : List Int) (V Z : Nat) (xss : List (List Int)) (wr : World) : Prop :=
  RIn w A 8 c ls D bs wr ∧ IRow wr Z G L ∧ (∀ ad, G = some ad → V ≠ ad.block) ∧ Z ≤ wr.heap.size ∧ ∃ g ct hi, CTab w.heap.size hi V g ct xss wr
theorem irow_ne {w : World} {B : Nat} {A : Option Addr} {xs : List Int} (h : IRow w B A xs) {p : Addr} (hp : ∀ ad, A = some ad → p.block ≠ ad.block) (u : Value) : IRow (w.setCell p u) B A xs := fun hn => by
  obtain ⟨g, off, rfl, hb, hz, hc⟩ := h hn
  refine ⟨g, off, rfl, hb, by simpa [World.setCell] using hz, fun i v hv => ?_⟩
  rw [World.cell?_setCell_other w p _ u (fun e => by subst e; exact hp _ rfl rfl)]
  exact hc i v hv
end
set_option maxHeartbeats 4000000 in
theorem roll_yes {D : Option Addr} {nd cd : Nat} {bs : List Bk} {A : Option Addr} {n c : Nat} {ls : List Li} {w : World} (s : Int) (hld : bs.length = nd) (hrd : DRow w w.heap.size D bs) (hl : ls.length = n) (hr : TRow w w.heap.size A ls) (hd : devB bs = true) (hv : tabB (ll ls) = true) :
    Calls Try.prog 21 #[.slice D nd cd, .agg #[.slice A n c], .int .i64 s] w (TabMade (rollTo bs (ll ls) (sinV bs s) (sinV bs s).length) 8 w) := by
  obtain ⟨h8, g0, off, _, _, _, _, _, rfl, _⟩ := hr.open_ hv (show 0 < 8 by omega) (show 0 < 6 by omega)
  have en : n = 8 := by omega
  subst en
  obtain ⟨⟨h1, h12⟩, hall⟩ := dev_parts hd
  have hnd : nd ≤ 12 := by omega
  have HT := Lib.hid (RIn.start hr hrd 8 c)
  have HP := Lib.hid (And.intro hld (And.intro (fun (b : Bk) (hm : b ∈ bs) => show b.ps.length ≤ 1048576 by have := (block_parts (hall b hm)).2.1; omega) hd))
  have HQ := Lib.hid (And.intro hl (And.intro (ll_six hv) (And.intro hv ((tabB_iff _).1 hv))))
  obtain ⟨L, hL⟩ : ∃ L, sinV bs s = L := ⟨_, rfl⟩
  have hL48 : L.length ≤ 48 := by rw [← hL]; exact sinV_small _ _
  have hRT := fun k => roll_tv (bs := bs) ((tabB_iff _).1 hv) s k
  rw [hL] at hRT ⊢
  have HL := Lib.hid (And.intro hL (And.intro hRT (fun (x : Int) (hx : x ∈ L) => sinV_page (bs := bs) (s := s) (x := x) (by rw [hL]; exact hx))))
  have hs8 : (8 : Nat) ≤ 1048576 := by omega
  clear hl hr hv hld hrd hd h1 h12 hall h8 hL hRT
  go_enter Try.func21, Try.ntmps21
  go_wp2_with fail
  refine (deviceValid_val HP.out.1 HP.out.2.2 _ HT.out.2.here (by omega) HP.out.2.1).mono ?_
  rintro e w1 ⟨rfl, hk⟩
  have HK := Lib.hid (HT.out.keep hk)
  have b0 := HK.out.1.1.cell 0
  clear hk HT
  go_wp2_with fail
  refine (tabValid_val HQ.out.2.2.1 HQ.out.1 HK.out.1.2.2.1.here hs8 HQ.out.2.1).mono ?_
  rintro e w2 ⟨rfl, hk⟩
  replace HK := Lib.hid (HK.out.keep hk)
  have b1 := HK.out.1.1.cell 0
  clear hk b0
  go_wp2_with fail
  refine (copyTab_at _ _ _ ls w2 HQ.out.1 HK.out.1.2.2.1.here HQ.out.2.2.1).mono ?_
  rintro e w3 ⟨A3, ct, cs, rfl, hcl, hcs, ho, hk⟩
  obtain ⟨gt, rfl, hgt, hgz, hC⟩ := CTab.start ho hcl hcs
  have K3 := grown_alloc (grown_refl w3 none) (.cells #[.slice (some ⟨gt, 0, none⟩) 8 ct] 40)
  have hC0 := hC.low HK.out.1.2.2.2.size
  have hVw : w.heap.size + 1 < w3.heap.size := by
    have h1 := hk.size
    have h2 := HK.out.1.2.1.lt
    omega
  replace HK := Lib.hid (And.intro ((HK.out.keep hk).keep K3) hC0)
  clear hk b1 ho hcl hcs hC K3 hC0 hgt
  go_wp2_with fail
  refine (pagesSince_any s HP.out.1 HK.out.1.2.here (by omega) HP.out.2.1).mono ?_
  rintro e w4 ⟨G, nl, cg, rfl, hnl, hoG, hk⟩
  rw [HL.out.1] at hnl hoG
  obtain rfl : nl = L.length := hnl.symm
  have HS : RowKit.Hid (RLp w (some ⟨g0, off, none⟩) c ls D bs G L w3.heap.size w4.heap.size (rollTo bs (ll ls) L 0) w4) := Lib.hid ⟨HK.out.1.keep hk, VOwn.row hoG, fun ad e => by have h1 := VOwn.lt hoG ad.block (by rw [e]; rfl); simp only [size_alloc1] at h1; omega, Nat.le_refl _, gt, ct, _, HK.out.2.keep hk⟩
  have hVz : w3.heap.size < w4.heap.size := by have := hk.size; simp only [size_alloc1] at this; omega
  clear hk hnl hoG HK
  go_wp2
  generalize w3.heap.size = V at HS hVw hVz ⊢
  generalize w4.heap.size = Z at HS hVz ⊢
  go_loopw [26] (fun i wr => ∃ k : Nat, i = .int .i64 k ∧ k ≤ L.length ∧ RLp w (some ⟨g0, off, none⟩) c ls D bs G L V Z (rollTo bs (ll ls) L k) wr) (fun i _ => L.length - (intOf i).toNat)
  case atStart => exact ⟨0, rfl, Nat.zero_le _, HS.out⟩
  case round =>
    rename World => wq
    obtain ⟨k, rfl, hk, hS⟩ := hrel
    clear HS
    have HS := Lib.hid hS
    clear hS
    by_cases hlt : k < L.length
    · have k1 : (k : Int) < L.length := by omega
      have k0 : decide ((0 : Int) ≤ k) = true := decide_eq_true (by omega)
      obtain ⟨gg, og, rfl⟩ := IRow.pos HS.out.2.1 (by omega)
      obtain ⟨x, hx⟩ : ∃ x, L[k]? = some x := ⟨_, List.getElem?_eq_getElem hlt⟩
      have q0 := IRow.cellf HS.out.2.1 hx
      obtain ⟨a, f, j, pv, pd, rfl, ha, hp, hrv, hf, hj, _⟩ := HL.out.2.2 x (List.mem_of_getElem? hx)
      obtain ⟨g1, c1, hi1, hC1⟩ := HS.out.2.2.2.2
      have b2 := hC1.2.cell 0
      obtain ⟨cs1, hl1, hx1, hr1⟩ := hC1.row
      have hT1 := HL.out.2.1 k
      have hst : rollTo bs (ll ls) L (k + 1) = tset (clrTo (rollTo bs (ll ls) L k) (a : Int) 48) f j (a : Int) := by
        rw [roll_step hx]
        unfold putB
        rw [hrv]
        rfl
      have HX := Lib.hid (And.intro hst (And.intro hp (clr_tv hT1 (a : Int) 48 (Nat.le_refl _))))
      have hv1 : tabB (ll cs1) = true := by rw [hx1]; exact (tabB_iff _).2 hT1
      have HC := Lib.hid (And.intro hC1 (And.intro hl1 (And.intro hr1 (And.intro hv1 hx1))))
      clear hst hp hrv hx hC1 hl1 hr1 hv1 hT1 hx1
      go_wp2_with fail
      refine (without_at (a : Int) HC.out.2.1 HC.out.2.2.1 HC.out.2.2.2.1).mono ?_
      rintro e w5 ⟨A5, c5, cs5, rfl, hl5, hx5, ho5, hk5⟩
      rw [HC.out.2.2.2.2] at hx5
      obtain ⟨g5, cap5, e, hg5, hgz5, _⟩ := ho5.head hl5 (by omega)
      injection e with e1 _ e3
      subst e1; subst e3
      have hV5 := HC.out.1.2.keep hk5
      have hS5 := HS.out.1.keep hk5
      have hG5 : IRow w5 Z (some ⟨gg, og, none⟩) L := VRow.kept HS.out.2.1 hk5
      have hZ5 : Z ≤ w5.heap.size := Nat.le_trans HS.out.2.2.2.1 hk5.size
      have v0 := hV5.cell 0
      have v1 := hV5.frozen 0
      have hC6 : CTab wq.heap.size w5.heap.size V g5 c5 (clrTo (rollTo bs (ll ls) L k) (a : Int) 48) (w5.setCell ⟨V, 0, none⟩ (.slice (some ⟨g5, 0, none⟩) 8 c5)) :=
        ⟨⟨cs5, hl5, hx5, ho5.put hV5 0 _, fun l ad hm he => town_lt ho5 hm he⟩, hV5.put 0 _⟩
      have hS6 := hS5.far (p := ⟨V, 0, none⟩) (by dsimp only; omega) (by dsimp only; omega) (by dsimp only; omega) (.slice (some ⟨g5, 0, none⟩) 8 c5)
      have hG6 := irow_ne hG5 (p := ⟨V, 0, none⟩) (fun ad e => HS.out.2.2.1 ad e) (.slice (some ⟨g5, 0, none⟩) 8 c5)
      have hz6 : (w5.setCell ⟨V, 0, none⟩ (.slice (some ⟨g5, 0, none⟩) 8 c5)).heap.size = w5.heap.size := by simp [World.setCell]
      have HE := Lib.hid (And.intro hS6 (And.intro hG6 (And.intro hC6 (And.intro (show Z ≤ wq.heap.size from HS.out.2.2.2.1) (show w5.heap.size ≤ (w5.setCell ⟨V, 0, none⟩ (.slice (some ⟨g5, 0, none⟩) 8 c5)).heap.size by omega)))))
      have HG := Lib.hid HS.out.2.2.1
      clear ho5 hl5 hx5 hk5 hV5 hS5 hG5 hZ5 hC6 hS6 hG6 hz6 hg5 hgz5 b2 HC HS
      go_wp2_with fail
      refine (pageOf_at _ _ _ bs a _ _ HP.out.1 HE.out.1.2.here HP.out.2.2 HX.out.2.1).mono ?_
      rintro e w7 ⟨rfl, hk7⟩
      have K7 := grown_drew (grown_alloc hk7 (.cells #[.bool true, .int .i64 (f : Int), .int .i64 (j : Int), .int .i64 pv, .int .i64 pd] 30))
      have hS7 := HE.out.1.keep K7
      have hG7 : IRow _ Z (some ⟨gg, og, none⟩) L := VRow.kept HE.out.2.1 K7
      have hC7 := HE.out.2.2.1.keep K7
      have hP7 := Blk.drew (Blk.new w7 30 #[.bool true, .int .i64 (f : Int), .int .i64 (j : Int), .int .i64 pv, .int .i64 pd])
      have hZ7 := K7.size
      have hZ8 := HE.out.2.2.2.2
      have hZ9 := HE.out.2.2.2.1
      obtain ⟨p0, p1, p2, p3, p4⟩ := cells5 hP7
      have b3 := hC7.2.cell 0
      obtain ⟨gl, cl, z, d0, d1, d2, _, ⟨hgl, hglh⟩, hne, hnb, hput⟩ := hC7.open_ HX.out.2.2 hf hj
      have n3 : gl ≠ V := hnb hC7.2 (by decide)
      have n5 : gl ≠ w7.heap.size := hnb hP7 (by decide)
      have n6 : gl ≠ w.heap.size := hnb hS7.1.1 (by decide)
      have n7 : gl ≠ w.heap.size + 1 := hnb hS7.1.2.1 (by decide)
      have m3 : V ≠ gl := fun e => n3 e.symm
      have m5 : w7.heap.size ≠ gl := fun e => n5 e.symm
      have mg : g5 ≠ gl := fun e => hne e.symm
      have hfin := hput (a : Int)
      rw [← HX.out.1] at hfin
      have HSS := Lib.hid (And.intro ((hC7.2.far (p := ⟨gl, j, none⟩) m3 (.int .i64 (a : Int))).cell 0) (And.intro ((hP7.far (p := ⟨gl, j, none⟩) m5 (.int .i64 (a : Int))).cell 1) (And.intro ((hP7.far (p := ⟨gl, j, none⟩) m5 (.int .i64 (a : Int))).cell 2) ((World.cell?_setCell_other (w7.alloc (.cells #[.bool true, .int .i64 (f : Int), .int .i64 (j : Int), .int .i64 pv, .int .i64 pd] 30)).drew ⟨gl, j, none⟩ ⟨g5, f, none⟩ (.int .i64 (a : Int)) (fun e => by injection e with e; omega)).trans d0))))
      have HZ := Lib.hid (show RLp w (some ⟨g0, off, none⟩) c ls D bs (some ⟨gg, og, none⟩) L V Z (rollTo bs (ll ls) L (k + 1)) ((w7.alloc (.cells #[.bool true, .int .i64 (f : Int), .int .i64 (j : Int), .int .i64 pv, .int .i64 pd] 30)).drew.setCell ⟨gl, j, none⟩ (.int .i64 (a : Int))) from
        ⟨hS7.far (p := ⟨gl, j, none⟩) (by dsimp only; omega) n6 n7 _, VRow.setCell hG7 (p := ⟨gl, j, none⟩) (by dsimp only; omega) _, HG.out, by
          have e : ((w7.alloc (.cells #[.bool true, .int .i64 (f : Int), .int .i64 (j : Int), .int .i64 pv, .int .i64 pd] 30)).drew.setCell ⟨gl, j, none⟩ (.int .i64 (a : Int))).heap.size = (w7.alloc (.cells #[.bool true, .int .i64 (f : Int), .int .i64 (j : Int), .int .i64 pv, .int .i64 pd] 30)).drew.heap.size := by simp [World.setCell]
          omega, g5, c5, _, hfin.low (by omega)⟩)
      have f0 : decide ((0 : Int) ≤ f) = true := decide_eq_true (by omega)
      have f1 : (f : Int) < 8 := by omega
      have j0 : decide ((0 : Int) ≤ j) = true := decide_eq_true (by omega)
      have j1 : (j : Int) < 6 := by omega
      clear hk7 K7 hS7 hG7 hC7 hP7 hfin hput hnb q0 hZ7 hZ8 hZ9 v0 v1
      go_wp2_with fail
      refine wp_region_held_drew (S := (fun w' => w'.cell? ⟨V, 0, none⟩ = some (.slice (some ⟨g5, 0, none⟩) 8 c5) ∧ w'.cell? ⟨w7.heap.size, 1, none⟩ = some (.int .i64 (f : Int)) ∧ w'.cell? ⟨w7.heap.size, 2, none⟩ = some (.int .i64 (j : Int)) ∧ w'.cell? ⟨g5, f, none⟩ = some (.slice (some ⟨gl, 0, none⟩) 6 cl))) (by kernel_rfl) ?_ (fun hHeld => ?_)
      · exact ⟨b3, p1, p2, d0⟩
      refine heldY 0 36 ?_
      refine heldY 1 37 ?_
      refine heldY 2 38 ?_
      refine heldY 3 39 ?_
      refine heldY 4 40 ?_
      refine heldY 5 41 ?_
      refine heldY 6 42 ?_
      refine heldY 7 43 ?_
      refine heldY 8 44 ?_
      refine heldY 9 45 ?_
      refine wpAnyH_ready (rs := [10]) (by kernel_rfl) (by simp) ?_
      refine AllReadyH.cons rfl (fun K hK => ?_) AllReadyH.nil
      go_simp
      refine hK.out _ _ ?_ (fun hHeld => ?_)
      · exact HSS.out
      clear hK K
      try simp only [Act.put, List.setIfInBounds_toArray, List.set_cons_zero, List.set_cons_succ]
      refine wpAnyH_done (by kernel_rfl) ?_ _
      go_wp2
      go_roundw
      case rel => exact ⟨k + 1, by go_num, by omega, HZ.out⟩
      case measure => simp [intOf]; omega
    · obtain ⟨g1, c1, hi1, ⟨cs, h1, h2, h3, _⟩, h4⟩ := HS.out.2.2.2.2
      have z0 := HS.out.1.1.2.1.cell 0
      have z1 := HS.out.1.1.2.1.frozen 0
      have b3 := h4.cell 0
      have e8 : decide ((k : Int) < (L.length : Int)) = false := decide_eq_false (by omega)
      have ek : k = L.length := by omega
      rw [ek] at h2
      have HZ := Lib.hid (And.intro h1 (And.intro h2 (And.intro (h3.put HS.out.1.1.2.1 0 (.slice (some ⟨g1, 0, none⟩) 8 c1)) (grown_put HS.out.1.1.2.2.2 (p := ⟨w.heap.size + 1, 0, none⟩) (by dsimp only; omega) (.slice (some ⟨g1, 0, none⟩) 8 c1)))))
      clear h1 h2 h3 h4 HS ek
      go_wp2
      exact bodyPost_ret (v := .agg #[.slice (some ⟨g1, 0, none⟩) 8 c1]) (by simp [results, Try.results21, go_sem, *]) rfl ⟨_, _, cs, rfl, HZ.out.1, HZ.out.2.1, HZ.out.2.2.1, HZ.out.2.2.2⟩
theorem roll_val {D : Option Addr} {nd cd : Nat} {bs : List Bk} {A : Option Addr} {n c : Nat} {ls : List Li} {w : World} {s : Int} {X : List (List Int)} {m : Nat} (hV : rollV bs (ll ls) s = X) (hm : X.length = m) (hld : bs.length = nd) (hrd : DRow w w.heap.size D bs) (hnd : nd ≤ 1048576) (hpd : ∀ b, b ∈ bs → b.ps.length ≤ 1048576) (hl : ls.length = n) (hr : TRow w w.heap.size A ls) (hn : n ≤ 1048576) (hp : ∀ l, l ∈ ls → l.xs.length ≤ 1048576) :
    Calls Try.prog 21 #[.slice D nd cd, .agg #[.slice A n c], .int .i64 s] w (TabMade X m w) := by
  subst hV
  cases hB : devB bs && tabB (ll ls)
  · have e := rollV_no hB s
    rw [e] at hm ⊢
    subst hm
    exact roll_no s hld hrd hnd hpd hl hr hn hp hB
  · rw [Bool.and_eq_true] at hB
    have e8 : (rollV bs (ll ls) s).length = 8 := ((tabB_iff _).1 (rollV_tab hB.1 hB.2 s)).len
    rw [e8] at hm
    subst hm
    rw [rollV_yes hB.1 hB.2]
    exact roll_yes s hld hrd hl hr hB.1 hB.2
end Go.Proofs.Yteniikfgellhfaa
namespace Go.Proofs.Yteniikfgellhfaa
open Go.ChangeShapes Go.WideShapes Go.ChangeAt Go.RowKit
set_option linter.unusedVariables false
set_option linter.unusedSimpArgs false

theorem specRoll_no {D : Option Addr} {nd cd : Nat} {bs : List Bk} {A : Option Addr} {n c : Nat} {ls : List Li} {w : World} (s : Int) (hld : bs.length = nd) (hrd : DRow w w.heap.size D bs) (hnd : nd ≤ 1048576) (hpd : ∀ b, b ∈ bs → b.ps.length ≤ 1048576) (hl : ls.length = n) (hr : TRow w w.heap.size A ls) (hn : n ≤ 1048576) (hp : ∀ l, l ∈ ls → l.xs.length ≤ 1048576) (hB : (devB bs && tabB (ll ls)) = false) :
    Calls Try.prog 23 #[.slice D nd cd, .agg #[.slice A n c], .int .i64 s] w (TabMade [] 0 w) := by
  have HT := Lib.hid (RIn.start hr hrd n c)
  cases hd : devB bs
  · have HP := Lib.hid (And.intro hld (And.intro hpd hd))
    clear hl hr hp hd hld hrd hpd hB
    go_enter Try.func23, Try.ntmps23
    go_wp2_with fail
    refine (specDeviceValid_val HP.out.1 HP.out.2.2 _ HT.out.2.here hnd HP.out.2.1).mono ?_
    rintro e w1 ⟨rfl, hk⟩
    have HK := Lib.hid (HT.out.keep hk)
    have z0 := HK.out.1.2.1.cell 0
    have z1 := HK.out.1.2.1.frozen 0
    clear hk
    go_wp2
    exact bodyPost_ret (v := .agg #[.slice none 0 0]) (by simp [results, Try.results23, go_sem, *]) rfl ⟨none, 0, [], rfl, rfl, rfl, town_nil _ _, grown_put HK.out.1.2.2.2 (p := ⟨w.heap.size + 1, 0, none⟩) (by dsimp only; omega) _⟩
  · rw [hd, Bool.true_and] at hB
    have HP := Lib.hid (And.intro hld (And.intro hpd hd))
    have HQ := Lib.hid (And.intro hl (And.intro hp hB))
    clear hl hr hp hd hld hrd hpd hB
    go_enter Try.func23, Try.ntmps23
    go_wp2_with fail
    refine (specDeviceValid_val HP.out.1 HP.out.2.2 _ HT.out.2.here hnd HP.out.2.1).mono ?_
    rintro e w1 ⟨rfl, hk⟩
    have HK := Lib.hid (HT.out.keep hk)
    have b0 : w1.cell? ⟨w.heap.size, 0, none⟩ = some (.slice A n c) := HK.out.1.1.cell 0
    clear hk
    go_wp2_with fail
    refine (specTabValid_val HQ.out.2.2 HQ.out.1 HK.out.1.2.2.1.here hn HQ.out.2.1).mono ?_
    rintro e w2 ⟨rfl, hk⟩
    replace HK := Lib.hid (HK.out.keep hk)
    have z0 := HK.out.1.2.1.cell 0
    have z1 := HK.out.1.2.1.frozen 0
    clear hk b0
    go_wp2
    exact bodyPost_ret (v := .agg #[.slice none 0 0]) (by simp [results, Try.results23, go_sem, *]) rfl ⟨none, 0, [], rfl, rfl, rfl, town_nil _ _, grown_put HK.out.1.2.2.2 (p := ⟨w.heap.size + 1, 0, none⟩) (by dsimp only; omega) _⟩
/-- The loop over the pages: the pages are read, the table in variable V is the call's own, its rows lie below V and the list above. -/
def SLp (w : World) (A : Option Addr) (c : Nat) (ls : List Li) (D : Option Addr) (bs : List Bk) (G : Option Addr) (L : List Int) (V Y g ct : Nat) (xss : List (List Int)) (wr : World) : Prop :=
  RIn w A 8 c ls D bs wr ∧ IRow wr Y G L ∧ (∀ ad, G = some ad → V < ad.block) ∧ CTab w.heap.size V V g ct xss wr
section
variable {w wr w' : World} {A D G : Option Addr} {c V Y g ct : Nat} {ls : List Li} {bs : List Bk} {L : List Int} {xss : List (List Int)}
theorem SLp.keep (H : SLp w A c ls D bs G L V Y g ct xss wr) (k : wr.grownBy w' none) : SLp w A c ls D bs G L V Y g ct xss w' := ⟨H.1.keep k, VRow.kept H.2.1 k, H.2.2.1, H.2.2.2.keep k⟩
theorem SLp.open_ (H : SLp w A c ls D bs G L V Y g ct xss wr) (hT : TV xss) {f j : Nat} (hf : f < 8) (hj : j < 6) :
    ∃ (gl cl : Nat) (x : Int), wr.cell? ⟨g, f, none⟩ = some (.slice (some ⟨gl, 0, none⟩) 6 cl) ∧ wr.cell? ⟨gl, j, none⟩ = some (.int .i64 x) ∧ wr.frozen? ⟨gl, j, none⟩ = false ∧ cellO xss f j = some x ∧ gl ≠ g ∧ gl ≠ V ∧ (∀ ad, G = some ad → gl ≠ ad.block) ∧
      (∀ {t : TypeId} {V' : Nat} {cc : Array Value}, Blk wr V' t cc → (3 : TypeId) ≠ t → gl ≠ V') ∧
      ∀ y : Int, SLp w A c ls D bs G L V Y g ct (tset xss f j y) (wr.setCell ⟨gl, j, none⟩ (.int .i64 y)) := by
  obtain ⟨gl, cl, x, c0, c1, c2, e, ⟨h1, h2⟩, h3, h4, h5⟩ := H.2.2.2.open_ hT hf hj
  have hG : ∀ ad, G = some ad → gl ≠ ad.block := fun ad e => by have := H.2.2.1 ad e; omega
  exact ⟨gl, cl, x, c0, c1, c2, e, h3, by omega, hG, h4, fun y => ⟨H.1.far (p := ⟨gl, j, none⟩) h1 (h4 H.1.1.1 (by decide)) (h4 H.1.1.2.1 (by decide)) _, irow_ne H.2.1 (p := ⟨gl, j, none⟩) hG _, H.2.2.1, h5 y⟩⟩
end
set_option maxHeartbeats 4000000 in
theorem specRoll_yes {D : Option Addr} {nd cd : Nat} {bs : List Bk} {A : Option Addr} {n c : Nat} {ls : List Li} {w : World} (s : Int) (hld : bs.length = nd) (hrd : DRow w w.heap.size D bs) (hl : ls.length = n) (hr : TRow w w.heap.size A ls) (hd : devB bs = true) (hv : tabB (ll ls) = true) :
    Calls Try.prog 23 #[.slice D nd cd, .agg #[.slice A n c], .int .i64 s] w (TabMade (rollTo bs (ll ls) (sinV bs s) (sinV bs s).length) 8 w) := by
  obtain ⟨h8, g0, off, _, _, _, _, _, rfl, _⟩ := hr.open_ hv (show 0 < 8 by omega) (show 0 < 6 by omega)
  have en : n = 8 := by omega
  subst en
  obtain ⟨⟨h1, h12⟩, hall⟩ := dev_parts hd
  have hnd : nd ≤ 12 := by omega
  have HT := Lib.hid (RIn.start hr hrd 8 c)
  have HP := Lib.hid (And.intro hld (And.intro (fun (b : Bk) (hm : b ∈ bs) => show b.ps.length ≤ 1048576 by have := (block_parts (hall b hm)).2.1; omega) hd))
  have HQ := Lib.hid (And.intro hl (And.intro (ll_six hv) (And.intro hv ((tabB_iff _).1 hv))))
  obtain ⟨L, hL⟩ : ∃ L, sinV bs s = L := ⟨_, rfl⟩
  have hL48 : L.length ≤ 48 := by rw [← hL]; exact sinV_small _ _
  have hRT := fun k => roll_tv (bs := bs) ((tabB_iff _).1 hv) s k
  rw [hL] at hRT ⊢
  have HL := Lib.hid (And.intro hL (And.intro hRT (fun (x : Int) (hx : x ∈ L) => sinV_page (bs := bs) (s := s) (x := x) (by rw [hL]; exact hx))))
  have hs8 : (8 : Nat) ≤ 1048576 := by omega
  clear hl hr hv hld hrd hd h1 h12 hall h8 hL hRT
  go_enter Try.func23, Try.ntmps23
  go_wp2_with fail
  refine (specDeviceValid_val HP.out.1 HP.out.2.2 _ HT.out.2.here (by omega) HP.out.2.1).mono ?_
  rintro e w1 ⟨rfl, hk⟩
  have HK := Lib.hid (HT.out.keep hk)
  have b0 := HK.out.1.1.cell 0
  clear hk HT
  go_wp2_with fail
  refine (specTabValid_val HQ.out.2.2.1 HQ.out.1 HK.out.1.2.2.1.here hs8 HQ.out.2.1).mono ?_
  rintro e w2 ⟨rfl, hk⟩
  replace HK := Lib.hid (HK.out.keep hk)
  have b1 := HK.out.1.1.cell 0
  clear hk b0
  go_wp2_with fail
  refine (specCopyTab_any _ _ _ ls w2 HQ.out.1 HK.out.1.2.2.1.here (by omega) HQ.out.2.1).mono ?_
  rintro e w3 ⟨A3, ct, cs, rfl, hcl, hcs, ho, hk⟩
  obtain ⟨gt, rfl, hgt, hgz, hC⟩ := CTab.start ho hcl hcs
  have K3 := grown_alloc (grown_refl w3 none) (.cells #[.slice (some ⟨gt, 0, none⟩) 8 ct] 40)
  have hC0 := hC.low HK.out.1.2.2.2.size
  replace HK := Lib.hid (And.intro ((HK.out.keep hk).keep K3) hC0)
  clear hk b1 ho hcl hcs hC K3 hC0 hgt
  go_wp2_with fail
  refine (specPagesSince_any s HP.out.1 HK.out.1.2.here (by omega) HP.out.2.1).mono ?_
  rintro e w4 ⟨G, nl, cg, rfl, hnl, hoG, hk⟩
  rw [HL.out.1] at hnl hoG
  obtain rfl : nl = L.length := hnl.symm
  have HS : RowKit.Hid (SLp w (some ⟨g0, off, none⟩) c ls D bs G L w3.heap.size w4.heap.size gt ct (rollTo bs (ll ls) L 0) w4) := Lib.hid ⟨HK.out.1.keep hk, VOwn.row hoG, fun ad e => by have h1 := VOwn.lt hoG ad.block (by rw [e]; rfl); simp only [size_alloc1] at h1; omega, HK.out.2.keep hk⟩
  clear hk hnl hoG HK hgz
  go_wp2
  generalize w3.heap.size = V at HS ⊢
  generalize w4.heap.size = Y at HS ⊢
  go_loopw [9] (fun i wr => ∃ k : Nat, i = .int .i64 k ∧ k ≤ L.length ∧ SLp w (some ⟨g0, off, none⟩) c ls D bs G L V Y gt ct (rollTo bs (ll ls) L k) wr) (fun i _ => L.length - (intOf i).toNat)
  case atStart => exact ⟨0, rfl, Nat.zero_le _, HS.out⟩
  case round =>
    rename World => wq
    obtain ⟨k, rfl, hk, hS⟩ := hrel
    clear HS
    have HS := Lib.hid hS
    clear hS
    by_cases hlt : k < L.length
    · have k1 : (k : Int) < L.length := by omega
      have k0 : decide ((0 : Int) ≤ k) = true := decide_eq_true (by omega)
      obtain ⟨gg, og, rfl⟩ := IRow.pos HS.out.2.1 (by omega)
      obtain ⟨x, hx⟩ : ∃ x, L[k]? = some x := ⟨_, List.getElem?_eq_getElem hlt⟩
      have q0 := IRow.cellf HS.out.2.1 hx
      obtain ⟨a, f, j, pv, pd, rfl, ha, hp, hrv, hf, hj, _⟩ := HL.out.2.2 x (List.mem_of_getElem? hx)
      have hT1 := HL.out.2.1 k
      have hst : rollTo bs (ll ls) L (k + 1) = tset (clrTo (rollTo bs (ll ls) L k) (a : Int) 48) f j (a : Int) := by
        rw [roll_step hx]
        unfold putB
        rw [hrv]
        rfl
      obtain ⟨R, hR⟩ : ∃ R, rollTo bs (ll ls) L k = R := ⟨_, rfl⟩
      rw [hR] at hT1 hst HS
      have HX := Lib.hid (And.intro hst (And.intro hrv (And.intro hT1 hx)))
      clear hst hp hrv hx hT1 hR
      go_wp2_with fail
      refine (specRead_val HX.out.2.1 HP.out.1 HS.out.1.2.here (by omega) HP.out.2.1).mono ?_
      rintro e w6 ⟨rfl, hk6⟩
      have K6 := grown_alloc hk6 (.cells #[.bool true, .int .i64 (f : Int), .int .i64 (j : Int), .int .i64 pv, .int .i64 pd] 30)
      replace HS := Lib.hid (And.intro (HS.out.keep K6) (Blk.new w6 30 #[.bool true, .int .i64 (f : Int), .int .i64 (j : Int), .int .i64 pv, .int .i64 pd]))
      clear hk6 K6 q0
      go_wp2
      generalize w6.heap.size = PV at HS ⊢
      go_loopw [12] (fun i wr => ∃ f' : Nat, i = .int .i64 f' ∧ f' ≤ 8 ∧ SLp w (some ⟨g0, off, none⟩) c ls D bs (some ⟨gg, og, none⟩) L V Y gt ct (clrTo R (a : Int) (6 * f')) wr ∧ Blk wr PV 30 #[.bool true, .int .i64 (f : Int), .int .i64 (j : Int), .int .i64 pv, .int .i64 pd]) (fun i _ => 8 - (intOf i).toNat)
      case atStart => exact ⟨0, rfl, Nat.zero_le _, HS.out⟩
      case round =>
        rename World => wy
        obtain ⟨f', rfl, hf', hS⟩ := hrel
        clear HS
        have HS := Lib.hid hS
        clear hS
        by_cases hflt : f' < 8
        · have f1 : (f' : Int) < 8 := by omega
          have f0 : decide ((0 : Int) ≤ f') = true := decide_eq_true (by omega)
          go_wp2
          go_loopw [13] (fun i wr => ∃ j' : Nat, i = .int .i64 j' ∧ j' ≤ 6 ∧ SLp w (some ⟨g0, off, none⟩) c ls D bs (some ⟨gg, og, none⟩) L V Y gt ct (clrTo R (a : Int) (6 * f' + j')) wr ∧ Blk wr PV 30 #[.bool true, .int .i64 (f : Int), .int .i64 (j : Int), .int .i64 pv, .int .i64 pd]) (fun i _ => 6 - (intOf i).toNat)
          case atStart => exact ⟨0, rfl, Nat.zero_le _, HS.out⟩
          case round =>
            rename World => wz
            obtain ⟨j', rfl, hj', hS⟩ := hrel
            clear HS
            have HS := Lib.hid hS
            clear hS
            by_cases hjlt : j' < 6
            · have j1 : decide ((j' : Int) ≤ 5) = true := decide_eq_true (by omega)
              have j2 : (j' : Int) < 6 := by omega
              have j0 : decide ((0 : Int) ≤ j') = true := decide_eq_true (by omega)
              have hTc := clr_tv HX.out.2.2.1 (a : Int) (6 * f' + j') (by omega)
              obtain ⟨gl, cl, y, d0, d1, d2, hy, hne, hnV, hnG, hnb, hput⟩ := HS.out.1.open_ hTc hflt hjlt
              have hcy : cellO R f' j' = some y := by
                have h1 := clr_at HX.out.2.2.1 (a : Int) (m := 6 * f' + j') (by omega)
                rw [show (6 * f' + j') / 6 = f' by omega, show (6 * f' + j') % 6 = j' by omega, hy] at h1
                exact h1.symm
              have b3 := HS.out.1.2.2.2.2.cell 0
              have q0 := IRow.cellf HS.out.1.2.1 HX.out.2.2.2
              by_cases he : y = (a : Int)
              · have e1 : (y == (a : Int)) = true := by rw [beq_iff_eq]; exact he
                have hst := clr_upto hjlt (hcy.trans (by rw [he]))
                have HE := Lib.hid (And.intro hst hTc)
                clear hy hput hnb hcy he hst hTc d2 hne hnV hnG
                go_wp2_with fail
                go_quiet (fail)
                generalize hwz : wz.drewN nq = wv
                have hkz : wz.grownBy wv none := by rw [← hwz]; exact grown_drewN (grown_refl _ _) _
                replace HS := Lib.hid (And.intro (HS.out.1.keep hkz) (HS.out.2.keep hkz))
                clear hwz hkz b3 q0 d0 d1
                obtain ⟨gl, cl, y, d0, d1, d2, hy, hne, hnV, hnG, hnb, hput⟩ := HS.out.1.open_ HE.out.2 hflt hjlt
                have b3 := HS.out.1.2.2.2.2.cell 0
                have hfin := hput (-1)
                rw [← HE.out.1] at hfin
                have n5 : gl ≠ PV := hnb HS.out.2 (by decide)
                have HZ := Lib.hid (And.intro hfin (HS.out.2.far (p := ⟨gl, j', none⟩) (fun e => n5 e.symm) (.int .i64 (-1))))
                clear hput hfin hnb hy hnG HS HE
                go_wp2
                go_roundw
                case rel => exact ⟨j' + 1, by go_num, by omega, HZ.out.1, HZ.out.2⟩
                case measure => simp [intOf]; omega
              · have e1 : (y == (a : Int)) = false := by rw [beq_eq_false_iff_ne]; exact he
                have HE := Lib.hid (clr_past (xss := R) (x := (a : Int)) hjlt (by rw [hcy]; intro e; injection e with e; exact he e))
                clear hy hput hnb hcy he hTc d2 hne hnV hnG
                go_wp2_with fail
                go_quiet (fail)
                generalize hwz : wz.drewN nq = wv
                have hkz : wz.grownBy wv none := by rw [← hwz]; exact grown_drewN (grown_refl _ _) _
                replace HS := Lib.hid (And.intro (HS.out.1.keep hkz) (HS.out.2.keep hkz))
                clear hwz hkz b3 q0 d0 d1
                go_wp2
                go_roundw
                case rel => exact ⟨j' + 1, by go_num, by omega, by rw [show 6 * f' + (j' + 1) = 6 * f' + j' + 1 from rfl, HE.out]; exact HS.out⟩
                case measure => simp [intOf]; omega
            · obtain rfl : j' = 6 := by omega
              go_wp2
              go_roundw
              case rel => exact ⟨f' + 1, by go_num, by omega, by rw [show 6 * (f' + 1) = 6 * f' + 6 by omega]; exact HS.out⟩
              case measure => simp [intOf]; omega
        · obtain rfl : f' = 8 := by omega
          replace HS := Lib.hid (And.intro (HS.out.1.keep (grown_drew (grown_refl _ none))) (HS.out.2.keep (grown_drew (grown_refl _ none))))
          obtain ⟨p0, p1, p2, p3, p4⟩ := cells5 HS.out.2
          have b3 := HS.out.1.2.2.2.2.cell 0
          have q0 := IRow.cellf HS.out.1.2.1 HX.out.2.2.2
          obtain ⟨gl, cl, z, d0, d1, d2, _, hne, hnV, hnG, hnb, hput⟩ := HS.out.1.open_ (clr_tv HX.out.2.2.1 (a : Int) 48 (Nat.le_refl _)) hf hj
          have n5 : gl ≠ PV := hnb HS.out.2 (by decide)
          have n8 : gl ≠ gg := hnG _ rfl
          have m3 : V ≠ gl := fun e => hnV e.symm
          have m5 : PV ≠ gl := fun e => n5 e.symm
          have mg : gt ≠ gl := fun e => hne e.symm
          have hfin := hput (a : Int)
          rw [← HX.out.1] at hfin
          have HSS := Lib.hid (And.intro (hfin.2.2.2.2.cell 0) (And.intro ((HS.out.2.far (p := ⟨gl, j, none⟩) m5 (.int .i64 (a : Int))).cell 1) (And.intro ((HS.out.2.far (p := ⟨gl, j, none⟩) m5 (.int .i64 (a : Int))).cell 2) (And.intro ((World.cell?_setCell_other wy.drew ⟨gl, j, none⟩ ⟨gt, f, none⟩ (.int .i64 (a : Int)) (fun e => by injection e with e; omega)).trans d0) (IRow.cellf hfin.2.1 HX.out.2.2.2)))))
          have HZ := Lib.hid hfin
          have f0 : decide ((0 : Int) ≤ f) = true := decide_eq_true (by omega)
          have f1 : (f : Int) < 8 := by omega
          have j0 : decide ((0 : Int) ≤ j) = true := decide_eq_true (by omega)
          have j1 : (j : Int) < 6 := by omega
          clear hfin hput hnb hnG
          go_wp2_with fail
          refine wp_region_held_drew (S := (fun w' => w'.cell? ⟨V, 0, none⟩ = some (.slice (some ⟨gt, 0, none⟩) 8 ct) ∧ w'.cell? ⟨PV, 1, none⟩ = some (.int .i64 (f : Int)) ∧ w'.cell? ⟨PV, 2, none⟩ = some (.int .i64 (j : Int)) ∧ w'.cell? ⟨gt, f, none⟩ = some (.slice (some ⟨gl, 0, none⟩) 6 cl) ∧ w'.cell? ⟨gg, og + k, none⟩ = some (.int .i64 (a : Int)))) (by kernel_rfl) ?_ (fun hHeld => ?_)
          · exact ⟨b3, p1, p2, d0, q0⟩
          refine heldY 0 71 ?_
          refine heldY 1 72 ?_
          refine heldY 2 73 ?_
          refine heldY 3 74 ?_
          refine heldY 4 75 ?_
          refine heldY 5 76 ?_
          refine heldY 6 77 ?_
          refine heldY 7 78 ?_
          refine heldY 8 79 ?_
          refine heldY 9 80 ?_
          refine heldY 10 81 ?_
          refine heldY 11 82 ?_
          refine heldY 12 83 ?_
          refine wpAnyH_ready (rs := [13]) (by kernel_rfl) (by simp) ?_
          refine AllReadyH.cons rfl (fun K hK => ?_) AllReadyH.nil
          go_simp
          refine hK.out _ _ ?_ (fun hHeld => ?_)
          · exact HSS.out
          clear hK K
          try simp only [Act.put, List.setIfInBounds_toArray, List.set_cons_zero, List.set_cons_succ]
          refine wpAnyH_done (by kernel_rfl) ?_ _
          go_wp2
          go_roundw
          case rel => exact ⟨k + 1, by go_num, by omega, HZ.out⟩
          case measure => simp [intOf]; omega
    · obtain ⟨_, _, _, ⟨cs, h1, h2, h3, _⟩, h4⟩ := HS.out
      have z0 := HS.out.1.1.2.1.cell 0
      have z1 := HS.out.1.1.2.1.frozen 0
      have b3 := h4.cell 0
      have e8 : decide ((k : Int) < (L.length : Int)) = false := decide_eq_false (by omega)
      have ek : k = L.length := by omega
      rw [ek] at h2
      have HZ := Lib.hid (And.intro h1 (And.intro h2 (And.intro (h3.put HS.out.1.1.2.1 0 (.slice (some ⟨gt, 0, none⟩) 8 ct)) (grown_put HS.out.1.1.2.2.2 (p := ⟨w.heap.size + 1, 0, none⟩) (by dsimp only; omega) (.slice (some ⟨gt, 0, none⟩) 8 ct)))))
      clear h1 h2 h3 h4 HS ek
      go_wp2
      exact bodyPost_ret (v := .agg #[.slice (some ⟨gt, 0, none⟩) 8 ct]) (by simp [results, Try.results23, go_sem, *]) rfl ⟨_, _, cs, rfl, HZ.out.1, HZ.out.2.1, HZ.out.2.2.1, HZ.out.2.2.2⟩
theorem specRoll_val {D : Option Addr} {nd cd : Nat} {bs : List Bk} {A : Option Addr} {n c : Nat} {ls : List Li} {w : World} {s : Int} {X : List (List Int)} {m : Nat} (hV : rollV bs (ll ls) s = X) (hm : X.length = m) (hld : bs.length = nd) (hrd : DRow w w.heap.size D bs) (hnd : nd ≤ 1048576) (hpd : ∀ b, b ∈ bs → b.ps.length ≤ 1048576) (hl : ls.length = n) (hr : TRow w w.heap.size A ls) (hn : n ≤ 1048576) (hp : ∀ l, l ∈ ls → l.xs.length ≤ 1048576) :
    Calls Try.prog 23 #[.slice D nd cd, .agg #[.slice A n c], .int .i64 s] w (TabMade X m w) := by
  subst hV
  cases hB : devB bs && tabB (ll ls)
  · have e := rollV_no hB s
    rw [e] at hm ⊢
    subst hm
    exact specRoll_no s hld hrd hnd hpd hl hr hn hp hB
  · rw [Bool.and_eq_true] at hB
    have e8 : (rollV bs (ll ls) s).length = 8 := ((tabB_iff _).1 (rollV_tab hB.1 hB.2 s)).len
    rw [e8] at hm
    subst hm
    rw [rollV_yes hB.1 hB.2]
    exact specRoll_yes s hld hrd hl hr hB.1 hB.2
end Go.Proofs.Yteniikfgellhfaa
