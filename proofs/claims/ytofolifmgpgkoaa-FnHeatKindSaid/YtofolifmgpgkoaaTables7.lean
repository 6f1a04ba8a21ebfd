/- Rows of numbers and tables that are made: make, copy, a list put at its place.
   What the program's TableValid answers.
   What the program's emptyTable, copyTable, isNamedElsewhere, TableGet and TableChanges answer.
   What the program's TablePut answers.
   Plain facts on the table of a device.
   What the program's TableOf answers.
   What the model's TableOf answers. -/
import Derived.Test.YtofolifmgpgkoaaTables2
import Derived.Test.YtofolifmgpgkoaaExactDev3
import Derived.Test.YtofolifmgpgkoaaHand
import Derived.Laws.OwnMore
namespace Go.Proofs.Ytofolifmgpgkoaa
open Go.ChangeShapes Go.WideShapes Go.ChangeAt Go.RowKit

theorem make_ints (w : World) (n : Nat) (hn : n ≤ 1048576) :
    (Instr.makeSlice 30 (.int .i64 (n : Int)) (.int .i64 (n : Int))).run Try.prog w = .ok (.slice (some ⟨w.heap.size, 0, none⟩) n n) (w.alloc (.cells (madeCells #[.int .i64 0] n) 3)) := by
  obtain ⟨i, hi, hz, hs, hb⟩ := info_parts int_info
  have hr := run_make (P := Try.prog) w 30 3 i _ Try.underlying30 hi hz .i64 .i64 n n (by omega) (by omega) (by rw [hb]; omega) (by omega)
  simp only [Int.toNat_natCast, hs, Nat.mul_one] at hr
  exact hr
theorem iown_made (w : World) (base n : Nat) (hb : base ≤ w.heap.size) (hn : n ≤ maxLen) :
    IOwn (w.alloc (.cells (madeCells #[.int .i64 0] n) 3)) base (.slice (some ⟨w.heap.size, 0, none⟩) n n) (List.replicate n 0) := by
  have h := World.ownsRow_lit (e := 3) (size := 1) w (madeCells #[.int .i64 0] n) n hb hn (by simp [madeCells])
  rw [toList_madeCells_one] at h
  unfold IOwn VOwn
  simpa [iv] using h
/-- A list that was not put yet. -/
def lz : Li := ⟨none, 0, []⟩
theorem town_made (w : World) (base n : Nat) (hb : base ≤ w.heap.size) (hn : n ≤ maxLen) :
    TOwn (w.alloc (.cells (madeCells #[.slice none 0 0] n) 30)) base (.slice (some ⟨w.heap.size, 0, none⟩) n n) (List.replicate n lz) := by
  refine ⟨?_, fun l hm => ?_, fun i j l l' a a' _ hi _ ha _ => ?_⟩
  · have h := World.ownsRow_lit (e := 30) (size := 1) w (madeCells #[.slice none 0 0] n) n hb hn (by simp [madeCells])
    rw [toList_madeCells_one] at h
    unfold VOwn
    simpa [lv, lz, Li.row] using h
  · rw [List.eq_of_mem_replicate hm]
    exact World.ownsRow_nil _ _ _ _
  · rw [List.eq_of_mem_replicate (List.mem_of_getElem? hi)] at ha
    cases ha
/-- copy(d, s) where both have as many numbers. -/
theorem copy_ints (w : World) (base g dCap sCap : Nat) (A : Option Addr) (B n : Nat) (qs ps : List Int) (hp : ps.length = n) (hpos : 0 < n)
    (ho : IOwn w base (.slice (some ⟨g, 0, none⟩) n dCap) qs) (hq : qs.length = n) (hr : IRow w B A ps) :
    ∃ w', (∀ ty, (Builtin.copy_ #[30, 30] ty #[.slice (some ⟨g, 0, none⟩) n dCap, .slice A n sCap]).run Try.prog w = .ok (.int .i64 (n : Int)) w') ∧ IOwn w' base (.slice (some ⟨g, 0, none⟩) n dCap) ps ∧ w.grownBy w' (some g) := by
  obtain ⟨ga, off, rfl, _, hz, hc⟩ := hr (by rw [iv_length]; omega)
  have ho' : VOwn w base 3 (.slice (some ⟨g, 0, none⟩) n dCap) (iv qs) := ho
  rcases ho'.2 with ⟨e, hn0⟩ | ⟨g', cap, cur, e, hb, hg, hcap, hm, hsz, htk⟩
  · cases e
  · injection e with e1 e2 e3
    injection e1 with e1
    injection e1 with e1
    subst e1; subst e3
    obtain ⟨i, hi, hzz, hs, hby⟩ := info_parts int_info
    have hlen : (iv ps).length = n * 1 := by rw [iv_length, hp, Nat.mul_one]
    have hsrc : ∀ j v, (iv ps)[j]? = some v → w.cell? ((⟨ga, off, none⟩ : Addr).add j) = some v := by
      intro j v hv
      have hadd : (⟨ga, off, none⟩ : Addr).add j = ⟨ga, off + j, none⟩ := by unfold Addr.add; split <;> simp_all
      rw [hadd]
      exact hc _ _ hv
    have hrun := fun ty => run_copy_rowN (P := Try.prog) w 30 30 ty 3 1 g 0 n dCap ⟨ga, off, none⟩ sCap cur 3 (iv ps) Try.underlying30 (by rw [hi]; simp [hs]) hg hlen hsrc (by rw [hlen, hsz]; rw [iv_length] at *; omega) (iv_one ps)
    refine ⟨_, hrun, ⟨by omega, .inr ⟨g, dCap, _, by rw [iv_length, hp], hb, setRow_heap w g cur _ _ _ hg, by rw [iv_length] at *; omega, hm, ?_, ?_⟩⟩, ⟨rfl, rfl, rfl, by simp [World.setRow], fun k _ hk => setRow_other w g k _ (by intro e; exact hk (by rw [e]))⟩⟩
    · rw [iv_length] at *
      simp [iv_length, hp, hsz]; omega
    · simp [iv_length, hp]
/-- A list of its own, made since, is put at its place in a table of the call's own. -/
theorem TOwn.putl {wr w1 : World} {base g cap n : Nat} {cs : List Li} {A : Option Addr} {c m : Nat} {xs : List Int} (h : TOwn wr base (.slice (some ⟨g, 0, none⟩) n cap) cs) (hn : cs.length = n) (hk : wr.grownBy w1 none) (hp : IOwn w1 wr.heap.size (.slice A m c) xs) (hl : xs.length = m)
    (hb : base ≤ wr.heap.size) (k : Nat) : TOwn (w1.setCell ⟨g, k, none⟩ (.slice A m c)) base (.slice (some ⟨g, 0, none⟩) n cap) (cs.set k ⟨A, c, xs⟩) := by
  subst hl
  have h1 := h.keep hk
  have hgr : g < wr.heap.size ∧ base ≤ g := by
    have := VOwn.lt h.1 g (by simp [Value.ownBlock])
    omega
  refine ⟨?_, fun b hm => ?_, fun i j b b' a a' hij hi hj ha ha' => ?_⟩
  · rw [lv_set]
    exact VOwn.set h1.1 (by rw [lv_length]; exact hn) k _
  · rcases List.mem_or_eq_of_mem_set hm with hm | rfl
    · refine VOwn.to_put (h1.2.1 b hm) ?_ _
      rcases h1.inner_ne hm with e | e
      · simp [e]
      · exact fun e' => e (e'.trans (by simp [Value.ownBlock]))
    · refine VOwn.to_put (VOwn.base_le hp hb) ?_ _
      intro e
      have := (VOwn.lt hp g e).1
      omega
  · have lt : ∀ {b : Li} {a : Addr}, b ∈ cs → b.A = some a → a.block < wr.heap.size := fun {b a} hm e => (VOwn.lt (h.2.1 b hm) a.block (by simp [Li.row, e, Value.ownBlock])).2
    have ge : ∀ {a : Addr}, A = some a → wr.heap.size ≤ a.block := fun {a} e => (VOwn.lt hp a.block (by simp [e, Value.ownBlock])).1
    rw [List.getElem?_set] at hi hj
    by_cases hik : k = i
    · by_cases hjk : k = j
      · omega
      · rw [if_pos hik] at hi
        rw [if_neg hjk] at hj
        split at hi
        · injection hi with hi
          subst hi
          have := lt (List.mem_of_getElem? hj) ha'
          have := ge ha
          omega
        · cases hi
    · rw [if_neg hik] at hi
      by_cases hjk : k = j
      · rw [if_pos hjk] at hj
        split at hj
        · injection hj with hj
          subst hj
          have := lt (List.mem_of_getElem? hi) ha
          have := ge ha'
          omega
        · cases hj
      · rw [if_neg hjk] at hj
        exact h.2.2 i j b b' a a' hij hi hj ha ha'
/-- The lists that were put so far. -/
def Filled (xss : List (List Int)) (n k : Nat) (cs : List Li) : Prop := cs.length = n ∧ (ll cs).take k = xss.take k
theorem filled_step {xss : List (List Int)} {n k : Nat} {cs : List Li} {A : Option Addr} {c : Nat} {xs : List Int} (h : Filled xss n k cs) (hk : k < n) (hx : xss[k]? = some xs) : Filled xss n (k + 1) (cs.set k ⟨A, c, xs⟩) := by
  obtain ⟨h1, h2⟩ := h
  refine ⟨by simpa using h1, ?_⟩
  rw [ll_set, List.take_add_one, List.take_add_one, List.take_set_of_le (Nat.le_refl _), List.getElem?_set_self (by rw [ll_length]; omega), hx, h2]
theorem filled_all {xss : List (List Int)} {n : Nat} {cs : List Li} (h : Filled xss n n cs) (hl : xss.length = n) : ll cs = xss := by
  have := h.2
  rwa [List.take_of_length_le (by rw [ll_length, h.1]; exact Nat.le_refl _), List.take_of_length_le (by omega)] at this
end Go.Proofs.Ytofolifmgpgkoaa
namespace Go.Proofs.Ytofolifmgpgkoaa
open Go.ChangeShapes Go.WideShapes Go.ChangeAt Go.RowKit
set_option linter.unusedVariables false

/-- Every file has a list with a number for every place. -/
def sixB (xss : List (List Int)) : Bool := decide (xss.length = 8) && xss.all (fun l => decide (l.length = 6))
theorem six_no {xss : List (List Int)} (h : xss.length ≠ 8) : sixB xss = false := by simp [sixB, h]
theorem six_len {xss : List (List Int)} {f : Nat} {xs : List Int} (h : xss[f]? = some xs) (h6 : xs.length ≠ 6) : sixB xss = false := by
  have : xss.all (fun l => decide (l.length = 6)) = false := by
    rw [List.all_eq_false]
    exact ⟨xs, List.mem_of_getElem? h, by simp [h6]⟩
  simp [sixB, this]
theorem six_yes {xss : List (List Int)} (h8 : xss.length = 8) (h : ∀ (j : Nat) (xs : List Int), xss[j]? = some xs → xs.length = 6) : sixB xss = true := by
  simp only [sixB, h8, decide_true, Bool.true_and, List.all_eq_true]
  intro xs hx
  obtain ⟨j, hj⟩ := List.getElem?_of_mem hx
  simp [h j xs hj]
/-- The loop over the lists, at list f. -/
def OnceRel (w : World) (A : Option Addr) (c : Nat) (ls : List Li) (f : Nat) (wr : World) : Prop :=
  f ≤ ls.length ∧ (∃ P, flatB [] (ll ls).flatten = flatB P ((ll ls).drop f).flatten ∧ Seen wr (w.heap.size + 1) P) ∧ TRow wr w.heap.size A ls ∧ w.grownBy wr none
/-- The loop over the numbers of list f, at number k. -/
def OnceRel2 (w : World) (A : Option Addr) (c : Nat) (ls : List Li) (f : Nat) (xs : List Int) (k : Nat) (wr : World) : Prop :=
  k ≤ xs.length ∧ (∃ P, flatB [] (ll ls).flatten = flatB P (xs.drop k ++ ((ll ls).drop (f + 1)).flatten) ∧ Seen wr (w.heap.size + 1) P) ∧ TRow wr w.heap.size A ls ∧ w.grownBy wr none
theorem tabB_parts (xss : List (List Int)) : tabB xss = (sixB xss && flatB [] xss.flatten) := by simp [tabB, sixB]
end Go.Proofs.Ytofolifmgpgkoaa
namespace Go.Proofs.Ytofolifmgpgkoaa
open Go.ChangeShapes Go.WideShapes Go.ChangeAt Go.RowKit
set_option linter.unusedVariables false

theorem make_ints6 (w : World) : (Instr.makeSlice 30 (.int .i64 6) (.int .i64 6)).run Try.prog w = .ok (.slice (some ⟨w.heap.size, 0, none⟩) 6 6) (w.alloc (.cells (madeCells #[.int .i64 0] 6) 3)) := make_ints w 6 (by omega)
theorem noTab_at {k : Nat} (h : k < 8) : noTab[k]? = some m6 := by rw [noTab, List.getElem?_replicate, if_pos h]
/-- The loop that puts lists, at list k: the row lies in block G. -/
def FillR (w : World) (xss : List (List Int)) (G k : Nat) (wr : World) : Prop := k ≤ 8 ∧ (∃ cs, Filled xss 8 k cs ∧ TOwn wr w.heap.size (.slice (some ⟨G, 0, none⟩) 8 8) cs) ∧ w.grownBy wr none
/-- No cell before (f, k) but the one of the arguments has the number. -/
def NotYet (xss : List (List Int)) (f0 k0 : Nat) (x : Int) (f k : Nat) : Prop := ∀ f' k', cellO xss f' k' = some x → (f' < f ∨ (f' = f ∧ k' < k)) → f' = f0 ∧ k' = k0
end Go.Proofs.Ytofolifmgpgkoaa
namespace Go.Proofs.Ytofolifmgpgkoaa
open Go.ChangeShapes Go.WideShapes Go.ChangeAt Go.RowKit
set_option linter.unusedVariables false

end Go.Proofs.Ytofolifmgpgkoaa
namespace Go.Proofs.Ytofolifmgpgkoaa

theorem full_in {bs : List Bk} (hd : devB bs = true) {k : Nat} {p : Pg} (hp : pageAt bs k = some p) (hf : p.f = true) : ∃ f j : Nat, p.a = (f : Int) ∧ p.b = (j : Int) ∧ f < 8 ∧ j < 6 := by
  obtain ⟨_, hall⟩ := dev_parts hd
  unfold pageAt at hp
  rw [Option.bind_eq_some_iff] at hp
  obtain ⟨b, hb, hq⟩ := hp
  obtain ⟨_, h4, ho⟩ := block_parts (hall b (List.mem_of_getElem? hb))
  have hlt := (List.getElem?_eq_some_iff.1 hq).1
  unfold ordB at ho
  rw [List.all_eq_true] at ho
  have h1 := ho (k % 4) (by simpa using hlt)
  unfold okAt at h1
  rw [Bool.and_eq_true] at h1
  have h2 := h1.1
  have e : b.ps.getD (k % 4) pz = p := by simp [List.getD_eq_getElem?_getD, hq]
  rw [e] at h2
  unfold pgB at h2
  rw [hf] at h2
  simp only [pageB, if_true, Bool.and_eq_true] at h2
  obtain ⟨⟨⟨ha, hb'⟩, _⟩, _⟩ := h2
  have ha' := inB_iff.1 ha
  have hb2 := inB_iff.1 hb'
  exact ⟨p.a.toNat, p.b.toNat, by omega, by omega, by omega, by omega⟩
/-- The table names no page for the file and the place of page p, or one with a lesser stamp. -/
def newerB (bs : List Bk) (xss : List (List Int)) (p : Pg) : Bool :=
  match cellO xss p.a.toNat p.b.toNat with
  | some x => if x = -1 then true else (match pageAt bs x.toNat with
    | some q => decide (q.d < p.d)
    | none => true)
  | none => false
/-- Page k taken into account. -/
def ofStep (bs : List Bk) (xss : List (List Int)) (k : Nat) : List (List Int) :=
  match pageAt bs k with
  | some p => if p.f && newerB bs xss p then tset xss p.a.toNat p.b.toNat k else xss
  | none => xss
/-- The table of the first k pages. -/
def tabTo (bs : List Bk) : Nat → List (List Int)
  | 0 => noTab
  | k + 1 => ofStep bs (tabTo bs k) k
/-- What TableOf answers. -/
def tabOf (bs : List Bk) : List (List Int) := if devB bs then tabTo bs (4 * bs.length) else []
/-- What holds of the table of the first k pages. -/
structure OfInv (bs : List Bk) (k : Nat) (xss : List (List Int)) : Prop where
  tv : TV xss
  ent : ∀ (f j : Nat) (x : Int), cellO xss f j = some x → x = -1 ∨ ∃ (a : Nat) (q : Pg), x = (a : Int) ∧ a < k ∧ pageAt bs a = some q ∧ q.f = true
theorem noTab_cell {f j : Nat} {x : Int} (h : cellO noTab f j = some x) : x = -1 := by
  obtain ⟨xs, h1, h2⟩ := cellO_some h
  have e := List.eq_of_mem_replicate (List.mem_of_getElem? h1)
  subst e
  exact List.eq_of_mem_replicate (List.mem_of_getElem? h2)
theorem noTab_tv : TV noTab := by
  refine ⟨by simp [noTab], fun xs hx => ?_, fun f j x h => ?_, fun f j f' j' x h _ h0 => ?_⟩
  · rw [List.eq_of_mem_replicate hx]; simp [m6]
  · have := noTab_cell h; omega
  · have := noTab_cell h; omega
theorem of_inv {bs : List Bk} (hd : devB bs = true) : ∀ k : Nat, k ≤ 48 → OfInv bs k (tabTo bs k)
  | 0, _ => ⟨noTab_tv, fun f j x h => .inl (noTab_cell h)⟩
  | k + 1, hk => by
    have ih := of_inv hd k (by omega)
    have up : OfInv bs (k + 1) (tabTo bs k) := ⟨ih.tv, fun f j x h => by
      rcases ih.ent f j x h with h1 | ⟨a, q, h1, h2, h3⟩
      · exact .inl h1
      · exact .inr ⟨a, q, h1, by omega, h3⟩⟩
    show OfInv bs (k + 1) (ofStep bs (tabTo bs k) k)
    unfold ofStep
    split
    · rename_i p hp
      split
      · rename_i h
        rw [Bool.and_eq_true] at h
        obtain ⟨f, j, ea, eb, hf8, hj6⟩ := full_in hd hp h.1
        rw [ea, eb]
        simp only [Int.toNat_natCast]
        refine ⟨tset_valid ih.tv hf8 hj6 (by omega) ?_, fun f' j' x hx => ?_⟩
        · rintro ⟨_, f', j', hc, _⟩
          rcases ih.ent f' j' _ hc with h1 | ⟨a, q, h1, h2, _⟩ <;> omega
        · rw [tset_cell ih.tv hf8 hj6] at hx
          split at hx
          · injection hx with hx
            exact .inr ⟨k, p, hx.symm, by omega, hp, h.1⟩
          · exact up.ent f' j' x hx
      · exact up
    · exact up
/-- The step, case by case. -/
theorem of_old {bs : List Bk} {xss : List (List Int)} {k : Nat} {p : Pg} (hp : pageAt bs k = some p) (hf : p.f = false) : ofStep bs xss k = xss := by simp [ofStep, hp, hf]
theorem of_new {bs : List Bk} {xss : List (List Int)} {k f j : Nat} {p : Pg} (hp : pageAt bs k = some p) (hf : p.f = true) (ha : p.a = (f : Int)) (hb : p.b = (j : Int)) (hn : newerB bs xss p = true) : ofStep bs xss k = tset xss f j k := by
  simp [ofStep, hp, hf, hn, ha, hb]
theorem of_less {bs : List Bk} {xss : List (List Int)} {k : Nat} {p : Pg} (hp : pageAt bs k = some p) (hn : newerB bs xss p = false) : ofStep bs xss k = xss := by simp [ofStep, hp, hn]
theorem newer_none {bs : List Bk} {xss : List (List Int)} {p : Pg} {f j : Nat} (ha : p.a = (f : Int)) (hb : p.b = (j : Int)) (hc : cellO xss f j = some (-1)) : newerB bs xss p = true := by simp [newerB, ha, hb, hc]
theorem newer_some {bs : List Bk} {xss : List (List Int)} {p q : Pg} {f j a : Nat} (ha : p.a = (f : Int)) (hb : p.b = (j : Int)) (hc : cellO xss f j = some (a : Int)) (hq : pageAt bs a = some q) : newerB bs xss p = decide (q.d < p.d) := by
  have : ¬ ((a : Int) = -1) := by omega
  simp [newerB, ha, hb, hc, hq, this]
theorem of_yes {bs : List Bk} (h : devB bs = true) : tabOf bs = tabTo bs (4 * bs.length) := by simp [tabOf, h]
theorem of_no {bs : List Bk} (h : devB bs = false) : tabOf bs = [] := by simp [tabOf, h]
theorem of_len {bs : List Bk} {k : Nat} (hd : devB bs = true) (hk : k ≤ 48) : (tabTo bs k).length = 8 := (of_inv hd k hk).tv.len
/-- A device that is equal has the same table. -/
theorem of_is {bs cs : List Bk} (h : cs.map Bk.is = bs.map Bk.is) : tabOf cs = tabOf bs := by
  have hp : ∀ a, pageAt cs a = pageAt bs a := fun a => page_is h a
  have hs : ∀ k, tabTo cs k = tabTo bs k := by
    intro k
    induction k with
    | zero => rfl
    | succ k ih =>
      simp only [tabTo, ofStep, newerB, ih, hp]
      rfl
  unfold tabOf
  rw [devB_is h, hs, is_length h]
end Go.Proofs.Ytofolifmgpgkoaa
namespace Go.Proofs.Ytofolifmgpgkoaa
open Go.ChangeShapes Go.WideShapes Go.ChangeAt Go.RowKit
set_option linter.unusedVariables false
set_option linter.unusedSimpArgs false

end Go.Proofs.Ytofolifmgpgkoaa
namespace Go.Proofs.Ytofolifmgpgkoaa
open Go.ChangeShapes Go.WideShapes Go.ChangeAt Go.RowKit
set_option linter.unusedVariables false
set_option linter.unusedSimpArgs false

/-- What TableOf answers, by letters. -/
def TOfIs (bs : List Bk) (l : List (List Int)) (m : Nat) : Prop := tabOf bs = l ∧ l.length = m
theorem tof_is {n : Nat} {bs : List Bk} (hl : bs.length = n) : ∃ l m, TOfIs bs l m ∧ m ≤ 8 ∧ ∀ xs, xs ∈ l → xs.length = 6 := by
  refine ⟨tabOf bs, (tabOf bs).length, ⟨rfl, rfl⟩, ?_⟩
  cases hd : devB bs
  · rw [of_no hd]; simp
  · obtain ⟨⟨h1, h12⟩, _⟩ := dev_parts hd
    rw [of_yes hd]
    exact ⟨by rw [of_len hd (by omega)]; exact Nat.le_refl _, (of_inv hd _ (by omega)).tv.six⟩
theorem TOfIs.of {bs cs : List Bk} {l : List (List Int)} {m : Nat} (h : TOfIs bs l m) (e : cs.map Bk.is = bs.map Bk.is) : TOfIs cs l m := ⟨(of_is e).trans h.1, h.2⟩
end Go.Proofs.Ytofolifmgpgkoaa
