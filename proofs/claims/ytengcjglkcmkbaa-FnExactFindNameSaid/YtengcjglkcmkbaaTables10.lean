/- Plain facts on the table of a device.
   What the program's TableOf answers.
   What the model's TableOf answers. -/
import Derived.Test.YtengcjglkcmkbaaTables4
import Derived.Test.YtengcjglkcmkbaaLawDev
import Derived.Test.YtengcjglkcmkbaaTables2
import Derived.Test.YtengcjglkcmkbaaTables7
import Derived.Test.YtengcjglkcmkbaaHand
namespace Go.Proofs.Ytengcjglkcmkbaa

theorem full_in {bs : List Bk} (hd : devB bs = true) {k : Nat} {p : Pg} (hp : pageAt bs k = some p) (hf : p.f = true) : ∃ f j : Nat, p.a = (f : Int) ∧ p.b = (j : Int) ∧ f < 8 ∧ j < 6 := by
  obtain ⟨_, hall⟩ := dev_parts hd
  unfold pageAt at hp
  rw [Option.bind_eq_some_iff] at hp
  obtain ⟨b, hb, hq⟩ := hp
  obtain ⟨_, h4, ho⟩ := block_parts (hall b (List.mem_of_getElem? hb))
  have hlt := (List.getElem?_eq_some_iff.1 hq).1
  unfold ordB at ho
  rw [List.all_eq_true] at ho
  have h1 := ho (k % 4) (by simpa using hlt)
  unfold okAt at h1
  rw [Bool.and_eq_true] at h1
  have h2 := h1.1
  have e : b.ps.getD (k % 4) pz = p := by simp [List.getD_eq_getElem?_getD, hq]
  rw [e] at h2
  unfold pgB at h2
  rw [hf] at h2
  simp only [pageB, if_true, Bool.and_eq_true] at h2
  obtain ⟨⟨⟨ha, hb'⟩, _⟩, _⟩ := h2
  have ha' := inB_iff.1 ha
  have hb2 := inB_iff.1 hb'
  exact ⟨p.a.toNat, p.b.toNat, by omega, by omega, by omega, by omega⟩
/-- The table names no page for the file and the place of page p, or one with a lesser stamp. -/
def newerB (bs : List Bk) (xss : List (List Int)) (p : Pg) : Bool :=
  match cellO xss p.a.toNat p.b.toNat with
  | some x => if x = -1 then true else (match pageAt bs x.toNat with
    | some q => decide (q.d < p.d)
    | none => true)
  | none => false
/-- Page k taken into account. -/
def ofStep (bs : List Bk) (xss : List (List Int)) (k : Nat) : List (List Int) :=
  match pageAt bs k with
  | some p => if p.f && newerB bs xss p then tset xss p.a.toNat p.b.toNat k else xss
  | none => xss
/-- The table of the first k pages. -/
def tabTo (bs : List Bk) : Nat → List (List Int)
  | 0 => noTab
  | k + 1 => ofStep bs (tabTo bs k) k
/-- What TableOf answers. -/
def tabOf (bs : List Bk) : List (List Int) := if devB bs then tabTo bs (4 * bs.length) else []
/-- What holds of the table of the first k pages. -/
structure OfInv (bs : List Bk) (k : Nat) (xss : List (List Int)) : Prop where
  tv : TV xss
  ent : ∀ (f j : Nat) (x : Int), cellO xss f j = some x → x = -1 ∨ ∃ (a : Nat) (q : Pg), x = (a : Int) ∧ a < k ∧ pageAt bs a = some q ∧ q.f = true
theorem noTab_cell {f j : Nat} {x : Int} (h : cellO noTab f j = some x) : x = -1 := by
  obtain ⟨xs, h1, h2⟩ := cellO_some h
  have e := List.eq_of_mem_replicate (List.mem_of_getElem? h1)
  subst e
  exact List.eq_of_mem_replicate (List.mem_of_getElem? h2)
theorem noTab_tv : TV noTab := by
  refine ⟨by simp [noTab], fun xs hx => ?_, fun f j x h => ?_, fun f j f' j' x h _ h0 => ?_⟩
  · rw [List.eq_of_mem_replicate hx]; simp [m6]
  · have := noTab_cell h; omega
  · have := noTab_cell h; omega
theorem of_inv {bs : List Bk} (hd : devB bs = true) : ∀ k : Nat, k ≤ 48 → OfInv bs k (tabTo bs k)
  | 0, _ => ⟨noTab_tv, fun f j x h => .inl (noTab_cell h)⟩
  | k + 1, hk => by
    have ih := of_inv hd k (by omega)
    have up : OfInv bs (k + 1) (tabTo bs k) := ⟨ih.tv, fun f j x h => by
      rcases ih.ent f j x h with h1 | ⟨a, q, h1, h2, h3⟩
      · exact .inl h1
      · exact .inr ⟨a, q, h1, by omega, h3⟩⟩
    show OfInv bs (k + 1) (ofStep bs (tabTo bs k) k)
    unfold ofStep
    split
    · rename_i p hp
      split
      · rename_i h
        rw [Bool.and_eq_true] at h
        obtain ⟨f, j, ea, eb, hf8, hj6⟩ := full_in hd hp h.1
        rw [ea, eb]
        simp only [Int.toNat_natCast]
        refine ⟨tset_valid ih.tv hf8 hj6 (by omega) ?_, fun f' j' x hx => ?_⟩
        · rintro ⟨_, f', j', hc, _⟩
          rcases ih.ent f' j' _ hc with h1 | ⟨a, q, h1, h2, _⟩ <;> omega
        · rw [tset_cell ih.tv hf8 hj6] at hx
          split at hx
          · injection hx with hx
            exact .inr ⟨k, p, hx.symm, by omega, hp, h.1⟩
          · exact up.ent f' j' x hx
      · exact up
    · exact up
/-- The step, case by case. -/
theorem of_old {bs : List Bk} {xss : List (List Int)} {k : Nat} {p : Pg} (hp : pageAt bs k = some p) (hf : p.f = false) : ofStep bs xss k = xss := by simp [ofStep, hp, hf]
theorem of_new {bs : List Bk} {xss : List (List Int)} {k f j : Nat} {p : Pg} (hp : pageAt bs k = some p) (hf : p.f = true) (ha : p.a = (f : Int)) (hb : p.b = (j : Int)) (hn : newerB bs xss p = true) : ofStep bs xss k = tset xss f j k := by
  simp [ofStep, hp, hf, hn, ha, hb]
theorem of_less {bs : List Bk} {xss : List (List Int)} {k : Nat} {p : Pg} (hp : pageAt bs k = some p) (hn : newerB bs xss p = false) : ofStep bs xss k = xss := by simp [ofStep, hp, hn]
theorem newer_none {bs : List Bk} {xss : List (List Int)} {p : Pg} {f j : Nat} (ha : p.a = (f : Int)) (hb : p.b = (j : Int)) (hc : cellO xss f j = some (-1)) : newerB bs xss p = true := by simp [newerB, ha, hb, hc]
theorem newer_some {bs : List Bk} {xss : List (List Int)} {p q : Pg} {f j a : Nat} (ha : p.a = (f : Int)) (hb : p.b = (j : Int)) (hc : cellO xss f j = some (a : Int)) (hq : pageAt bs a = some q) : newerB bs xss p = decide (q.d < p.d) := by
  have : ¬ ((a : Int) = -1) := by omega
  simp [newerB, ha, hb, hc, hq, this]
theorem of_yes {bs : List Bk} (h : devB bs = true) : tabOf bs = tabTo bs (4 * bs.length) := by simp [tabOf, h]
theorem of_no {bs : List Bk} (h : devB bs = false) : tabOf bs = [] := by simp [tabOf, h]
theorem of_len {bs : List Bk} {k : Nat} (hd : devB bs = true) (hk : k ≤ 48) : (tabTo bs k).length = 8 := (of_inv hd k hk).tv.len
/-- A device that is equal has the same table. -/
theorem of_is {bs cs : List Bk} (h : cs.map Bk.is = bs.map Bk.is) : tabOf cs = tabOf bs := by
  have hp : ∀ a, pageAt cs a = pageAt bs a := fun a => page_is h a
  have hs : ∀ k, tabTo cs k = tabTo bs k := by
    intro k
    induction k with
    | zero => rfl
    | succ k ih =>
      simp only [tabTo, ofStep, newerB, ih, hp]
      rfl
  unfold tabOf
  rw [devB_is h, hs, is_length h]
end Go.Proofs.Ytengcjglkcmkbaa
namespace Go.Proofs.Ytengcjglkcmkbaa
open Go.ChangeShapes Go.WideShapes Go.ChangeAt Go.RowKit
set_option linter.unusedVariables false
set_option linter.unusedSimpArgs false

end Go.Proofs.Ytengcjglkcmkbaa
namespace Go.Proofs.Ytengcjglkcmkbaa
open Go.ChangeShapes Go.WideShapes Go.ChangeAt Go.RowKit
set_option linter.unusedVariables false
set_option linter.unusedSimpArgs false

/-- What TableOf answers, by letters. -/
def TOfIs (bs : List Bk) (l : List (List Int)) (m : Nat) : Prop := tabOf bs = l ∧ l.length = m
theorem tof_is {n : Nat} {bs : List Bk} (hl : bs.length = n) : ∃ l m, TOfIs bs l m ∧ m ≤ 8 ∧ ∀ xs, xs ∈ l → xs.length = 6 := by
  refine ⟨tabOf bs, (tabOf bs).length, ⟨rfl, rfl⟩, ?_⟩
  cases hd : devB bs
  · rw [of_no hd]; simp
  · obtain ⟨⟨h1, h12⟩, _⟩ := dev_parts hd
    rw [of_yes hd]
    exact ⟨by rw [of_len hd (by omega)]; exact Nat.le_refl _, (of_inv hd _ (by omega)).tv.six⟩
theorem TOfIs.of {bs cs : List Bk} {l : List (List Int)} {m : Nat} (h : TOfIs bs l m) (e : cs.map Bk.is = bs.map Bk.is) : TOfIs cs l m := ⟨(of_is e).trans h.1, h.2⟩
end Go.Proofs.Ytengcjglkcmkbaa
