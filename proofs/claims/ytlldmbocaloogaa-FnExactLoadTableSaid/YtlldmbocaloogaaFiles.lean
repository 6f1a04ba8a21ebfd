/- Plain facts on files: the size, the holes, a file cut short.
   What the model's FileSize and FileHoles answer.
   What the model's CutFile answers.
   What the model's FileValues answers. -/
import Derived.Test.YtlldmbocaloogaaTables2
import Derived.Test.YtlldmbocaloogaaDevices6
import Derived.BigQuiet
namespace Go.Proofs.Ytlldmbocaloogaa

/-- One more than the greatest of the first k places with a page. -/
def szAt (xs : List Int) : Nat → Nat
  | 0 => 0
  | k + 1 => if 0 ≤ xs.getD k (-1) then k + 1 else szAt xs k
theorem szAt_le (xs : List Int) (k : Nat) : szAt xs k ≤ k := by
  induction k with
  | zero => exact Nat.le_refl _
  | succ k ih => simp only [szAt]; split <;> omega
theorem szAt_yes {xs : List Int} {k : Nat} {x : Int} (h : xs[k]? = some x) (hx : 0 ≤ x) : szAt xs (k + 1) = k + 1 := by
  simp [szAt, List.getD_eq_getElem?_getD, h, hx]
theorem szAt_no {xs : List Int} {k : Nat} {x : Int} (h : xs[k]? = some x) (hx : ¬ 0 ≤ x) : szAt xs (k + 1) = szAt xs k := by
  simp [szAt, List.getD_eq_getElem?_getD, h, hx]
/-- At no place from the size on there is a page. -/
theorem szAt_from {xs : List Int} {k j : Nat} {x : Int} (h1 : szAt xs k ≤ j) (h2 : j < k) (hx : xs[j]? = some x) : ¬ 0 ≤ x := by
  induction k with
  | zero => omega
  | succ k ih =>
    simp only [szAt] at h1
    split at h1
    · omega
    · rename_i h
      rcases Nat.lt_or_ge j k with h3 | h3
      · exact ih h1 h3
      · obtain rfl : j = k := by omega
        simpa [List.getD_eq_getElem?_getD, hx] using h
/-- At the place before the size there is one. -/
theorem szAt_last {xs : List Int} {k : Nat} (h : 0 < szAt xs k) : 0 ≤ xs.getD (szAt xs k - 1) (-1) := by
  induction k with
  | zero => simp [szAt] at h
  | succ k ih =>
    simp only [szAt] at h ⊢
    split
    · rename_i h1
      simpa using h1
    · rename_i h1
      rw [if_neg h1] at h
      exact ih h
/-- The arguments are a file of a valid table. -/
def fileB (xss : List (List Int)) (f : Int) : Bool := tabB xss && inB f 0 7
/-- What FileSize answers. -/
def fsizeV (xss : List (List Int)) (f : Int) : Int := if fileB xss f then (szAt (xss.getD f.toNat []) 6 : Nat) else -1
theorem fsize_no {xss : List (List Int)} {f : Int} (h : fileB xss f = false) : fsizeV xss f = -1 := by simp [fsizeV, h]
theorem fsize_at {xss : List (List Int)} {f : Nat} {xs : List Int} (h : fileB xss f = true) (hx : xss[f]? = some xs) : fsizeV xss f = (szAt xs 6 : Nat) := by
  simp [fsizeV, h, List.getD_eq_getElem?_getD, hx]
theorem file1 {xss : List (List Int)} {f : Int} (h : tabB xss = false) : fileB xss f = false := by simp [fileB, h]
theorem file2 {xss : List (List Int)} {f : Int} (h : inB f 0 7 = false) : fileB xss f = false := by simp [fileB, h]
theorem file_yes {xss : List (List Int)} {f : Int} (h : tabB xss = true) (hf : inB f 0 7 = true) : fileB xss f = true := by simp [fileB, h, hf]
/-- The places before place k without a page. -/
def holesTo (xs : List Int) : Nat → List Int
  | 0 => []
  | k + 1 => if 0 ≤ xs.getD k (-1) then holesTo xs k else holesTo xs k ++ [(k : Int)]
theorem holes_yes {xs : List Int} {k : Nat} {x : Int} (h : xs[k]? = some x) (hx : 0 ≤ x) : holesTo xs (k + 1) = holesTo xs k := by
  simp [holesTo, List.getD_eq_getElem?_getD, h, hx]
theorem holes_no {xs : List Int} {k : Nat} {x : Int} (h : xs[k]? = some x) (hx : ¬ 0 ≤ x) : holesTo xs (k + 1) = holesTo xs k ++ [(k : Int)] := by
  simp [holesTo, List.getD_eq_getElem?_getD, h, hx]
theorem holesTo_le (xs : List Int) (k : Nat) : (holesTo xs k).length ≤ k := by
  induction k with
  | zero => exact Nat.le_refl _
  | succ k ih => simp only [holesTo]; split <;> (try simp only [List.length_append, List.length_cons, List.length_nil]) <;> omega
/-- What FileHoles answers. -/
def holesV (xss : List (List Int)) (f : Int) : List Int := if fileB xss f then holesTo (xss.getD f.toNat []) (szAt (xss.getD f.toNat []) 6) else []
theorem holesV_no {xss : List (List Int)} {f : Int} (h : fileB xss f = false) : holesV xss f = [] := by simp [holesV, h]
theorem holesV_at {xss : List (List Int)} {f : Nat} {xs : List Int} (h : fileB xss f = true) (hx : xss[f]? = some xs) : holesV xss f = holesTo xs (szAt xs 6) := by
  simp [holesV, h, List.getD_eq_getElem?_getD, hx]
/-- A list without pages from place p on. -/
def cutL (xs : List Int) (p : Nat) : List Int := xs.take p ++ List.replicate (6 - p) (-1)
/-- The same on the way: places p .. k - 1 are cut. -/
def cutTo (xs : List Int) (p k : Nat) : List Int := xs.take p ++ List.replicate (k - p) (-1) ++ xs.drop k
theorem cutTo_start {xs : List Int} {p : Nat} : cutTo xs p p = xs := by simp [cutTo]
theorem cutTo_end {xs : List Int} {p : Nat} (h : xs.length = 6) : cutTo xs p 6 = cutL xs p := by simp [cutTo, cutL, ← h]
theorem cutTo_len {xs : List Int} {p k : Nat} (h : xs.length = 6) (hp : p ≤ k) (hk : k ≤ 6) : (cutTo xs p k).length = 6 := by simp [cutTo, h]; omega
theorem cutTo_step {xs : List Int} {p k : Nat} (h : xs.length = 6) (hp : p ≤ k) (hk : k < 6) : (cutTo xs p k).set k (-1) = cutTo xs p (k + 1) := by
  unfold cutTo
  have e1 : (xs.take p ++ List.replicate (k - p) (-1)).length = k := by simp [h]; omega
  rw [List.set_append_right _ _ (by omega), e1, Nat.sub_self, List.drop_eq_getElem_cons (by omega), List.set_cons_zero, show k + 1 - p = (k - p) + 1 by omega, List.replicate_succ', ← List.append_assoc, List.append_assoc, List.append_assoc, List.append_assoc]
  rfl
/-- The arguments are a file and a place or the end of a valid table. -/
def cutB (xss : List (List Int)) (f p : Int) : Bool := tabB xss && inB f 0 7 && inB p 0 6
/-- What CutFile answers. -/
def cutV (xss : List (List Int)) (f p : Int) : List (List Int) := if cutB xss f p then xss.set f.toNat (cutL (xss.getD f.toNat []) p.toNat) else []
theorem cut_no {xss : List (List Int)} {f p : Int} (h : cutB xss f p = false) : cutV xss f p = [] := by simp [cutV, h]
theorem cut_at {xss : List (List Int)} {f p : Nat} {xs : List Int} (h : cutB xss f p = true) (hx : xss[f]? = some xs) : cutV xss f p = xss.set f (cutL xs p) := by
  simp [cutV, h, List.getD_eq_getElem?_getD, hx]
theorem cut1 {xss : List (List Int)} {f p : Int} (h : tabB xss = false) : cutB xss f p = false := by simp [cutB, h]
theorem cut2 {xss : List (List Int)} {f p : Int} (h : inB f 0 7 = false) : cutB xss f p = false := by simp [cutB, h]
theorem cut3 {xss : List (List Int)} {f p : Int} (h : inB p 0 6 = false) : cutB xss f p = false := by simp [cutB, h]
theorem cut_yes {xss : List (List Int)} {f p : Int} (h : tabB xss = true) (hf : inB f 0 7 = true) (hp : inB p 0 6 = true) : cutB xss f p = true := by simp [cutB, h, hf, hp]
end Go.Proofs.Ytlldmbocaloogaa
namespace Go.Proofs.Ytlldmbocaloogaa
open Go.ChangeShapes Go.WideShapes Go.ChangeAt Go.RowKit
set_option linter.unusedVariables false

theorem file_is {xss : List (List Int)} {f : Int} (h : fileB xss f = true) : tabB xss = true ∧ inB f 0 7 = true := by simpa [fileB] using h
/-- Numbers in memory of their own are returned. -/
def IMade (xs : List Int) (w : World) (e : Ending) (w' : World) : Prop := ∃ (A : Option Addr) (n c : Nat), e = .returned (.slice A n c) ∧ xs.length = n ∧ IOwn w' w.heap.size (.slice A n c) xs ∧ w.grownBy w' none
theorem IOwn.slice {w : World} {base : Nat} {v : Value} {xs : List Int} (h : IOwn w base v xs) : ∃ A c, v = .slice A xs.length c := by
  rcases VOwn.form h with ⟨rfl, e⟩ | ⟨g, cap, rfl, _⟩
  · have : xs.length = 0 := by rw [← iv_length, e]; rfl
    exact ⟨none, 0, by rw [this]⟩
  · exact ⟨_, cap, by rw [iv_length]⟩
section
variable {w wr w' : World} {A : Option Addr} {n c : Nat} {ls : List Li} {u : Value} {xs : List Int}
/-- Numbers of the call's own were written to. -/
theorem TIn.grown (H : TIn w A n c ls wr) (hu : IOwn wr w.heap.size u xs) (hg : wr.grownBy w' u.ownBlock) : TIn w A n c ls w' := by
  refine ⟨H.1.grown hg ?_, H.2.1.grown hg (fun g e => (VOwn.lt hu g e).1), grown_joinR H.2.2 hg (fun g e => (VOwn.lt hu g e).1)⟩
  rcases VOwn.form hu with ⟨rfl, _⟩ | ⟨g, cap, rfl, _⟩
  · simp [Value.ownBlock]
  · intro e
    simp only [Value.ownBlock, Option.some.injEq] at e
    exact VOwn.ne_blk hu H.1 (by decide) e.symm
end
theorem iown_lit0 (w : World) (base : Nat) (hb : base ≤ w.heap.size) : IOwn (w.alloc (.cells #[] 3)) base (.slice (some ⟨w.heap.size, 0, none⟩) 0 0) [] := vown_lit w base 3 [] hb (by simp)
theorem iown_lit1 (w : World) (cs : Array Value) (t : TypeId) : IOwn ((w.alloc (.cells cs t)).alloc (.cells #[] 3)) w.heap.size (.slice (some ⟨w.heap.size + 1, 0, none⟩) 0 0) [] := by
  have h := iown_lit0 (w.alloc (.cells cs t)) w.heap.size (by simp only [size_alloc1]; omega)
  simpa only [size_alloc1] using h
end Go.Proofs.Ytlldmbocaloogaa
namespace Go.Proofs.Ytlldmbocaloogaa
open Go.ChangeShapes Go.WideShapes Go.ChangeAt Go.RowKit
set_option linter.unusedVariables false

/-- A table in memory of its own is returned, of some length. -/
def TabMade3 (xss : List (List Int)) (w : World) (e : Ending) (w' : World) : Prop := ∃ n, TabMade xss n w e w'
theorem tab3_zero {w w1 : World} (hg : w.grownBy w1 none) : TOwn w1 w.heap.size (.slice none 0 0) [] ∧ w.grownBy w1 none := ⟨town_nil _ _, hg⟩
theorem list_set_same {xss : List (List Int)} {f : Nat} {xs : List Int} (h : xss[f]? = some xs) : xss.set f xs = xss := by
  obtain ⟨hl, e⟩ := List.getElem?_eq_some_iff.1 h
  rw [← e]
  exact List.set_getElem_self hl
end Go.Proofs.Ytlldmbocaloogaa
namespace Go.Proofs.Ytlldmbocaloogaa
open Go.ChangeShapes Go.WideShapes Go.ChangeAt Go.RowKit
set_option linter.unusedVariables false

/-- The page that ReadPage answers. -/
def readV (bs : List Bk) (a : Int) : Pg := if devB bs then (if 0 ≤ a then (pageAt bs a.toNat).getD pz else pz) else pz
theorem readV_no {bs : List Bk} (h : devB bs = false) (a : Int) : readV bs a = pz := by simp [readV, h]
theorem readV_neg {bs : List Bk} {a : Int} (h : a < 0) : readV bs a = pz := by
  unfold readV
  split
  · rw [if_neg (by omega)]
  · rfl
/-- A page is written, of this file and this place. -/
def isAt (p : Pg) (f : Int) (k : Nat) : Bool := p.f && (p.a == f) && (p.b == (k : Int))
/-- The values of the places before place k; none where a page is another's. -/
def valsTo (bs : List Bk) (xs : List Int) (f : Int) : Nat → Option (List Int)
  | 0 => some []
  | k + 1 => (valsTo bs xs f k).bind fun l => if xs.getD k (-1) < 0 then some (l ++ [0]) else if isAt (readV bs (xs.getD k (-1))) f k then some (l ++ [(readV bs (xs.getD k (-1))).c]) else none
section
variable {bs : List Bk} {xs l : List Int} {f x : Int} {k : Nat}
theorem vals_hole (h : valsTo bs xs f k = some l) (hx : xs[k]? = some x) (h0 : x < 0) : valsTo bs xs f (k + 1) = some (l ++ [0]) := by
  simp [valsTo, h, List.getD_eq_getElem?_getD, hx, h0]
theorem vals_page (h : valsTo bs xs f k = some l) (hx : xs[k]? = some x) (h0 : ¬ x < 0) (hp : isAt (readV bs x) f k = true) : valsTo bs xs f (k + 1) = some (l ++ [(readV bs x).c]) := by
  simp [valsTo, h, List.getD_eq_getElem?_getD, hx, h0, hp]
theorem vals_bad (h : valsTo bs xs f k = some l) (hx : xs[k]? = some x) (h0 : ¬ x < 0) (hp : isAt (readV bs x) f k = false) : valsTo bs xs f (k + 1) = none := by
  simp [valsTo, h, List.getD_eq_getElem?_getD, hx, h0, hp]
theorem vals_none {j : Nat} (h : valsTo bs xs f k = none) (hj : k ≤ j) : valsTo bs xs f j = none := by
  obtain ⟨d, rfl⟩ := Nat.le.dest hj
  clear hj
  induction d with
  | zero => exact h
  | succ d ih => rw [← Nat.add_assoc]; simp [valsTo, ih]
theorem vals_len (h : valsTo bs xs f k = some l) : l.length = k := by
  induction k generalizing l with
  | zero => simp [valsTo] at h; subst h; rfl
  | succ k ih =>
    simp only [valsTo, Option.bind_eq_some_iff] at h
    obtain ⟨m, hm, h⟩ := h
    have := ih hm
    split at h
    · injection h with h; subst h; simp [this]
    · split at h
      · injection h with h; subst h; simp [this]
      · cases h
end
/-- What FileValues answers. -/
def fvalV (bs : List Bk) (xss : List (List Int)) (f : Int) : List Int × Bool :=
  if devB bs && fileB xss f then (match valsTo bs (xss.getD f.toNat []) f (szAt (xss.getD f.toNat []) 6) with | some l => (l, true) | none => ([], false)) else ([], false)
theorem fval_no1 {bs : List Bk} {xss : List (List Int)} {f : Int} (h : devB bs = false) : fvalV bs xss f = ([], false) := by simp [fvalV, h]
theorem fval_no2 {bs : List Bk} {xss : List (List Int)} {f : Int} (h : fileB xss f = false) : fvalV bs xss f = ([], false) := by simp [fvalV, h]
theorem fval_some {bs : List Bk} {xss : List (List Int)} {f : Nat} {xs l : List Int} (hd : devB bs = true) (h : fileB xss f = true) (hx : xss[f]? = some xs) (hv : valsTo bs xs f (szAt xs 6) = some l) : fvalV bs xss f = (l, true) := by
  simp [fvalV, hd, h, List.getD_eq_getElem?_getD, hx, hv]
theorem fval_none {bs : List Bk} {xss : List (List Int)} {f : Nat} {xs : List Int} (hd : devB bs = true) (h : fileB xss f = true) (hx : xss[f]? = some xs) (hv : valsTo bs xs f (szAt xs 6) = none) : fvalV bs xss f = ([], false) := by
  simp [fvalV, hd, h, List.getD_eq_getElem?_getD, hx, hv]
/-- Numbers in memory of their own are returned, and whether it is possible. -/
def IMade2 (xs : List Int) (ok : Bool) (w : World) (e : Ending) (w' : World) : Prop := ∃ (A : Option Addr) (n c : Nat), e = .returned (.tuple #[.slice A n c, .bool ok]) ∧ xs.length = n ∧ IOwn w' w.heap.size (.slice A n c) xs ∧ w.grownBy w' none
/-- The arguments of FileValues: a boxed table, the table that came in, the device. -/
def VIn (w : World) (A : Option Addr) (n c : Nat) (ls : List Li) (D : Option Addr) (bs : List Bk) (wr : World) : Prop := TIn w A n c ls wr ∧ DRow wr w.heap.size D bs
section
variable {w wr w' : World} {A D : Option Addr} {n c : Nat} {ls : List Li} {bs : List Bk} {u : Value} {xs : List Int}
theorem VIn.keep (H : VIn w A n c ls D bs wr) (k : wr.grownBy w' none) : VIn w A n c ls D bs w' := ⟨H.1.keep k, H.2.kept k⟩
theorem VIn.grown (H : VIn w A n c ls D bs wr) (hu : IOwn wr w.heap.size u xs) (hg : wr.grownBy w' u.ownBlock) : VIn w A n c ls D bs w' := ⟨H.1.grown hu hg, H.2.grown hg (fun g e => (VOwn.lt hu g e).1)⟩
end
end Go.Proofs.Ytlldmbocaloogaa
