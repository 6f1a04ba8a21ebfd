/- Plain facts on files: the size, the holes, a file cut short.
   What the model's FileSize and FileHoles answer.
   What the model's CutFile answers.
   What the model's FileValues answers. -/
import Derived.Test.YteniikfgellhfaaTables2
import Derived.Test.YteniikfgellhfaaDevices6
import Derived.BigQuiet
namespace Go.Proofs.Yteniikfgellhfaa

/-- One more than the greatest of the first k places with a page. -/
def szAt (xs : List Int) : Nat → Nat
  | 0 => 0
  | k + 1 => if 0 ≤ xs.getD k (-1) then k + 1 else szAt xs k
theorem szAt_le (xs : List Int) (k : Nat) : szAt xs k ≤ k := by
  induction k with
  | zero => exact Nat.le_refl _
  | succ k ih => simp only [szAt]; split <;> omega
theorem szAt_yes {xs : List Int} {k : Nat} {x : Int} (h : xs[k]? = some x) (hx : 0 ≤ x) : szAt xs (k + 1) = k + 1 := by
  simp [szAt, List.getD_eq_getElem?_getD, h, hx]
theorem szAt_no {xs : List Int} {k : Nat} {x : Int} (h : xs[k]? = some x) (hx : ¬ 0 ≤ x) : szAt xs (k + 1) = szAt xs k := by
  simp [szAt, List.getD_eq_getElem?_getD, h, hx]
/-- At no place from the size on there is a page. -/
theorem szAt_from {xs : List Int} {k j : Nat} {x : Int} (h1 : szAt xs k ≤ j) (h2 : j < k) (hx : xs[j]? = some x) : ¬ 0 ≤ x := by
  induction k with
  | zero => omega
  | succ k ih =>
    simp only [szAt] at h1
    split at h1
    · omega
    · rename_i h
      rcases Nat.lt_or_ge j k with h3 | h3
      · exact ih h1 h3
      · obtain rfl : j = k := by omega
        simpa [List.getD_eq_getElem?_getD, hx] using h
/-- At the place before the size there is one. -/
theorem szAt_last {xs : List Int} {k : Nat} (h : 0 < szAt xs k) : 0 ≤ xs.getD (szAt xs k - 1) (-1) := by
  induction k with
  | zero => simp [szAt] at h
  | succ k ih =>
    simp only [szAt] at h ⊢
    split
    · rename_i h1
      simpa using h1
    · rename_i h1
      rw [if_neg h1] at h
      exact ih h
/-- The arguments are a file of a valid table. -/
def fileB (xss : List (List Int)) (f : Int) : Bool := tabB xss && inB f 0 7
/-- What FileSize answers. -/
def fsizeV (xss : List (List Int)) (f : Int) : Int := if fileB xss f then (szAt (xss.getD f.toNat []) 6 : Nat) else -1
theorem fsize_no {xss : List (List Int)} {f : Int} (h : fileB xss f = false) : fsizeV xss f = -1 := by simp [fsizeV, h]
theorem fsize_at {xss : List (List Int)} {f : Nat} {xs : List Int} (h : fileB xss f = true) (hx : xss[f]? = some xs) : fsizeV xss f = (szAt xs 6 : Nat) := by
  simp [fsizeV, h, List.getD_eq_getElem?_getD, hx]
theorem file1 {xss : List (List Int)} {f : Int} (h : tabB xss = false) : fileB xss f = false := by simp [fileB, h]
theorem file2 {xss : List (List Int)} {f : Int} (h : inB f 0 7 = false) : fileB xss f = false := by simp [fileB, h]
theorem file_yes {xss : List (List Int)} {f : Int} (h : tabB xss = true) (hf : inB f 0 7 = true) : fileB xss f = true := by simp [fileB, h, hf]
/-- The places before place k without a page. -/
def holesTo (xs : List Int) : Nat → List Int
  | 0 => []
  | k + 1 => if 0 ≤ xs.getD k (-1) then holesTo xs k else holesTo xs k ++ [(k : Int)]
theorem holes_yes {xs : List Int} {k : Nat} {x : Int} (h : xs[k]? = some x) (hx : 0 ≤ x) : holesTo xs (k + 1) = holesTo xs k := by
  simp [holesTo, List.getD_eq_getElem?_getD, h, hx]
theorem holes_no {xs : List Int} {k : Nat} {x : Int} (h : xs[k]? = some x) (hx : ¬ 0 ≤ x) : holesTo xs (k + 1) = holesTo xs k ++ [(k : Int)] := by
  simp [holesTo, List.getD_eq_getElem?_getD, h, hx]
theorem holesTo_le (xs : List Int) (k : Nat) : (holesTo xs k).length ≤ k := by
  induction k with
  | zero => exact Nat.le_refl _
  | succ k ih => simp only [holesTo]; split <;> (try simp only [List.length_append, List.length_cons, List.length_nil]) <;> omega
/-- What FileHoles answers. -/
def holesV (xss : List (List Int)) (f : Int) : List Int := if fileB xss f then holesTo (xss.getD f.toNat []) (szAt (xss.getD f.toNat []) 6) else []
theorem holesV_no {xss : List (List Int)} {f : Int} (h : fileB xss f = false) : holesV xss f = [] := by simp [holesV, h]
theorem holesV_at {xss : List (List Int)} {f : Nat} {xs : List Int} (h : fileB xss f = true) (hx : xss[f]? = some xs) : holesV xss f = holesTo xs (szAt xs 6) := by
  simp [holesV, h, List.getD_eq_getElem?_getD, hx]
/-- A list without pages from place p on. -/
def cutL (xs : List Int) (p : Nat) : List Int := xs.take p ++ List.replicate (6 - p) (-1)
/-- The same on the way: places p .. k - 1 are cut. -/
def cutTo (xs : List Int) (p k : Nat) : List Int := xs.take p ++ List.replicate (k - p) (-1) ++ xs.drop k
theorem cutTo_start {xs : List Int} {p : Nat} : cutTo xs p p = xs := by simp [cutTo]
theorem cutTo_end {xs : List Int} {p : Nat} (h : xs.length = 6) : cutTo xs p 6 = cutL xs p := by simp [cutTo, cutL, ← h]
theorem cutTo_len {xs : List Int} {p k : Nat} (h : xs.length = 6) (hp : p ≤ k) (hk : k ≤ 6) : (cutTo xs p k).length = 6 := by simp [cutTo, h]; omega
theorem cutTo_step {xs : List Int} {p k : Nat} (h : xs.length = 6) (hp : p ≤ k) (hk : k < 6) : (cutTo xs p k).set k (-1) = cutTo xs p (k + 1) := by
  unfold cutTo
  have e1 : (xs.take p ++ List.replicate (k - p) (-1)).length = k := by simp [h]; omega
  rw [List.set_append_right _ _ (by omega), e1, Nat.sub_self, List.drop_eq_getElem_cons (by omega), List.set_cons_zero, show k + 1 - p = (k - p) + 1 by omega, List.replicate_succ', ← List.append_assoc, List.append_assoc, List.append_assoc, List.append_assoc]
  rfl
/-- The arguments are a file and a place or the end of a valid table. -/
def cutB (xss : List (List Int)) (f p : Int) : Bool := tabB xss && inB f 0 7 && inB p 0 6
/-- What CutFile answers. -/
def cutV (xss : List (List Int)) (f p : Int) : List (List Int) := if cutB xss f p then xss.set f.toNat (cutL (xss.getD f.toNat []) p.toNat) else []
theorem cut_no {xss : List (List Int)} {f p : Int} (h : cutB xss f p = false) : cutV xss f p = [] := by simp [cutV, h]
theorem cut_at {xss : List (List Int)} {f p : Nat} {xs : List Int} (h : cutB xss f p = true) (hx : xss[f]? = some xs) : cutV xss f p = xss.set f (cutL xs p) := by
  simp [cutV, h, List.getD_eq_getElem?_getD, hx]
theorem cut1 {xss : List (List Int)} {f p : Int} (h : tabB xss = false) : cutB xss f p = false := by simp [cutB, h]
theorem cut2 {xss : List (List Int)} {f p : Int} (h : inB f 0 7 = false) : cutB xss f p = false := by simp [cutB, h]
theorem cut3 {xss : List (List Int)} {f p : Int} (h : inB p 0 6 = false) : cutB xss f p = false := by simp [cutB, h]
theorem cut_yes {xss : List (List Int)} {f p : Int} (h : tabB xss = true) (hf : inB f 0 7 = true) (hp : inB p 0 6 = true) : cutB xss f p = true := by simp [cutB, h, hf, hp]
end Go.Proofs.Yteniikfgellhfaa
namespace Go.Proofs.Yteniikfgellhfaa
open Go.ChangeShapes Go.WideShapes Go.ChangeAt Go.RowKit
set_option linter.unusedVariables false

theorem file_is {xss : List (List Int)} {f : Int} (h : fileB xss f = true) : tabB xss = true ∧ inB f 0 7 = true := by simpa [fileB] using h
/-- Numbers in memory of their own are returned. -/
def IMade (xs : List Int) (w : World) (e : Ending) (w' : World) : Prop := ∃ (A : Option Addr) (n c : Nat), e = .returned (.slice A n c) ∧ xs.length = n ∧ IOwn w' w.heap.size (.slice A n c) xs ∧ w.grownBy w' none
theorem IOwn.slice {w : World} {base : Nat} {v : Value} {xs : List Int} (h : IOwn w base v xs) : ∃ A c, v = .slice A xs.length c := by
  rcases VOwn.form h with ⟨rfl, e⟩ | ⟨g, cap, rfl, _⟩
  · have : xs.length = 0 := by rw [← iv_length, e]; rfl
    exact ⟨none, 0, by rw [this]⟩
  · exact ⟨_, cap, by rw [iv_length]⟩
section
variable {w wr w' : World} {A : Option Addr} {n c : Nat} {ls : List Li} {u : Value} {xs : List Int}
/-- Numbers of the call's own were written to. -/
theorem TIn.grown (H : TIn w A n c ls wr) (hu : IOwn wr w.heap.size u xs) (hg : wr.grownBy w' u.ownBlock) : TIn w A n c ls w' := by
  refine ⟨H.1.grown hg ?_, H.2.1.grown hg (fun g e => (VOwn.lt hu g e).1), grown_joinR H.2.2 hg (fun g e => (VOwn.lt hu g e).1)⟩
  rcases VOwn.form hu with ⟨rfl, _⟩ | ⟨g, cap, rfl, _⟩
  · simp [Value.ownBlock]
  · intro e
    simp only [Value.ownBlock, Option.some.injEq] at e
    exact VOwn.ne_blk hu H.1 (by decide) e.symm
end
theorem iown_lit0 (w : World) (base : Nat) (hb : base ≤ w.heap.size) : IOwn (w.alloc (.cells #[] 3)) base (.slice (some ⟨w.heap.size, 0, none⟩) 0 0) [] := vown_lit w base 3 [] hb (by simp)
theorem iown_lit1 (w : World) (cs : Array Value) (t : TypeId) : IOwn ((w.alloc (.cells cs t)).alloc (.cells #[] 3)) w.heap.size (.slice (some ⟨w.heap.size + 1, 0, none⟩) 0 0) [] := by
  have h := iown_lit0 (w.alloc (.cells cs t)) w.heap.size (by simp only [size_alloc1]; omega)
  simpa only [size_alloc1] using h
end Go.Proofs.Yteniikfgellhfaa
namespace Go.Proofs.Yteniikfgellhfaa
open Go.ChangeShapes Go.WideShapes Go.ChangeAt Go.RowKit
set_option linter.unusedVariables false

/-- A table in memory of its own is returned, of some length. -/
def TabMade3 (xss : List (List Int)) (w : World) (e : Ending) (w' : World) : Prop := ∃ n, TabMade xss n w e w'
theorem tab3_zero {w w1 : World} (hg : w.grownBy w1 none) : TOwn w1 w.heap.size (.slice none 0 0) [] ∧ w.grownBy w1 none := ⟨town_nil _ _, hg⟩
theorem specCut_tab (A : Option Addr) (n c : Nat) (ls : List Li) (f p : Int) (w : World) (hl : ls.length = n) (hr : TRow w w.heap.size A ls) (hn : n ≤ 1048576) (hp : ∀ l, l ∈ ls → l.xs.length ≤ 1048576) (hv : tabB (ll ls) = false) :
    Calls Try.prog 100 #[.agg #[.slice A n c], .int .i64 f, .int .i64 p] w (TabMade3 [] w) := by
  have HT := Lib.hid (TIn2.start hr n c)
  have HP := Lib.hid (And.intro hl hp)
  have HV := Lib.hid (And.intro hv trivial)
  clear hl hr hp hv
  go_enter Try.func100, Try.ntmps100
  go_wp2_with fail
  refine (specTabValid_val HV.out.1 HP.out.1 HT.out.2.2.1.here hn HP.out.2).mono ?_
  rintro e w1 ⟨rfl, hk⟩
  have HK := Lib.hid (HT.out.keep hk)
  clear hk
  have z0 : w1.cell? ⟨w.heap.size + 1, 0, none⟩ = some (.slice none 0 0) := HK.out.2.1.cell 0
  have z1 : w1.frozen? ⟨w.heap.size + 1, 0, none⟩ = false := HK.out.2.1.frozen 0
  go_wp2
  exact bodyPost_ret (v := .agg #[.slice none 0 0]) (by simp [results, Try.results100, go_sem, *]) rfl ⟨0, none, 0, [], rfl, rfl, rfl, town_nil _ _, grown_put HK.out.2.2.2 (p := ⟨w.heap.size + 1, 0, none⟩) (by dsimp only; omega) _⟩
theorem specCut_file (A : Option Addr) (n c : Nat) (ls : List Li) (f p : Int) (w : World) (hl : ls.length = n) (hr : TRow w w.heap.size A ls) (hn : n ≤ 1048576) (hp : ∀ l, l ∈ ls → l.xs.length ≤ 1048576) (hv : tabB (ll ls) = true) (hf : inB f 0 7 = false) :
    Calls Try.prog 100 #[.agg #[.slice A n c], .int .i64 f, .int .i64 p] w (TabMade3 [] w) := by
  have HT := Lib.hid (TIn2.start hr n c)
  have HP := Lib.hid (And.intro hl hp)
  have HV := Lib.hid (And.intro hv hf)
  clear hl hr hp hv hf
  go_enter Try.func100, Try.ntmps100
  go_wp2_with fail
  refine (specTabValid_val HV.out.1 HP.out.1 HT.out.2.2.1.here hn HP.out.2).mono ?_
  rintro e w1 ⟨rfl, hk⟩
  have HK := Lib.hid (HT.out.keep hk)
  clear hk
  have z0 : w1.cell? ⟨w.heap.size + 1, 0, none⟩ = some (.slice none 0 0) := HK.out.2.1.cell 0
  have z1 : w1.frozen? ⟨w.heap.size + 1, 0, none⟩ = false := HK.out.2.1.frozen 0
  go_wp2_with (go_at_call 95; refine (in_any _ _ _ _).mono ?_; rintro e w' ⟨rfl, rfl⟩; first | rw [HV.out.2])
  exact bodyPost_ret (v := .agg #[.slice none 0 0]) (by simp [results, Try.results100, go_sem, *]) rfl ⟨0, none, 0, [], rfl, rfl, rfl, town_nil _ _, grown_put HK.out.2.2.2 (p := ⟨w.heap.size + 1, 0, none⟩) (by dsimp only; omega) _⟩
theorem specCut_place (A : Option Addr) (n c : Nat) (ls : List Li) (f p : Int) (w : World) (hl : ls.length = n) (hr : TRow w w.heap.size A ls) (hn : n ≤ 1048576) (hp : ∀ l, l ∈ ls → l.xs.length ≤ 1048576) (hv : tabB (ll ls) = true) (hf : inB f 0 7 = true) (hk : inB p 0 6 = false) :
    Calls Try.prog 100 #[.agg #[.slice A n c], .int .i64 f, .int .i64 p] w (TabMade3 [] w) := by
  have HT := Lib.hid (TIn2.start hr n c)
  have HP := Lib.hid (And.intro hl hp)
  have HV := Lib.hid (And.intro hv (And.intro hf hk))
  clear hl hr hp hv hf hk
  go_enter Try.func100, Try.ntmps100
  go_wp2_with fail
  refine (specTabValid_val HV.out.1 HP.out.1 HT.out.2.2.1.here hn HP.out.2).mono ?_
  rintro e w1 ⟨rfl, hk⟩
  have HK := Lib.hid (HT.out.keep hk)
  clear hk
  have z0 : w1.cell? ⟨w.heap.size + 1, 0, none⟩ = some (.slice none 0 0) := HK.out.2.1.cell 0
  have z1 : w1.frozen? ⟨w.heap.size + 1, 0, none⟩ = false := HK.out.2.1.frozen 0
  go_wp2_with (go_at_call 95; refine (in_any _ _ _ _).mono ?_; rintro e w' ⟨rfl, rfl⟩; first | rw [HV.out.2.1] | rw [HV.out.2.2])
  exact bodyPost_ret (v := .agg #[.slice none 0 0]) (by simp [results, Try.results100, go_sem, *]) rfl ⟨0, none, 0, [], rfl, rfl, rfl, town_nil _ _, grown_put HK.out.2.2.2 (p := ⟨w.heap.size + 1, 0, none⟩) (by dsimp only; omega) _⟩
theorem list_set_same {xss : List (List Int)} {f : Nat} {xs : List Int} (h : xss[f]? = some xs) : xss.set f xs = xss := by
  obtain ⟨hl, e⟩ := List.getElem?_eq_some_iff.1 h
  rw [← e]
  exact List.set_getElem_self hl
theorem specCut_at (A : Option Addr) (n c : Nat) (ls : List Li) (f p : Nat) (xs : List Int) (w : World) (hl : ls.length = n) (hr : TRow w w.heap.size A ls) (hv : tabB (ll ls) = true) (hf : inB f 0 7 = true) (hk : inB p 0 6 = true) (hx : (ll ls)[f]? = some xs) :
    Calls Try.prog 100 #[.agg #[.slice A n c], .int .i64 f, .int .i64 p] w (TabMade3 ((ll ls).set f (cutL xs p)) w) := by
  have hf7 : f < 8 := by have := inB_iff.1 hf; omega
  have hk6 : p ≤ 6 := by have := inB_iff.1 hk; omega
  have h6 : xs.length = 6 := ((tabB_iff _).1 hv).six xs (List.mem_of_getElem? hx)
  obtain ⟨h8, g, off, gx, ox, cl, xs', y, rfl, hll, h6', hy, hc⟩ := hr.open_ hv hf7 (show 0 < 6 by omega)
  have hn8 : n = 8 := by omega
  subst hn8
  have hp := ll_six hv
  have HT := Lib.hid (TIn2.start hr 8 c)
  have HP := Lib.hid (And.intro hl hp)
  have HV := Lib.hid (And.intro hv (And.intro hf (And.intro hk (And.intro hx h6))))
  have f0 : decide ((0 : Int) ≤ f) = true := decide_eq_true (by omega)
  have f1 : (f : Int) < 8 := by omega
  have hsmall : (8 : Nat) ≤ 1048576 := by omega
  clear hl hr hp hv hf hk hx hll hy h6 h6' h8 hc
  go_enter Try.func100, Try.ntmps100
  go_wp2_with fail
  refine (specTabValid_val HV.out.1 HP.out.1 HT.out.2.2.1.here hsmall HP.out.2).mono ?_
  rintro e w1 ⟨rfl, hk1⟩
  have HK := Lib.hid (HT.out.keep hk1)
  clear hk1
  have b0 : w1.cell? ⟨w.heap.size, 0, none⟩ = some (.slice (some ⟨g, off, none⟩) 8 c) := HK.out.1.cell 0
  go_wp2_with (first | (go_at_call 95; refine (in_any _ _ _ _).mono ?_; rintro e w' ⟨rfl, rfl⟩; first | rw [HV.out.2.1] | rw [HV.out.2.2.1]) | fail)
  refine (specCopyTab_any _ _ _ ls w1 HP.out.1 HK.out.2.2.1.here (by omega) HP.out.2).mono ?_
  rintro e w2 ⟨A2, c2, cs, rfl, hcl, hcs, ho, hk2⟩
  obtain ⟨g2, _, e, hg2, _⟩ := ho.head hcl (by omega)
  injection e with e1 _ e3
  subst e1; subst e3
  have K3 : w2.grownBy (w2.alloc (.cells #[.slice (some ⟨g2, 0, none⟩) 8 c2] 40)) none := grown_alloc (grown_refl _ _) _
  have ho3 := ho.keep K3
  have hT3 := (HK.out.keep hk2).keep K3
  have hN := Blk.new w2 40 #[.slice (some ⟨g2, 0, none⟩) 8 c2]
  have HS := Lib.hid (And.intro ho3 (And.intro hT3 (And.intro hN (And.intro hcl (And.intro hcs (HK.out.2.2.2.size))))))
  clear ho K3 ho3 hT3 hN hcl hcs hk2 hg2 b0
  go_wp2
  go_loopw [8] (fun i wr => ∃ (k : Nat) (es : List Li), i = .int .i64 k ∧ p ≤ k ∧ k ≤ 6 ∧ es.length = 8 ∧ ll es = (ll ls).set f (cutTo xs p k) ∧ TOwn wr w1.heap.size (.slice (some ⟨g2, 0, none⟩) 8 c2) es ∧ TIn2 w (some ⟨g, off, none⟩) 8 c ls wr ∧ Blk wr w2.heap.size 40 #[.slice (some ⟨g2, 0, none⟩) 8 c2]) (fun i _ => 6 - (intOf i).toNat)
  case atStart => exact ⟨p, cs, rfl, Nat.le_refl _, hk6, HS.out.2.2.2.1, by rw [cutTo_start, HS.out.2.2.2.2.1, list_set_same HV.out.2.2.2.1], HS.out.1, HS.out.2.1, HS.out.2.2.1⟩
  case round =>
    obtain ⟨k, es, rfl, hpk, hk, hel, hes, ho, hT, hN⟩ := hrel
    have b0 : wr.cell? ⟨w2.heap.size, 0, none⟩ = some (.slice (some ⟨g2, 0, none⟩) 8 c2) := hN.cell 0
    have hb1 := HS.out.2.2.2.2.2
    by_cases hk5 : k < 6
    · have e1 : (k : Int) ≤ 5 := by omega
      have k0 : decide ((0 : Int) ≤ k) = true := decide_eq_true (by omega)
      have k1 : (k : Int) < 6 := by omega
      have hlen := cutTo_len HV.out.2.2.2.2 hpk hk
      have hfl : f < (ll ls).length := (List.getElem?_eq_some_iff.1 HV.out.2.2.2.1).1
      have hrow : (ll es)[f]? = some (cutTo xs p k) := by rw [hes, List.getElem?_set_self hfl]
      obtain ⟨gl, cl2, hli, hio, hgl, hglz⟩ := ho.inner hrow (by omega)
      obtain ⟨z, hz⟩ : ∃ z, (cutTo xs p k)[k]? = some z := ⟨_, List.getElem?_eq_getElem (by omega)⟩
      have c0 := ho.at_ hel hli
      have c1 : wr.cell? ⟨gl, k, none⟩ = some (.int .i64 z) := VOwn.at_ hio (iv_length _) (iv_at hz)
      have c2f : wr.frozen? ⟨gl, k, none⟩ = false := VOwn.frozen hio (iv_length _) k
      dsimp only at c0
      rw [hlen] at c0
      have n0 : gl ≠ w.heap.size := VOwn.ne_blk hio hT.1 (by decide)
      have n1 : gl ≠ w.heap.size + 1 := VOwn.ne_blk hio hT.2.1 (by decide)
      have n2 : gl ≠ w2.heap.size := VOwn.ne_blk hio hN (by decide)
      have hT4 := hT.far (p := ⟨gl, k, none⟩) (by dsimp only; omega) n0 n1 (.int .i64 (-1))
      have hN4 := hN.far (p := ⟨gl, k, none⟩) (fun e => n2 e.symm) (.int .i64 (-1))
      have ho4 := ho.set hli k (-1)
      have hes4 : ll (es.set f ⟨some ⟨gl, 0, none⟩, cl2, (cutTo xs p k).set k (-1)⟩) = (ll ls).set f (cutTo xs p (k + 1)) := by rw [ll_set, hes, cutTo_step HV.out.2.2.2.2 hpk hk5, List.set_set]
      have HY := Lib.hid (And.intro (show (es.set f ⟨some ⟨gl, 0, none⟩, cl2, (cutTo xs p k).set k (-1)⟩).length = 8 by rw [List.length_set]; exact hel) (And.intro hes4 (And.intro ho4 (And.intro hT4 hN4))))
      clear hel hes ho hT hN hlen hrow hli hio hz n0 n1 n2 hT4 hN4 ho4 hes4 HT HK HS
      go_wp2
      go_roundw
      case rel => exact ⟨k + 1, _, by go_num, by omega, by omega, HY.out.1, HY.out.2.1, HY.out.2.2.1, HY.out.2.2.2.1, HY.out.2.2.2.2⟩
      case measure => simp [intOf]; omega
    · obtain rfl : k = 6 := by omega
      have z0 : wr.cell? ⟨w.heap.size + 1, 0, none⟩ = some (.slice none 0 0) := hT.2.1.cell 0
      have z1 : wr.frozen? ⟨w.heap.size + 1, 0, none⟩ = false := hT.2.1.frozen 0
      rw [cutTo_end HV.out.2.2.2.2] at hes
      have HY := Lib.hid (And.intro hel (And.intro hes (And.intro ((ho.base_le hb1).put hT.2.1 0 (.slice (some ⟨g2, 0, none⟩) 8 c2)) (grown_put hT.2.2.2 (p := ⟨w.heap.size + 1, 0, none⟩) (by dsimp only; omega) (.slice (some ⟨g2, 0, none⟩) 8 c2)))))
      clear hel hes ho hT hN HT HK HS
      go_wp2
      exact bodyPost_ret (v := .agg #[.slice (some ⟨g2, 0, none⟩) 8 c2]) (by simp [results, Try.results100, go_sem, *]) rfl ⟨8, some ⟨g2, 0, none⟩, c2, es, rfl, HY.out.1, HY.out.2.1, HY.out.2.2.1, HY.out.2.2.2⟩
theorem specCutFile_any (A : Option Addr) (n c : Nat) (ls : List Li) (f p : Int) (w : World) (hl : ls.length = n) (hr : TRow w w.heap.size A ls) (hn : n ≤ 1048576) (hp : ∀ l, l ∈ ls → l.xs.length ≤ 1048576) :
    Calls Try.prog 100 #[.agg #[.slice A n c], .int .i64 f, .int .i64 p] w (TabMade3 (cutV (ll ls) f p) w) := by
  cases hv : tabB (ll ls)
  · rw [cut_no (cut1 hv)]
    exact specCut_tab A n c ls f p w hl hr hn hp hv
  cases hf : inB f 0 7
  · rw [cut_no (cut2 hf)]
    exact specCut_file A n c ls f p w hl hr hn hp hv hf
  cases hk : inB p 0 6
  · rw [cut_no (cut3 hk)]
    exact specCut_place A n c ls f p w hl hr hn hp hv hf hk
  obtain ⟨fn, rfl, _⟩ := inB_nat (m := 7) hf
  obtain ⟨pn, rfl, _⟩ := inB_nat (m := 6) hk
  have h8 := ((tabB_iff _).1 hv).len
  have hx := List.getElem?_eq_getElem (l := ll ls) (i := fn) (by omega)
  rw [cut_at (cut_yes hv hf hk) hx]
  exact specCut_at A n c ls fn pn _ w hl hr hv hf hk hx
end Go.Proofs.Yteniikfgellhfaa
namespace Go.Proofs.Yteniikfgellhfaa
open Go.ChangeShapes Go.WideShapes Go.ChangeAt Go.RowKit
set_option linter.unusedVariables false

/-- The page that ReadPage answers. -/
def readV (bs : List Bk) (a : Int) : Pg := if devB bs then (if 0 ≤ a then (pageAt bs a.toNat).getD pz else pz) else pz
theorem readV_no {bs : List Bk} (h : devB bs = false) (a : Int) : readV bs a = pz := by simp [readV, h]
theorem readV_neg {bs : List Bk} {a : Int} (h : a < 0) : readV bs a = pz := by
  unfold readV
  split
  · rw [if_neg (by omega)]
  · rfl
theorem specRead_one (A : Option Addr) (n c : Nat) (bs : List Bk) (a : Int) (w : World) (hl : bs.length = n) (hr : DRow w w.heap.size A bs) (hn : n ≤ 1048576) (hp : ∀ b, b ∈ bs → b.ps.length ≤ 1048576) :
    Calls Try.prog 55 #[.slice A n c, .int .i64 a] w (PageRead (readV bs a) w) := by
  cases hd : devB bs
  · rw [readV_no hd]
    exact specReadPage_no A n c bs a w hl hr hn hp hd
  · obtain ⟨_, hall⟩ := dev_parts hd
    have h4 : ∀ b, b ∈ bs → b.ps.length = 4 := fun b hm => (block_parts (hall b hm)).2.1
    cases ha : inB a 0 (4 * n - 1)
    · have e : readV bs a = pz := by
        unfold readV
        rw [if_pos hd]
        split
        · rename_i h0
          have h1 : 4 * bs.length ≤ a.toNat := by
            rcases Nat.lt_or_ge a.toNat (4 * bs.length) with h2 | h2
            · have : inB a 0 (4 * n - 1) = true := inB_iff.2 ⟨h0, by omega⟩
              rw [ha] at this
              cases this
            · exact h2
          have : pageAt bs a.toNat = none := by rw [← allP_at h4]; exact List.getElem?_eq_none (by rw [allP_length h4]; omega)
          rw [this]
          rfl
        · rfl
      rw [e]
      exact specReadPage_out A n c bs a w hl hr hn hp hd ha
    · obtain ⟨h0, h1⟩ := inB_iff.1 ha
      obtain ⟨k, rfl⟩ := Int.eq_ofNat_of_zero_le h0
      obtain ⟨p, hp'⟩ := page_some h4 (a := k) (by omega)
      have e : readV bs (k : Int) = p := by
        unfold readV
        rw [if_pos hd, if_pos h0, Int.toNat_natCast, hp']
        rfl
      rw [e]
      exact specReadPage_at A n c bs k p w hl hr hd hp'
theorem specRead_val {A : Option Addr} {n c : Nat} {bs : List Bk} {a : Int} {p : Pg} {w : World} (h : readV bs a = p) (hl : bs.length = n) (hr : DRow w w.heap.size A bs) (hn : n ≤ 1048576) (hp : ∀ b, b ∈ bs → b.ps.length ≤ 1048576) :
    Calls Try.prog 55 #[.slice A n c, .int .i64 a] w (PageRead p w) := h ▸ specRead_one A n c bs a w hl hr hn hp
/-- A page is written, of this file and this place. -/
def isAt (p : Pg) (f : Int) (k : Nat) : Bool := p.f && (p.a == f) && (p.b == (k : Int))
/-- The values of the places before place k; none where a page is another's. -/
def valsTo (bs : List Bk) (xs : List Int) (f : Int) : Nat → Option (List Int)
  | 0 => some []
  | k + 1 => (valsTo bs xs f k).bind fun l => if xs.getD k (-1) < 0 then some (l ++ [0]) else if isAt (readV bs (xs.getD k (-1))) f k then some (l ++ [(readV bs (xs.getD k (-1))).c]) else none
section
variable {bs : List Bk} {xs l : List Int} {f x : Int} {k : Nat}
theorem vals_hole (h : valsTo bs xs f k = some l) (hx : xs[k]? = some x) (h0 : x < 0) : valsTo bs xs f (k + 1) = some (l ++ [0]) := by
  simp [valsTo, h, List.getD_eq_getElem?_getD, hx, h0]
theorem vals_page (h : valsTo bs xs f k = some l) (hx : xs[k]? = some x) (h0 : ¬ x < 0) (hp : isAt (readV bs x) f k = true) : valsTo bs xs f (k + 1) = some (l ++ [(readV bs x).c]) := by
  simp [valsTo, h, List.getD_eq_getElem?_getD, hx, h0, hp]
theorem vals_bad (h : valsTo bs xs f k = some l) (hx : xs[k]? = some x) (h0 : ¬ x < 0) (hp : isAt (readV bs x) f k = false) : valsTo bs xs f (k + 1) = none := by
  simp [valsTo, h, List.getD_eq_getElem?_getD, hx, h0, hp]
theorem vals_none {j : Nat} (h : valsTo bs xs f k = none) (hj : k ≤ j) : valsTo bs xs f j = none := by
  obtain ⟨d, rfl⟩ := Nat.le.dest hj
  clear hj
  induction d with
  | zero => exact h
  | succ d ih => rw [← Nat.add_assoc]; simp [valsTo, ih]
theorem vals_len (h : valsTo bs xs f k = some l) : l.length = k := by
  induction k generalizing l with
  | zero => simp [valsTo] at h; subst h; rfl
  | succ k ih =>
    simp only [valsTo, Option.bind_eq_some_iff] at h
    obtain ⟨m, hm, h⟩ := h
    have := ih hm
    split at h
    · injection h with h; subst h; simp [this]
    · split at h
      · injection h with h; subst h; simp [this]
      · cases h
end
/-- What FileValues answers. -/
def fvalV (bs : List Bk) (xss : List (List Int)) (f : Int) : List Int × Bool :=
  if devB bs && fileB xss f then (match valsTo bs (xss.getD f.toNat []) f (szAt (xss.getD f.toNat []) 6) with | some l => (l, true) | none => ([], false)) else ([], false)
theorem fval_no1 {bs : List Bk} {xss : List (List Int)} {f : Int} (h : devB bs = false) : fvalV bs xss f = ([], false) := by simp [fvalV, h]
theorem fval_no2 {bs : List Bk} {xss : List (List Int)} {f : Int} (h : fileB xss f = false) : fvalV bs xss f = ([], false) := by simp [fvalV, h]
theorem fval_some {bs : List Bk} {xss : List (List Int)} {f : Nat} {xs l : List Int} (hd : devB bs = true) (h : fileB xss f = true) (hx : xss[f]? = some xs) (hv : valsTo bs xs f (szAt xs 6) = some l) : fvalV bs xss f = (l, true) := by
  simp [fvalV, hd, h, List.getD_eq_getElem?_getD, hx, hv]
theorem fval_none {bs : List Bk} {xss : List (List Int)} {f : Nat} {xs : List Int} (hd : devB bs = true) (h : fileB xss f = true) (hx : xss[f]? = some xs) (hv : valsTo bs xs f (szAt xs 6) = none) : fvalV bs xss f = ([], false) := by
  simp [fvalV, hd, h, List.getD_eq_getElem?_getD, hx, hv]
/-- Numbers in memory of their own are returned, and whether it is possible. -/
def IMade2 (xs : List Int) (ok : Bool) (w : World) (e : Ending) (w' : World) : Prop := ∃ (A : Option Addr) (n c : Nat), e = .returned (.tuple #[.slice A n c, .bool ok]) ∧ xs.length = n ∧ IOwn w' w.heap.size (.slice A n c) xs ∧ w.grownBy w' none
/-- The arguments of FileValues: a boxed table, the table that came in, the device. -/
def VIn (w : World) (A : Option Addr) (n c : Nat) (ls : List Li) (D : Option Addr) (bs : List Bk) (wr : World) : Prop := TIn w A n c ls wr ∧ DRow wr w.heap.size D bs
section
variable {w wr w' : World} {A D : Option Addr} {n c : Nat} {ls : List Li} {bs : List Bk} {u : Value} {xs : List Int}
theorem VIn.keep (H : VIn w A n c ls D bs wr) (k : wr.grownBy w' none) : VIn w A n c ls D bs w' := ⟨H.1.keep k, H.2.kept k⟩
theorem VIn.grown (H : VIn w A n c ls D bs wr) (hu : IOwn wr w.heap.size u xs) (hg : wr.grownBy w' u.ownBlock) : VIn w A n c ls D bs w' := ⟨H.1.grown hu hg, H.2.grown hg (fun g e => (VOwn.lt hu g e).1)⟩
end
end Go.Proofs.Yteniikfgellhfaa
