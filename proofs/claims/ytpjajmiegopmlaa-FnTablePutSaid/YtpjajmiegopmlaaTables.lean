/- What the model's TableValid answers. -/
import Derived.Test.YtpjajmiegopmlaaTabs
namespace Go.Proofs.Ytpjajmiegopmlaa
open Go.ChangeShapes Go.WideShapes Go.ChangeAt Go.RowKit

theorem flat_out {P r : List Int} {x : Int} (h : inB x (-1) 47 = false) : flatB P (x :: r) = false := by simp [flatB, h]
theorem flat_twice {P r : List Int} {x : Int} (h : P.contains x = true) (h0 : 0 ≤ x) : flatB P (x :: r) = false := by simp only [flatB, h]; simp [h0]
theorem flat_neg {P r : List Int} {x : Int} (h : inB x (-1) 47 = true) (h0 : ¬ 0 ≤ x) : flatB P (x :: r) = flatB (x :: P) r := by simp [flatB, h, h0]
theorem flat_new {P r : List Int} {x : Int} (h : inB x (-1) 47 = true) (h0 : P.contains x = false) : flatB P (x :: r) = flatB (x :: P) r := by simp only [flatB, h, h0]; simp
theorem flatten_at {xss : List (List Int)} {f : Nat} {xs : List Int} (h : xss[f]? = some xs) : (xss.drop f).flatten = xs.drop 0 ++ (xss.drop (f + 1)).flatten := by
  obtain ⟨hl, e⟩ := List.getElem?_eq_some_iff.1 h
  rw [List.drop_eq_getElem_cons hl, e, List.drop_zero, List.flatten_cons]
theorem drop_cons {xs : List Int} {k : Nat} {x : Int} (h : xs[k]? = some x) (r : List Int) : xs.drop k ++ r = x :: (xs.drop (k + 1) ++ r) := by
  obtain ⟨hl, e⟩ := List.getElem?_eq_some_iff.1 h
  rw [List.drop_eq_getElem_cons hl, e, List.cons_append]
theorem tab_no {xss : List (List Int)} (h : flatB [] xss.flatten = false) : tabB xss = false := by simp [tabB, h]
theorem tab_len {xss : List (List Int)} {f : Nat} {xs : List Int} (h : xss[f]? = some xs) (h6 : xs.length ≠ 6) : tabB xss = false := by
  have : xss.all (fun l => decide (l.length = 6)) = false := by
    rw [List.all_eq_false]
    exact ⟨xs, List.mem_of_getElem? h, by simp [h6]⟩
  simp [tabB, this]
theorem tab_yes {xss : List (List Int)} (h : ∀ (j : Nat) (xs : List Int), xss[j]? = some xs → xs.length = 6) (hf : flatB [] xss.flatten = true) : tabB xss = decide (xss.length = 8) := by
  have : xss.all (fun l => decide (l.length = 6)) = true := by
    rw [List.all_eq_true]
    intro xs hx
    obtain ⟨j, hj⟩ := List.getElem?_of_mem hx
    simp [h j xs hj]
  simp [tabB, this, hf]
/-- The numbers that were seen. -/
def Seen (w : World) (g : Nat) (P : List Int) : Prop := w.rowIs g 4 48 (fun i => .bool (P.contains (i : Int)))
theorem Seen.new (w : World) : Seen (w.alloc (.cells (madeCells #[.bool false] 48) 4)) w.heap.size [] := (World.rowIs_made w (.bool false) 48 4).congr fun i _ => by simp
theorem Seen.put {w : World} {g v : Nat} {P : List Int} (h : Seen w g P) : Seen (w.setCell ⟨g, v, none⟩ (.bool true)) g ((v : Int) :: P) := (World.rowIs.set h v (.bool true)).congr fun i _ => by
  by_cases e : i = v
  · subst e; simp
  · have : ((i : Int) == (v : Int)) = false := by simp; omega
    simp only [if_neg e, List.contains_cons, this, Bool.false_or]
theorem Seen.neg {w : World} {g : Nat} {P : List Int} {x : Int} (h : Seen w g P) (hx : ¬ 0 ≤ x) : Seen w g (x :: P) := World.rowIs.congr h fun i _ => by
  have : ((i : Int) == x) = false := by simp; omega
  simp only [List.contains_cons, this, Bool.false_or]
theorem make_seen (w : World) :
    (Instr.makeSlice 112 (.int .i64 48) (.int .i64 48)).run Try.prog w = .ok (.slice (some ⟨w.heap.size, 0, none⟩) 48 48) (w.alloc (.cells (madeCells #[.bool false] 48) 4)) := by
  have bool_info : (Try.prog.info? 4).map (fun i => (i.zero, i.size, i.bytes)) = some (some (.bool false), 1, 1) := by kernel_rfl
  obtain ⟨i, hi, hz, hs, hb⟩ := info_parts bool_info
  have hr := run_make (P := Try.prog) w 112 4 i _ Try.underlying112 hi hz .i64 .i64 48 48 (by omega) (by omega) (by rw [hb]; omega) (by omega)
  simp only [hs] at hr
  exact hr
/-- The loop over the lists, at list f: all before are right. -/
def ValRel (w : World) (A : Option Addr) (c : Nat) (ls : List Li) (f : Nat) (wr : World) : Prop :=
  f ≤ ls.length ∧ (∀ (j : Nat) (l : Li), j < f → ls[j]? = some l → l.xs.length = 6) ∧ (∃ P, flatB [] (ll ls).flatten = flatB P ((ll ls).drop f).flatten ∧ Seen wr (w.heap.size + 1) P) ∧ Blk wr w.heap.size 51 #[.slice A ls.length c] ∧ w.grownBy wr none
/-- The loop over the numbers of list f, at number k. -/
def ValRel2 (w : World) (A : Option Addr) (c : Nat) (ls : List Li) (f : Nat) (xs : List Int) (k : Nat) (wr : World) : Prop :=
  k ≤ xs.length ∧ (∃ P, flatB [] (ll ls).flatten = flatB P (xs.drop k ++ ((ll ls).drop (f + 1)).flatten) ∧ Seen wr (w.heap.size + 1) P) ∧ Blk wr w.heap.size 51 #[.slice A ls.length c] ∧ w.grownBy wr none
theorem specTableValid_any (A : Option Addr) (n c : Nat) (ls : List Li) (w : World) (hl : ls.length = n) (hr : TRow w w.heap.size A ls) (hn : n ≤ 1048576) (hp : ∀ l, l ∈ ls → l.xs.length ≤ 1048576) :
    Calls Try.prog 46 #[.agg #[.slice A n c]] w (KeptV (.bool (tabB (ll ls))) w) := by
  subst hl
  have HR := Lib.hid (And.intro hr hp)
  have hmk := make_seen (w.alloc (.cells #[.slice A ls.length c] 51))
  have hb0 := (Blk.new w 51 #[.slice A ls.length c]).alloc (.cells (madeCells #[.bool false] 48) 4)
  have hs0 := Seen.new (w.alloc (.cells #[.slice A ls.length c] 51))
  simp only [size_alloc1] at hs0 hmk
  have HS := Lib.hid (And.intro hb0 hs0)
  clear hr hp hb0 hs0
  go_enter Try.func46, Try.ntmps46
  go_wp2
  go_loopw [4] (fun i wr => ∃ f : Nat, i = .int .i64 f ∧ ValRel w A c ls f wr) (fun i _ => ls.length - (intOf i).toNat)
  case atStart => exact ⟨0, rfl, Nat.zero_le _, fun j _ hj => absurd hj (by omega), ⟨[], rfl, HS.out.2⟩, HS.out.1, grown_alloc (grown_alloc (grown_refl _ _) _) _⟩
  case round =>
    clear HS hmk
    obtain ⟨f, rfl, hf, hj, ⟨P, hP, hs⟩, hb, hg⟩ := hrel
    have b0 : wr.cell? ⟨w.heap.size, 0, none⟩ = some (.slice A ls.length c) := hb.cell 0
    by_cases hlt : f < ls.length
    · obtain ⟨g, off, Al, cl, xs, rfl, _, _, hfl, c0, hrow⟩ := (HR.out.1.kept hg).at_ hlt
      have hpl := HR.out.2 _ (List.mem_of_getElem? hfl)
      have h0 := flatten_at (ll_at hfl)
      rw [h0] at hP
      have HX := Lib.hid (And.intro hj (And.intro hfl hrow))
      have HS := Lib.hid (show ValRel2 w (some ⟨g, off, none⟩) c ls f xs 0 wr from ⟨Nat.zero_le _, ⟨P, hP, hs⟩, hb, hg⟩)
      clear hj hfl hrow hP hs hb hg h0
      go_wp2
      go_loopw [5] (fun i wr => ∃ k : Nat, i = .int .i64 k ∧ ValRel2 w (some ⟨g, off, none⟩) c ls f xs k wr) (fun i _ => xs.length - (intOf i).toNat)
      case atStart => exact ⟨0, rfl, HS.out⟩
      case round =>
        clear HS b0 c0
        obtain ⟨k, rfl, hk, ⟨Q, hQ, hs⟩, hb, hg⟩ := hrel
        obtain ⟨g1, off1, Al1, cl1, xs1, e1, _, _, e2, c0, hrow⟩ := (HR.out.1.kept hg).at_ hlt
        injection e1 with e1
        injection e1 with e1 e3
        subst e1; subst e3
        rw [HX.out.2.1] at e2
        injection e2 with e2
        injection e2 with e1 e3 e4
        subst e1; subst e3; subst e4
        have b0 : wr.cell? ⟨w.heap.size, 0, none⟩ = some (.slice (some ⟨g, off, none⟩) ls.length c) := hb.cell 0
        by_cases hkl : k < xs.length
        · obtain ⟨gx, ox, x, rfl, _, _, hx, d0⟩ := hrow.at_ hkl
          rw [drop_cons hx ((ll ls).drop (f + 1)).flatten] at hQ
          clear hrow
          cases hin : inB x (-1) 47
          · have HZ := Lib.hid (And.intro (tab_no (hQ.trans (flat_out hin))) hg)
            clear hQ hg hs hb
            go_wp2_with (go_at_call 60; refine (in_any _ _ _ _).mono ?_; rintro e w' ⟨rfl, rfl⟩)
            go_ret
            exact ⟨retB HZ.out.1.symm, HZ.out.2⟩
          · by_cases hx0 : 0 ≤ x
            · obtain ⟨v, rfl⟩ := Int.eq_ofNat_of_zero_le hx0
              have hv : v < 48 := by have := inB_iff.1 hin; omega
              have s0 : wr.cell? ⟨w.heap.size + 1, v, none⟩ = some (.bool (Q.contains (v : Int))) := World.rowIs.cell hs hv
              cases hc : Q.contains (v : Int)
              · rw [hc] at s0
                have f0 : wr.frozen? ⟨w.heap.size + 1, v, none⟩ = false := World.rowIs.frozen hs v
                have HZ := Lib.hid (And.intro (hQ.trans (flat_new hin hc)) (And.intro (hs.put (v := v)) (And.intro (hb.far (p := ⟨w.heap.size + 1, v, none⟩) (by simp) (.bool true)) (grown_put hg (p := ⟨w.heap.size + 1, v, none⟩) (by simp) (.bool true)))))
                clear hQ hg hs hb hc
                go_wp2_with (go_at_call 60; refine (in_any _ _ _ _).mono ?_; rintro e w' ⟨rfl, rfl⟩)
                go_roundw
                case rel => exact ⟨k + 1, by go_num, by omega, ⟨_, HZ.out.1, HZ.out.2.1⟩, HZ.out.2.2⟩
                case measure => simp [intOf]; omega
              · rw [hc] at s0
                have HZ := Lib.hid (And.intro (tab_no (hQ.trans (flat_twice hc hx0))) hg)
                clear hQ hg hs hb hc
                go_wp2_with (go_at_call 60; refine (in_any _ _ _ _).mono ?_; rintro e w' ⟨rfl, rfl⟩)
                go_ret
                exact ⟨retB HZ.out.1.symm, HZ.out.2⟩
            · have HZ := Lib.hid (And.intro (hQ.trans (flat_neg hin hx0)) (And.intro (hs.neg hx0) (And.intro hb hg)))
              clear hQ hg hs hb
              go_wp2_with (go_at_call 60; refine (in_any _ _ _ _).mono ?_; rintro e w' ⟨rfl, rfl⟩)
              go_roundw
              case rel => exact ⟨k + 1, by go_num, by omega, ⟨_, HZ.out.1, HZ.out.2.1⟩, HZ.out.2.2⟩
              case measure => simp [intOf]; omega
        · obtain rfl : k = xs.length := by omega
          rw [List.drop_length, List.nil_append] at hQ
          clear hrow
          by_cases h6 : xs.length = 6
          · have HZ := Lib.hid (And.intro hQ (And.intro hs (And.intro hb (And.intro hg h6))))
            have t6 : ((xs.length : Int) != 6) = false := by simp; omega
            clear hQ hg hs hb h6
            go_wp2
            go_roundw
            case rel =>
              refine ⟨f + 1, by go_num, by omega, fun j l hj hl => ?_, ⟨_, HZ.out.1, HZ.out.2.1⟩, HZ.out.2.2.1, HZ.out.2.2.2.1⟩
              rcases Nat.lt_or_ge j f with h1 | h1
              · exact HX.out.1 j l h1 hl
              · obtain rfl : j = f := by omega
                rw [HX.out.2.1] at hl
                injection hl with hl
                subst hl
                exact HZ.out.2.2.2.2
            case measure => simp [intOf]; omega
          · have HZ := Lib.hid (And.intro (tab_len (ll_at HX.out.2.1) h6) hg)
            have t6 : ((xs.length : Int) != 6) = true := by simp; omega
            clear hQ hg hs hb h6
            go_wp2
            go_ret
            exact ⟨retB HZ.out.1.symm, HZ.out.2⟩
    · obtain rfl : f = ls.length := by omega
      have e : (ll ls).drop ls.length = [] := by rw [← ll_length, List.drop_length]
      rw [e] at hP
      have HZ := Lib.hid (And.intro (tab_yes (xss := ll ls) (fun j xs hx => by
        simp only [ll, List.getElem?_map, Option.map_eq_some_iff] at hx
        obtain ⟨l, hl, rfl⟩ := hx
        exact hj j l (List.getElem?_eq_some_iff.1 hl).1 hl) hP) hg)
      have hsp : ls.length = 8 ∨ ls.length ≠ 8 := by omega
      clear hj hP hs hb hg e
      go_wp2
      go_ret
      refine ⟨retB ?_, HZ.out.2⟩
      rw [HZ.out.1, ll_length, Bool.eq_iff_iff]
      simp
      omega
end Go.Proofs.Ytpjajmiegopmlaa
