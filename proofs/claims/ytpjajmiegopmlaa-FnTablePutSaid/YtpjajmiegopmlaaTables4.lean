/- What the model's TableGet and TablePut answer. -/
import Derived.Test.YtpjajmiegopmlaaTables3
import Derived.Test.YtpjajmiegopmlaaTabsPlain
namespace Go.Proofs.Ytpjajmiegopmlaa
open Go.ChangeShapes Go.WideShapes Go.ChangeAt Go.RowKit

section
variable {w w' : World} {B : Nat} {A : Option Addr} {ls : List Li} {xs : List Int}
theorem TRow.pos (h : TRow w B A ls) (hp : 0 < ls.length) : ∃ g off, A = some ⟨g, off, none⟩ := by
  obtain ⟨g, off, e, _⟩ := h.1 (by rw [lv_length]; exact hp)
  exact ⟨g, off, e⟩
theorem TRow.cellf {g off f : Nat} {Al : Option Addr} {cl n : Nat} (h : TRow w B (some ⟨g, off, none⟩) ls) (hf : ls[f]? = some ⟨Al, cl, xs⟩) (hn : xs.length = n) : w.cell? ⟨g, off + f, none⟩ = some (.slice Al n cl) := by
  subst hn
  obtain ⟨g', off', e, _, _, hc⟩ := h.1 (by rw [lv_length]; have := (List.getElem?_eq_some_iff.1 hf).1; omega)
  injection e with e
  injection e with e1 e2
  subst e1; subst e2
  exact hc _ _ (lv_at hf)
theorem TRow.inner {f : Nat} {l : Li} (h : TRow w B A ls) (hf : ls[f]? = some l) : IRow w B l.A l.xs := h.2 _ (List.mem_of_getElem? hf)
theorem TRow.lt {g off : Nat} (h : TRow w B (some ⟨g, off, none⟩) ls) (hp : 0 < ls.length) : g < B := by
  obtain ⟨g', off', e, hb, _⟩ := h.1 (by rw [lv_length]; exact hp)
  injection e with e
  injection e with e1 e2
  subst e1
  exact hb
theorem IRow.lt {g off : Nat} (h : IRow w B (some ⟨g, off, none⟩) xs) (hp : 0 < xs.length) : g < B := by
  obtain ⟨g', off', e, hb, _⟩ := h (by rw [iv_length]; exact hp)
  injection e with e
  injection e with e1 e2
  subst e1
  exact hb
theorem IRow.pos (h : IRow w B A xs) (hp : 0 < xs.length) : ∃ g off, A = some ⟨g, off, none⟩ := by
  obtain ⟨g, off, e, _⟩ := h (by rw [iv_length]; exact hp)
  exact ⟨g, off, e⟩
theorem IRow.cellf {g off k : Nat} {x : Int} (h : IRow w B (some ⟨g, off, none⟩) xs) (hk : xs[k]? = some x) : w.cell? ⟨g, off + k, none⟩ = some (.int .i64 x) := by
  obtain ⟨g', off', e, _, _, hc⟩ := h (by rw [iv_length]; have := (List.getElem?_eq_some_iff.1 hk).1; omega)
  injection e with e
  injection e with e1 e2
  subst e1; subst e2
  exact hc _ _ (iv_at hk)
end
theorem ll_get {ls : List Li} {f : Nat} {xs : List Int} (h : (ll ls)[f]? = some xs) : ∃ A c, ls[f]? = some ⟨A, c, xs⟩ := by
  simp only [ll, List.getElem?_map, Option.map_eq_some_iff] at h
  obtain ⟨⟨A, c, ys⟩, hl, rfl⟩ := h
  exact ⟨A, c, hl⟩
/-- A cell of a valid table that is read: where it lies. -/
theorem TRow.open_ {w : World} {B : Nat} {A : Option Addr} {ls : List Li} (h : TRow w B A ls) (hv : tabB (ll ls) = true) {f k : Nat} (hf : f < 8) (hk : k < 6) :
    ls.length = 8 ∧ ∃ g off gx ox cl xs x, A = some ⟨g, off, none⟩ ∧ ls[f]? = some ⟨some ⟨gx, ox, none⟩, cl, xs⟩ ∧ xs.length = 6 ∧ xs[k]? = some x ∧ cellO (ll ls) f k = some x := by
  have hT := (tabB_iff _).1 hv
  have h8 : ls.length = 8 := by rw [← ll_length]; exact hT.len
  obtain ⟨xs, x, h1, h6, h2, h3⟩ := hT.cell hf hk
  obtain ⟨Al, cl, hl⟩ := ll_get h1
  obtain ⟨g, off, rfl⟩ := h.pos (by omega)
  obtain ⟨gx, ox, e⟩ := IRow.pos (h.inner hl) (by show 0 < xs.length; omega)
  dsimp only at e
  subst e
  exact ⟨h8, g, off, gx, ox, cl, xs, x, rfl, hl, h6, h2, h3⟩
theorem specTabValid_val {A : Option Addr} {n c : Nat} {ls : List Li} {w : World} {V : Bool} (hv : tabB (ll ls) = V) (hl : ls.length = n) (hr : TRow w w.heap.size A ls) (hn : n ≤ 1048576) (hp : ∀ l, l ∈ ls → l.xs.length ≤ 1048576) :
    Calls Try.prog 46 #[.agg #[.slice A n c]] w (KeptV (.bool V) w) := hv ▸ specTableValid_any A n c ls w hl hr hn hp
/-- A boxed table, and the table that came in. -/
def TIn (w : World) (A : Option Addr) (n c : Nat) (ls : List Li) (wr : World) : Prop := Blk wr w.heap.size 51 #[.slice A n c] ∧ TRow wr w.heap.size A ls ∧ w.grownBy wr none
section
variable {w wr w' : World} {A : Option Addr} {n c : Nat} {ls : List Li}
theorem TIn.start (hr : TRow w w.heap.size A ls) (n c : Nat) : TIn w A n c ls (w.alloc (.cells #[.slice A n c] 51)) := ⟨Blk.new w _ _, hr.alloc _, grown_alloc (grown_refl _ _) _⟩
theorem TIn.keep (H : TIn w A n c ls wr) (k : wr.grownBy w' none) : TIn w A n c ls w' := ⟨H.1.keep k, H.2.1.kept k, grown_trans H.2.2 k⟩
end
theorem tget_no {xss : List (List Int)} {f k : Int} (h : argB xss f k = false) : tgetV xss f k = -1 := by simp [tgetV, h]
theorem tget_at {xss : List (List Int)} {f k : Nat} {x : Int} (h : argB xss f k = true) (hc : cellO xss f k = some x) : tgetV xss f k = x := by simp [tgetV, h, hc]
theorem arg1 {xss : List (List Int)} {f k : Int} (h : tabB xss = false) : argB xss f k = false := by simp [argB, h]
theorem arg2 {xss : List (List Int)} {f k : Int} (h : inB f 0 7 = false) : argB xss f k = false := by simp [argB, h]
theorem arg3 {xss : List (List Int)} {f k : Int} (h : inB k 0 5 = false) : argB xss f k = false := by simp [argB, h]
theorem arg_yes {xss : List (List Int)} {f k : Int} (h : tabB xss = true) (hf : inB f 0 7 = true) (hk : inB k 0 5 = true) : argB xss f k = true := by simp [argB, h, hf, hk]
theorem inB_nat {x : Int} {m : Nat} (h : inB x 0 m = true) : ∃ n : Nat, x = n ∧ n ≤ m := by
  have := inB_iff.1 h
  obtain ⟨n, rfl⟩ := Int.eq_ofNat_of_zero_le this.1
  exact ⟨n, rfl, by omega⟩
theorem in_val {n lo hi : Int} {V : Bool} (h : inB n lo hi = V) (w : World) : Calls Try.prog 60 #[.int .i64 n, .int .i64 lo, .int .i64 hi] w fun e w' => e = .returned (.bool V) ∧ w = w' := h ▸ in_any n lo hi w
theorem specTableGet_any (A : Option Addr) (n c : Nat) (ls : List Li) (f k : Int) (w : World) (hl : ls.length = n) (hr : TRow w w.heap.size A ls) (hn : n ≤ 1048576) (hp : ∀ l, l ∈ ls → l.xs.length ≤ 1048576) :
    Calls Try.prog 32 #[.agg #[.slice A n c], .int .i64 f, .int .i64 k] w (KeptV (.int .i64 (tgetV (ll ls) f k)) w) := by
  have HT := Lib.hid (TIn.start hr n c)
  have HP := Lib.hid (And.intro hl hp)
  cases hv : tabB (ll ls)
  · have HV := Lib.hid (And.intro hv (tget_no (arg1 hv) : tgetV (ll ls) f k = -1))
    clear hl hr hp hv
    rw [HV.out.2]
    go_enter Try.func32, Try.ntmps32
    go_wp2_with fail
    refine (specTabValid_val HV.out.1 HP.out.1 HT.out.2.1.here hn HP.out.2).mono ?_
    rintro e w1 ⟨rfl, hk⟩
    have HK := Lib.hid (HT.out.keep hk)
    clear hk
    go_wp2
    go_ret
    exact ⟨rfl, HK.out.2.2⟩
  · cases hf : inB f 0 7
    · have HV := Lib.hid (And.intro hv (And.intro hf (tget_no (arg2 hf) : tgetV (ll ls) f k = -1)))
      clear hl hr hp hv hf
      rw [HV.out.2.2]
      go_enter Try.func32, Try.ntmps32
      go_wp2_with fail
      refine (specTabValid_val HV.out.1 HP.out.1 HT.out.2.1.here hn HP.out.2).mono ?_
      rintro e w1 ⟨rfl, hk⟩
      have HK := Lib.hid (HT.out.keep hk)
      clear hk
      go_wp2_with (go_at_call 60; refine (in_val HV.out.2.1 _).mono ?_; rintro e w' ⟨rfl, rfl⟩)
      go_ret
      exact ⟨rfl, HK.out.2.2⟩
    · cases hk : inB k 0 5
      · have HV := Lib.hid (And.intro hv (And.intro hf (And.intro hk (tget_no (arg3 hk) : tgetV (ll ls) f k = -1))))
        clear hl hr hp hv hf hk
        rw [HV.out.2.2.2]
        go_enter Try.func32, Try.ntmps32
        go_wp2_with fail
        refine (specTabValid_val HV.out.1 HP.out.1 HT.out.2.1.here hn HP.out.2).mono ?_
        rintro e w1 ⟨rfl, hk⟩
        have HK := Lib.hid (HT.out.keep hk)
        clear hk
        go_wp2_with (go_at_call 60; refine (in_any _ _ _ _).mono ?_; rintro e w' ⟨rfl, rfl⟩; first | rw [HV.out.2.1] | rw [HV.out.2.2.1])
        go_ret
        exact ⟨rfl, HK.out.2.2⟩
      · obtain ⟨fn, rfl, hf7⟩ := inB_nat (m := 7) hf
        obtain ⟨kn, rfl, hk5⟩ := inB_nat (m := 5) hk
        obtain ⟨h8, g, off, gx, ox, cl, xs, x, rfl, hll, h6, hx, hc⟩ := hr.open_ hv (show fn < 8 by omega) (show kn < 6 by omega)
        have hn8 : n = 8 := by omega
        subst hn8
        have HV := Lib.hid (And.intro hv (And.intro hf (And.intro hk (And.intro (tget_at (arg_yes hv hf hk) hc : tgetV (ll ls) fn kn = x) (And.intro hll (And.intro hx h6))))))
        have f0 : decide ((0 : Int) ≤ fn) = true := decide_eq_true (by omega)
        have f1 : (fn : Int) < 8 := by omega
        have k0 : decide ((0 : Int) ≤ kn) = true := decide_eq_true (by omega)
        have k1 : (kn : Int) < 6 := by omega
        clear hl hr hp hv hf hk hll hx hc h6 h8
        rw [HV.out.2.2.2.1]
        go_enter Try.func32, Try.ntmps32
        go_wp2_with fail
        refine (specTabValid_val HV.out.1 HP.out.1 HT.out.2.1.here hn HP.out.2).mono ?_
        rintro e w1 ⟨rfl, hk⟩
        have HK := Lib.hid (HT.out.keep hk)
        clear hk
        have b0 : w1.cell? ⟨w.heap.size, 0, none⟩ = some (.slice (some ⟨g, off, none⟩) 8 c) := HK.out.1.cell 0
        have c0 := HK.out.2.1.cellf HV.out.2.2.2.2.1 HV.out.2.2.2.2.2.2
        have c1 := (HK.out.2.1.inner HV.out.2.2.2.2.1).cellf HV.out.2.2.2.2.2.1
        go_wp2_with (go_at_call 60; refine (in_any _ _ _ _).mono ?_; rintro e w' ⟨rfl, rfl⟩; first | rw [HV.out.2.1] | rw [HV.out.2.2.1])
        go_ret
        exact ⟨rfl, HK.out.2.2⟩
end Go.Proofs.Ytpjajmiegopmlaa
