/- What the model's TableChanges answers. -/
import Derived.Test.YtpjajmiegopmlaaTables5
import Derived.BigQuiet
namespace Go.Proofs.Ytpjajmiegopmlaa
open Go.ChangeShapes Go.WideShapes Go.ChangeAt Go.RowKit
set_option linter.unusedVariables false

theorem chg_step {a b : List (List Int)} {f k : Nat} {x y : Int} (hk : k < 6) (hx : cellO a f k = some x) (hy : cellO b f k = some y) : chgTo a b (6 * f + k + 1) = chgTo a b (6 * f + k) + (if x = y then 0 else 1) := by
  simp only [chgTo, show (6 * f + k) / 6 = f by omega, show (6 * f + k) % 6 = k by omega, hx, hy, Option.some.injEq]
theorem TRow.list {w : World} {B g off : Nat} {ls : List Li} (h : TRow w B (some ⟨g, off, none⟩) ls) (hv : tabB (ll ls) = true) {f : Nat} (hf : f < 8) :
    ∃ gx ox cl xs, ls[f]? = some ⟨some ⟨gx, ox, none⟩, cl, xs⟩ ∧ xs.length = 6 := by
  obtain ⟨_, g', off', gx, ox, cl, xs, x, e, h1, h2, _⟩ := h.open_ hv hf (show 0 < 6 by omega)
  exact ⟨gx, ox, cl, xs, h1, h2⟩
/-- Two boxed tables that came in. -/
def TIn3 (w : World) (A : Option Addr) (n c : Nat) (ls : List Li) (A' : Option Addr) (n' c' : Nat) (ls' : List Li) (wr : World) : Prop :=
  Blk wr w.heap.size 51 #[.slice A n c] ∧ Blk wr (w.heap.size + 1) 51 #[.slice A' n' c'] ∧ TRow wr w.heap.size A ls ∧ TRow wr w.heap.size A' ls' ∧ w.grownBy wr none
section
variable {w wr w' : World} {A A' : Option Addr} {n c n' c' : Nat} {ls ls' : List Li}
theorem TIn3.start (hr : TRow w w.heap.size A ls) (hr' : TRow w w.heap.size A' ls') (n c n' c' : Nat) : TIn3 w A n c ls A' n' c' ls' ((w.alloc (.cells #[.slice A n c] 51)).alloc (.cells #[.slice A' n' c'] 51)) := by
  refine ⟨(Blk.new w _ _).alloc _, ?_, (hr.alloc _).alloc _, (hr'.alloc _).alloc _, grown_alloc (grown_alloc (grown_refl _ _) _) _⟩
  have H := Blk.new (w.alloc (.cells #[.slice A n c] 51)) 51 #[.slice A' n' c']
  simpa only [size_alloc1] using H
theorem TIn3.keep (H : TIn3 w A n c ls A' n' c' ls' wr) (k : wr.grownBy w' none) : TIn3 w A n c ls A' n' c' ls' w' := ⟨H.1.keep k, H.2.1.keep k, H.2.2.1.kept k, H.2.2.2.1.kept k, grown_trans H.2.2.2.2 k⟩
theorem TIn3.drewN (H : TIn3 w A n c ls A' n' c' ls' wr) (q : Nat) : TIn3 w A n c ls A' n' c' ls' (wr.drewN q) := H.keep (grown_drewN (grown_refl wr none) q)
end
theorem chg_no1 {a b : List (List Int)} (h : tabB a = false) : chgV a b = -1 := by simp [chgV, h]
theorem chg_no2 {a b : List (List Int)} (h : tabB b = false) : chgV a b = -1 := by simp [chgV, h]
theorem chg_yes {a b : List (List Int)} (h : tabB a = true) (h' : tabB b = true) : chgV a b = (chgTo a b 48 : Nat) := by simp [chgV, h, h']
theorem specChg_no1 (A : Option Addr) (n c : Nat) (ls : List Li) (A' : Option Addr) (n' c' : Nat) (ls' : List Li) (w : World) (hl : ls.length = n) (hr : TRow w w.heap.size A ls) (hn : n ≤ 1048576) (hp : ∀ l, l ∈ ls → l.xs.length ≤ 1048576) (hl' : ls'.length = n') (hr' : TRow w w.heap.size A' ls') (hn' : n' ≤ 1048576) (hp' : ∀ l, l ∈ ls' → l.xs.length ≤ 1048576) (hv : tabB (ll ls) = false) :
    Calls Try.prog 40 #[.agg #[.slice A n c], .agg #[.slice A' n' c']] w (KeptV (.int .i64 (-1)) w) := by
  have HT := Lib.hid (TIn3.start hr hr' n c n' c')
  have HP := Lib.hid (And.intro hl (And.intro hp hv))
  clear hl hr hp hl' hr' hp' hv
  go_enter Try.func40, Try.ntmps40
  go_wp2_with fail
  refine (specTabValid_val HP.out.2.2 HP.out.1 HT.out.2.2.1.here hn HP.out.2.1).mono ?_
  rintro e w1 ⟨rfl, hk⟩
  have HK := Lib.hid (HT.out.keep hk)
  clear hk
  go_wp2
  go_ret
  exact ⟨rfl, HK.out.2.2.2.2⟩
theorem specChg_no2 (A : Option Addr) (n c : Nat) (ls : List Li) (A' : Option Addr) (n' c' : Nat) (ls' : List Li) (w : World) (hl : ls.length = n) (hr : TRow w w.heap.size A ls) (hn : n ≤ 1048576) (hp : ∀ l, l ∈ ls → l.xs.length ≤ 1048576) (hl' : ls'.length = n') (hr' : TRow w w.heap.size A' ls') (hn' : n' ≤ 1048576) (hp' : ∀ l, l ∈ ls' → l.xs.length ≤ 1048576) (hv : tabB (ll ls) = true) (hv' : tabB (ll ls') = false) :
    Calls Try.prog 40 #[.agg #[.slice A n c], .agg #[.slice A' n' c']] w (KeptV (.int .i64 (-1)) w) := by
  have HT := Lib.hid (TIn3.start hr hr' n c n' c')
  have HP := Lib.hid (And.intro hl (And.intro hp (And.intro hv (And.intro hl' (And.intro hp' hv')))))
  clear hl hr hp hl' hr' hp' hv hv'
  go_enter Try.func40, Try.ntmps40
  go_wp2_with fail
  refine (specTabValid_val HP.out.2.2.1 HP.out.1 HT.out.2.2.1.here hn HP.out.2.1).mono ?_
  rintro e w1 ⟨rfl, hk⟩
  have HK := Lib.hid (HT.out.keep hk)
  have b1 : w1.cell? ⟨w.heap.size + 1, 0, none⟩ = some (.slice A' n' c') := HK.out.2.1.cell 0
  clear hk
  go_wp2_with fail
  refine (specTabValid_val HP.out.2.2.2.2.2 HP.out.2.2.2.1 HK.out.2.2.2.1.here hn' HP.out.2.2.2.2.1).mono ?_
  rintro e w2 ⟨rfl, hk⟩
  have HF := Lib.hid (HK.out.keep hk)
  clear hk
  go_wp2
  go_ret
  exact ⟨rfl, HF.out.2.2.2.2⟩
set_option maxHeartbeats 1000000 in
theorem specChg_yes (A : Option Addr) (n c : Nat) (ls : List Li) (A' : Option Addr) (n' c' : Nat) (ls' : List Li) (w : World) (hl : ls.length = n) (hr : TRow w w.heap.size A ls) (hn : n ≤ 1048576) (hp : ∀ l, l ∈ ls → l.xs.length ≤ 1048576) (hl' : ls'.length = n') (hr' : TRow w w.heap.size A' ls') (hn' : n' ≤ 1048576) (hp' : ∀ l, l ∈ ls' → l.xs.length ≤ 1048576) (hv : tabB (ll ls) = true) (hv' : tabB (ll ls') = true) :
    Calls Try.prog 40 #[.agg #[.slice A n c], .agg #[.slice A' n' c']] w (KeptV (.int .i64 (chgTo (ll ls) (ll ls') 48 : Nat)) w) := by
  obtain ⟨h8, g, off, _, _, _, _, _, rfl, _⟩ := hr.open_ hv (show 0 < 8 by omega) (show 0 < 6 by omega)
  obtain ⟨h8', g', off', _, _, _, _, _, rfl, _⟩ := hr'.open_ hv' (show 0 < 8 by omega) (show 0 < 6 by omega)
  have en : n = 8 := by omega
  have en' : n' = 8 := by omega
  subst en; subst en'
  have HT := Lib.hid (TIn3.start hr hr' 8 c 8 c')
  have HP := Lib.hid (And.intro hl (And.intro hp (And.intro hv (And.intro hl' (And.intro hp' hv')))))
  clear hl hr hp hl' hr' hp' hv hv' h8 h8'
  go_enter Try.func40, Try.ntmps40
  go_wp2_with fail
  refine (specTabValid_val HP.out.2.2.1 HP.out.1 HT.out.2.2.1.here hn HP.out.2.1).mono ?_
  rintro e w1 ⟨rfl, hk⟩
  have HK := Lib.hid (HT.out.keep hk)
  have b1 : w1.cell? ⟨w.heap.size + 1, 0, none⟩ = some (.slice (some ⟨g', off', none⟩) 8 c') := HK.out.2.1.cell 0
  clear hk
  go_wp2_with fail
  refine (specTabValid_val HP.out.2.2.2.2.2 HP.out.2.2.2.1 HK.out.2.2.2.1.here hn' HP.out.2.2.2.2.1).mono ?_
  rintro e w2 ⟨rfl, hk⟩
  have HF := Lib.hid (HK.out.keep hk)
  clear hk b1
  go_wp2
  go_loopw [5, 6] (fun m i wr => ∃ f : Nat, i = .int .i64 f ∧ f ≤ 8 ∧ m = .int .i64 (chgTo (ll ls) (ll ls') (6 * f) : Nat) ∧ TIn3 w (some ⟨g, off, none⟩) 8 c ls (some ⟨g', off', none⟩) 8 c' ls' wr) (fun _ i _ => 8 - (intOf i).toNat)
  case atStart => exact ⟨0, rfl, Nat.zero_le _, rfl, HF.out⟩
  case round =>
    clear HF HK HT
    obtain ⟨f, rfl, hf, rfl, hT⟩ := hrel
    by_cases hlt : f < 8
    · have hf8 : (f : Int) < 8 := by omega
      have hf0 : decide ((0 : Int) ≤ f) = true := decide_eq_true (by omega)
      obtain ⟨gx, ox, cl, xs, hll, h6⟩ := hT.2.2.1.list HP.out.2.2.1 hlt
      obtain ⟨gx', ox', cl', xs', hll', h6'⟩ := hT.2.2.2.1.list HP.out.2.2.2.2.2 hlt
      have HX := Lib.hid (And.intro hT (And.intro hll (And.intro h6 (And.intro hll' h6'))))
      clear hT hll h6 hll' h6'
      go_wp2
      go_loopw [5, 7] (fun m j wr => ∃ k : Nat, j = .int .i64 k ∧ k ≤ 6 ∧ m = .int .i64 (chgTo (ll ls) (ll ls') (6 * f + k) : Nat) ∧ TIn3 w (some ⟨g, off, none⟩) 8 c ls (some ⟨g', off', none⟩) 8 c' ls' wr) (fun _ j _ => 6 - (intOf j).toNat)
      case atStart => exact ⟨0, rfl, Nat.zero_le _, rfl, HX.out.1⟩
      case round =>
        obtain ⟨k, rfl, hk, rfl, hT⟩ := hrel
        by_cases hk6 : k < 6
        · have hk5 : (k : Int) ≤ 5 := by omega
          have hk0 : decide ((0 : Int) ≤ k) = true := decide_eq_true (by omega)
          have hk7 : (k : Int) < 6 := by omega
          have hx := List.getElem?_eq_getElem (l := xs) (i := k) (by have := HX.out.2.2.1; omega)
          have hy := List.getElem?_eq_getElem (l := xs') (i := k) (by have := HX.out.2.2.2.2; omega)
          obtain ⟨x, ex⟩ : ∃ x, x = xs[k]'(by have := HX.out.2.2.1; omega) := ⟨_, rfl⟩
          obtain ⟨y, ey⟩ : ∃ y, y = xs'[k]'(by have := HX.out.2.2.2.2; omega) := ⟨_, rfl⟩
          rw [← ex] at hx
          rw [← ey] at hy
          have st := chg_step hk6 (cellO_of (ll_at HX.out.2.1) hx) (cellO_of (ll_at HX.out.2.2.2.1) hy)
          have le := chgTo_le (ll ls) (ll ls') (6 * f + k)
          have b0 : wr.cell? ⟨w.heap.size, 0, none⟩ = some (.slice (some ⟨g, off, none⟩) 8 c) := hT.1.cell 0
          have b1 : wr.cell? ⟨w.heap.size + 1, 0, none⟩ = some (.slice (some ⟨g', off', none⟩) 8 c') := hT.2.1.cell 0
          have c0 := hT.2.2.1.cellf HX.out.2.1 HX.out.2.2.1
          have c1 := (hT.2.2.1.inner HX.out.2.1).cellf hx
          have c2 := hT.2.2.2.1.cellf HX.out.2.2.2.1 HX.out.2.2.2.2
          have c3 := (hT.2.2.2.1.inner HX.out.2.2.2.1).cellf hy
          have HZ := Lib.hid hT
          obtain ⟨m, hm⟩ : ∃ m, m = chgTo (ll ls) (ll ls') (6 * f + k) := ⟨_, rfl⟩
          rw [← hm] at st le ⊢
          have hm48 : m ≤ 48 := by omega
          clear hT hx hy ex ey le
          by_cases e : x = y
          · have e1 : (x != y) = false := by simp [e]
            rw [if_pos e] at st
            have HS := Lib.hid st
            clear st hm e
            go_wp2
            go_quiet (fail)
            all_goals go_wp2
            go_roundw
            case rel => exact ⟨k + 1, by go_num, by omega, by rw [← Nat.add_assoc, HS.out]; rfl, HZ.out.drewN _⟩
            case measure => simp [intOf]; omega
          · have e1 : (x != y) = true := by simp [e]
            rw [if_neg e] at st
            have HS := Lib.hid st
            clear st hm e
            go_wp2
            go_quiet (fail)
            all_goals go_wp2
            go_roundw
            case rel => exact ⟨k + 1, by go_num, by omega, by rw [← Nat.add_assoc, HS.out]; go_num, HZ.out.drewN _⟩
            case measure => simp [intOf]; omega
        · obtain rfl : k = 6 := by omega
          have HZ := Lib.hid hT
          clear hT
          go_wp2
          go_roundw
          case rel => exact ⟨f + 1, by go_num, by omega, by rw [show 6 * (f + 1) = 6 * f + 6 by omega], HZ.out⟩
          case measure => simp [intOf]; omega
    · obtain rfl : f = 8 := by omega
      have HZ := Lib.hid hT
      clear hT
      go_wp2
      go_ret
      exact ⟨rfl, HZ.out.2.2.2.2⟩
theorem specChg_any (A : Option Addr) (n c : Nat) (ls : List Li) (A' : Option Addr) (n' c' : Nat) (ls' : List Li) (w : World) (hl : ls.length = n) (hr : TRow w w.heap.size A ls) (hn : n ≤ 1048576) (hp : ∀ l, l ∈ ls → l.xs.length ≤ 1048576) (hl' : ls'.length = n') (hr' : TRow w w.heap.size A' ls') (hn' : n' ≤ 1048576) (hp' : ∀ l, l ∈ ls' → l.xs.length ≤ 1048576) :
    Calls Try.prog 40 #[.agg #[.slice A n c], .agg #[.slice A' n' c']] w (KeptV (.int .i64 (chgV (ll ls) (ll ls'))) w) := by
  cases hv : tabB (ll ls)
  · rw [chg_no1 hv]
    exact specChg_no1 A n c ls A' n' c' ls' w hl hr hn hp hl' hr' hn' hp' hv
  cases hv' : tabB (ll ls')
  · rw [chg_no2 hv']
    exact specChg_no2 A n c ls A' n' c' ls' w hl hr hn hp hl' hr' hn' hp' hv hv'
  rw [chg_yes hv hv']
  exact specChg_yes A n c ls A' n' c' ls' w hl hr hn hp hl' hr' hn' hp' hv hv'
end Go.Proofs.Ytpjajmiegopmlaa
