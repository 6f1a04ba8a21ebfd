/- The exact laws' helpers for blocks, further: markBlock and heldBlock. -/
import Derived.Test.YtbdpnmejkchjpaaExactRows
namespace Go.Proofs.Ytbdpnmejkchjpaa
open Go.ChangeShapes Go.WideShapes Go.ChangeAt Go.RowKit

/-- The page that a mark writes from number K on; n of them; n of them in front of what was there. -/
def mkP (K : Nat) : Pg := ⟨(K : Int) % 3 == 0, (K : Int) + 1, (K : Int) + 1 + 1, (K : Int) + 1 + 1 + 1, (K : Int) + 1 + 1 + 1 + 1⟩
def marks (k0 n : Nat) : List Pg := (List.range n).map fun j => mkP (k0 + 5 * j)
def markTo (k0 : Nat) (ps : List Pg) (i : Nat) : List Pg := marks k0 i ++ ps.drop i
theorem marks_length (k0 n : Nat) : (marks k0 n).length = n := by simp [marks]
theorem marks_at {k0 n i : Nat} (h : i < n) : (marks k0 n)[i]? = some (mkP (k0 + 5 * i)) := by simp [marks, h]
theorem markTo_length {k0 i : Nat} {ps : List Pg} (h : i ≤ ps.length) : (markTo k0 ps i).length = ps.length := by
  simp only [markTo, List.length_append, marks_length, List.length_drop]; omega
theorem markTo_zero (k0 : Nat) (ps : List Pg) : markTo k0 ps 0 = ps := by simp [markTo, marks]
theorem markTo_end (k0 : Nat) (ps : List Pg) : markTo k0 ps ps.length = marks k0 ps.length := by simp [markTo]
theorem markTo_step {k0 i : Nat} {ps : List Pg} (h : i < ps.length) : (markTo k0 ps i).set i (mkP (k0 + 5 * i)) = markTo k0 ps (i + 1) := by
  unfold markTo
  rw [List.set_append_right _ _ (by rw [marks_length]; omega), marks_length, Nat.sub_self]
  have e : marks k0 (i + 1) = marks k0 i ++ [mkP (k0 + 5 * i)] := by simp [marks, List.range_succ]
  rw [e, List.append_assoc]
  congr 1
  rw [List.drop_eq_getElem_cons h]
  rfl
/-- A box made ahead of the marks. -/
theorem grown_of_alloc {w w' : World} {o : Obj} {row : Option Nat} (h : (w.alloc o).grownBy w' row) : w.grownBy w' row := by
  have k := World.grownBy_alloc w o row
  exact grown_trans k h
/-- Marked: the pages lie in the same row as before. -/
def Marked (k0 : Nat) (A : Option Addr) (n c base : Nat) (w : World) (e : Ending) (w' : World) : Prop :=
  e = .returned (.int .i64 ((k0 + 5 * n : Nat) : Int)) ∧ Own w' base (.slice A n c) (marks k0 n) ∧ w.grownBy w' (Value.slice A n c).ownBlock
def MarkSt (w : World) (base g n c k0 : Nat) (ps : List Pg) (i K : Nat) (wr : World) : Prop :=
  i ≤ n ∧ K = k0 + 5 * i ∧ Own wr base (.slice (some ⟨g, 0, none⟩) n c) (markTo k0 ps i) ∧ w.grownBy wr (some g)
theorem grown_own5 {a w : World} {k o : Nat} (h : a.grownBy w (some k)) (u0 u1 u2 u3 u4 : Value) :
    a.grownBy (((((w.setCell ⟨k, o, none⟩ u0).setCell ⟨k, o + 1, none⟩ u1).setCell ⟨k, o + 2, none⟩ u2).setCell ⟨k, o + 3, none⟩ u3).setCell ⟨k, o + 4, none⟩ u4) (some k) :=
  grown_set (grown_set (grown_set (grown_set (grown_set h (.inl rfl) u0) (.inl rfl) u1) (.inl rfl) u2) (.inl rfl) u3) (.inl rfl) u4
theorem markPageS_some (g n c k0 base : Nat) (ps : List Pg) (w : World) (hl : ps.length = n) (ho : Own w base (.slice (some ⟨g, 0, none⟩) n c) ps) (hn : n ≤ 1048576) (hk : k0 ≤ 100000000) :
    Calls Try.prog 45 #[.slice (some ⟨g, 0, none⟩) n c, .int .i64 k0] w (Marked k0 (some ⟨g, 0, none⟩) n c base w) := by
  subst hl
  have HO := Lib.hid ho
  clear ho
  go_enter Try.func45, Try.ntmps45
  go_wp2
  go_loopw [1, 5] (fun t i wr => ∃ (k K : Nat), i = .int .i64 k ∧ t = .int .i64 K ∧ MarkSt w base g ps.length c k0 ps k K wr) (fun _ i _ => ps.length - (intOf i).toNat)
  case atStart => exact ⟨0, k0, rfl, rfl, Nat.zero_le _, by omega, by rw [markTo_zero]; exact HO.out, grown_refl _ _⟩
  case round =>
    obtain ⟨k, K, rfl, rfl, hkn, hK, hown, hg⟩ := hrel
    clear HO
    have hfl := markTo_length (k0 := k0) hkn
    have HS := Lib.hid (And.intro hown (And.intro hg (And.intro hK hfl)))
    by_cases hlt : k < ps.length
    · have hKb : K ≤ 1000000000 := by omega
      obtain ⟨q, hq⟩ := getD_at (show k < (markTo k0 ps k).length by omega)
      obtain ⟨d0, d1, d2, d3, d4⟩ := hown.at_ hfl hq
      have f0 := hown.frozen hfl (k * 5)
      have f1 := hown.frozen hfl (k * 5 + 1)
      have f2 := hown.frozen hfl (k * 5 + 2)
      have f3 := hown.frozen hfl (k * 5 + 3)
      have f4 := hown.frozen hfl (k * 5 + 4)
      clear hown hg hq hfl hK
      go_wp2
      go_roundw
      case rel => exact ⟨k + 1, K + 5, by go_num, by simp; omega, by omega, by have := HS.out.2.2.1; omega, by have h2 := markTo_step (k0 := k0) hlt; rw [← HS.out.2.2.1] at h2; rw [← h2]; exact HS.out.1.set5 HS.out.2.2.2 k (mkP K), grown_own5 HS.out.2.1 _ _ _ _ _⟩
      case measure => simp [intOf]; omega
    · obtain rfl : k = ps.length := by omega
      clear hown hg hfl hK
      go_wp2
      go_ret
      exact ⟨retI (by have := HS.out.2.2.1; omega), by have h := HS.out.1; rw [markTo_end] at h; exact h, HS.out.2.1⟩
theorem markPageS_any (A : Option Addr) (n c k0 base : Nat) (ps : List Pg) (w : World) (hl : ps.length = n) (ho : Own w base (.slice A n c) ps) (hn : n ≤ 1048576) (hk : k0 ≤ 100000000) :
    Calls Try.prog 45 #[.slice A n c, .int .i64 k0] w (Marked k0 A n c base w) := by
  rcases ho.form with ⟨e, rfl⟩ | ⟨g, cap, e, _⟩
  · injection e with e1 e2 e3
    subst e1; subst e2; subst e3
    have HO := Lib.hid ho
    clear ho hl
    go_enter Try.func45, Try.ntmps45
    go_wp2
    go_loopw [1, 5] (fun t i wr => t = .int .i64 k0 ∧ i = .int .i64 0 ∧ wr = w) (fun _ _ _ => 0)
    case atStart => exact ⟨rfl, rfl, rfl⟩
    case round =>
      obtain ⟨rfl, rfl, rfl⟩ := hrel
      go_wp2
      go_ret
      exact ⟨retI (by omega), HO.out, grown_refl _ _⟩
  · injection e with e1 e2 e3
    subst e1
    exact markPageS_some g n c k0 base ps w hl ho hn hk
theorem heldPageS_any (A : Option Addr) (n c k0 : Nat) (w : World) (hr : Row w w.heap.size A (marks k0 n)) (hn : n ≤ 1048576) (hk : k0 ≤ 100000000) :
    Calls Try.prog 46 #[.slice A n c, .int .i64 k0] w fun e w' => e = .returned (.int .i64 ((k0 + 5 * n : Nat) : Int)) ∧ w = w' := by
  have HR := Lib.hid hr
  clear hr
  go_enter Try.func46, Try.ntmps46
  go_wp2
  go_loop [1, 5] (fun t i => ∃ (k K : Nat), k ≤ n ∧ K = k0 + 5 * k ∧ i = .int .i64 k ∧ t = .int .i64 K) (fun _ i => n - (intOf i).toNat)
  case atStart => exact ⟨0, k0, Nat.zero_le _, by omega, rfl, rfl⟩
  case round =>
    obtain ⟨k, K, hkn, hK, rfl, rfl⟩ := hrel
    have HK := Lib.hid hK
    by_cases hlt : k < n
    · have hKb : K ≤ 1000000000 := by omega
      have hm := marks_at (k0 := k0) hlt
      rw [← hK] at hm
      obtain ⟨g, off, rfl, _, hgw, hp5⟩ := HR.out (by rw [marks_length]; omega)
      obtain ⟨c0, c1, c2, c3, c4⟩ := hp5 _ _ hm
      simp only [mkP] at c0 c1 c2 c3 c4
      clear hm hp5 hK
      go_wp2
      go_round
      case rel => exact ⟨k + 1, K + 5, by omega, by have := HK.out; omega, by go_num, by simp; omega⟩
      case measure => simp [intOf]; omega
    · obtain rfl : k = n := by omega
      clear hK
      go_wp2
      go_ret
      exact ⟨retI (by have := HK.out; omega), rfl⟩
end Go.Proofs.Ytbdpnmejkchjpaa
