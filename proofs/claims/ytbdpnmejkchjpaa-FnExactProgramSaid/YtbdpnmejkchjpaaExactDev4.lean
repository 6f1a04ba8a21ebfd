/- The exact laws' helpers for devices, further (under way): heldBlockS. -/
import Derived.Test.YtbdpnmejkchjpaaExactDev3
namespace Go.Proofs.Ytbdpnmejkchjpaa
open Go.ChangeShapes Go.WideShapes Go.ChangeAt Go.RowKit

/-- A device marked from number K on; the number behind it. -/
def markL : Nat → List Bk → List Bk
  | _, [] => []
  | K, b :: r => ⟨(K : Int), b.A, b.c, marks (K + 1) b.ps.length⟩ :: markL (K + 1 + 5 * b.ps.length) r
def endK (K : Nat) (bs : List Bk) : Nat := K + bs.length + 5 * tot bs
theorem markL_length (K : Nat) (bs : List Bk) : (markL K bs).length = bs.length := by
  induction bs generalizing K with
  | nil => rfl
  | cons b r ih => simp [markL, ih]
theorem markL_at {K k : Nat} {bs : List Bk} {b : Bk} (h : bs[k]? = some b) : (markL K bs)[k]? = some ⟨((endK K (bs.take k) : Nat) : Int), b.A, b.c, marks (endK K (bs.take k) + 1) b.ps.length⟩ := by
  induction bs generalizing K k with
  | nil => simp at h
  | cons p r ih =>
    cases k with
    | zero => simp at h; subst h; simp [markL, endK, tot]
    | succ k =>
      have hh := ih (K := K + 1 + 5 * p.ps.length) (k := k) (by simpa using h)
      have e : endK (K + 1 + 5 * p.ps.length) (r.take k) = endK K ((p :: r).take (k + 1)) := by
        simp only [endK, List.take_succ_cons, List.length_cons, tot, List.map_cons, List.sum_cons]
        omega
      rw [e] at hh
      simpa [markL] using hh
theorem endK_step {K k : Nat} {bs : List Bk} {b : Bk} (h : bs[k]? = some b) : endK K (bs.take (k + 1)) = endK K (bs.take k) + 1 + 5 * b.ps.length := by
  have hk : k < bs.length := (List.getElem?_eq_some_iff.1 h).1
  unfold endK
  rw [tot_take h, List.length_take, List.length_take]
  omega
theorem tot_take_le (bs : List Bk) (k : Nat) : tot (bs.take k) ≤ tot bs := by
  have e : tot bs = tot (bs.take k) + tot (bs.drop k) := by
    unfold tot
    rw [← List.sum_append, ← List.map_append, List.take_append_drop]
  omega
theorem heldBlockS_any (A : Option Addr) (n c : Nat) (bs : List Bk) (w : World) (hl : bs.length = n) (hr : DRow w w.heap.size A (markL 1 bs)) (hn : n ≤ 1048576) (ht : tot bs ≤ 1048576) :
    Calls Try.prog 23 #[.slice A n c, .int .i64 1] w fun e w' => e = .returned (.int .i64 ((endK 1 bs : Nat) : Int)) ∧ w = w' := by
  subst hl
  have HR := Lib.hid hr
  clear hr
  go_enter Try.func23, Try.ntmps23
  go_wp2
  go_loop [1, 5] (fun t i => ∃ (k K : Nat), k ≤ bs.length ∧ K = endK 1 (bs.take k) ∧ i = .int .i64 k ∧ t = .int .i64 K) (fun _ i => bs.length - (intOf i).toNat)
  case atStart => exact ⟨0, 1, Nat.zero_le _, by simp [endK, tot], rfl, rfl⟩
  case round =>
    obtain ⟨k, K, hkn, hK, rfl, rfl⟩ := hrel
    have HK := Lib.hid hK
    by_cases hlt : k < bs.length
    · have hKb : K ≤ 10000000 := by
        have h1 := tot_take_le bs k
        rw [hK]; unfold endK; rw [List.length_take]; omega
      obtain ⟨b, hb⟩ : ∃ b, bs[k]? = some b := ⟨_, List.getElem?_eq_getElem hlt⟩
      have hbt := tot_le (List.mem_of_getElem? hb)
      have hm := markL_at (K := 1) hb
      rw [← hK] at hm
      obtain ⟨g, off, m, Ab, cb, ps, rfl, _, hgw, hb2, c0, c1, hrow⟩ := HR.out.at_ (i := k) (by rw [markL_length]; exact hlt)
      rw [hm] at hb2
      injection hb2 with hb2
      injection hb2 with e1 e2 e3 e4
      subst e1; subst e2; subst e3; subst e4
      rw [marks_length] at c1
      have HX := Lib.hid (And.intro hrow (And.intro hb hbt))
      have t1 : decide (((K + 1 + 5 * b.ps.length : Nat) : Int) < 0) = false := decide_eq_false (by omega)
      clear hm hK hrow hb hbt
      go_wp2_with (go_at_call 46; refine (heldPageS_any _ _ _ (K + 1) _ HX.out.1.here (by have := HX.out.2.2; omega) (by omega)).mono ?_; rintro e w' ⟨rfl, rfl⟩)
      go_round
      case rel => exact ⟨k + 1, K + 1 + 5 * b.ps.length, by omega, by rw [endK_step HX.out.2.1, ← HK.out], by go_num, rfl⟩
      case measure => simp [intOf]; omega
    · obtain rfl : k = bs.length := by omega
      clear hK
      go_wp2
      go_ret
      exact ⟨retI (by rw [HK.out, List.take_length]), rfl⟩
end Go.Proofs.Ytbdpnmejkchjpaa
