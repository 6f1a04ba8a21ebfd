/- The exact laws' helpers for devices, further (under way): markBlockS. -/
import Derived.Test.YtbdpnmejkchjpaaExactDev5
namespace Go.Proofs.Ytbdpnmejkchjpaa
open Go.ChangeShapes Go.WideShapes Go.ChangeAt Go.RowKit

theorem set_same {l : List Value} {i : Nat} {v : Value} (h : l[i]? = some v) : l.set i v = l := by
  obtain ⟨hlt, rfl⟩ := List.getElem?_eq_some_iff.1 h
  exact List.set_getElem_self hlt
theorem bv_set_wear {bs : List Bk} {i : Nat} {b : Bk} (h : bs[i]? = some b) (m : Int) : bv (bs.set i ⟨m, b.A, b.c, b.ps⟩) = (bv bs).set (i * 2) (.int .i64 m) := by
  rw [bv_set]
  refine set_same ?_
  rw [List.getElem?_set_ne (by omega)]
  exact (bv_at _ _ _ h).2
theorem bv_set_pages {bs : List Bk} {i : Nat} {b : Bk} (h : bs[i]? = some b) {qs : List Pg} (hq : qs.length = b.ps.length) : bv (bs.set i ⟨b.m, b.A, b.c, qs⟩) = bv bs := by
  rw [bv_set]
  have h0 : (bv bs).set (i * 2) (.int .i64 b.m) = bv bs := set_same (bv_at _ _ _ h).1
  show ((bv bs).set (i * 2) (.int .i64 b.m)).set (i * 2 + 1) (Bk.row ⟨b.m, b.A, b.c, qs⟩) = bv bs
  rw [h0]
  refine set_same ?_
  have e : Bk.row ⟨b.m, b.A, b.c, qs⟩ = b.row := by simp [Bk.row, hq]
  rw [e]
  exact (bv_at _ _ _ h).2
theorem apart_set {bs : List Bk} {i : Nat} {b b' : Bk} (h : apart bs) (hi : bs[i]? = some b) (hA : b'.A = b.A) : apart (bs.set i b') := by
  intro j k b1 b2 a1 a2 hjk hj hk h1 h2
  have look : ∀ {j : Nat} {b1 : Bk}, (bs.set i b')[j]? = some b1 → ∃ c, bs[j]? = some c ∧ c.A = b1.A := fun {j b1} hj => by
    rw [List.getElem?_set] at hj
    split at hj
    · rename_i e
      subst e
      split at hj
      · injection hj with hj; subst hj; exact ⟨b, hi, hA.symm⟩
      · cases hj
    · exact ⟨b1, hj, rfl⟩
  obtain ⟨c1, hc1, e1⟩ := look hj
  obtain ⟨c2, hc2, e2⟩ := look hk
  exact h j k c1 c2 a1 a2 hjk hc1 hc2 (e1.trans h1) (e2.trans h2)
theorem DOwn.wear {w : World} {base g cap n i : Nat} {bs : List Bk} {b : Bk} (h : DOwn w base (.slice (some ⟨g, 0, none⟩) n cap) bs) (hn : bs.length = n) (hi : bs[i]? = some b) (m : Int) :
    DOwn (w.setCell ⟨g, i * 2, none⟩ (.int .i64 m)) base (.slice (some ⟨g, 0, none⟩) n cap) (bs.set i ⟨m, b.A, b.c, b.ps⟩) := by
  subst hn
  have far : ∀ {v : Value} {ps : List Pg}, Own w base v ps → Own (w.setCell ⟨g, i * 2, none⟩ (.int .i64 m)) base v ps := fun {v ps} ho => by
    have hv : v.ownBlock ≠ some g := by
      rcases own_ne_dev ho h.1 with e | e
      · rw [e]; simp
      · simpa [Value.ownBlock] using e
    exact ho.to_put hv _
  refine ⟨?_, fun b' hm => ?_, apart_set h.2.2 hi rfl⟩
  · rw [List.length_set, bv_set_wear hi]
    exact (World.ownsRow.stored h.1 (i * 2) (.int .i64 m)).1
  · rcases List.mem_or_eq_of_mem_set hm with hm | rfl
    · exact far (h.2.1 b' hm)
    · exact far (h.2.1 b (List.mem_of_getElem? hi))
theorem DOwn.pages {w w' : World} {base g cap n i : Nat} {bs : List Bk} {b : Bk} {qs : List Pg} (h : DOwn w base (.slice (some ⟨g, 0, none⟩) n cap) bs) (hi : bs[i]? = some b) (hq : qs.length = b.ps.length)
    (ho : Own w' base (.slice b.A b.ps.length b.c) qs) (hg : w.grownBy w' (Value.slice b.A b.ps.length b.c).ownBlock) : DOwn w' base (.slice (some ⟨g, 0, none⟩) n cap) (bs.set i ⟨b.m, b.A, b.c, qs⟩) := by
  have hb := h.2.1 b (List.mem_of_getElem? hi)
  refine ⟨?_, fun b' hm => ?_, apart_set h.2.2 hi rfl⟩
  · rw [List.length_set, bv_set_pages hi hq]
    refine World.ownsRow.kept h.1 hg ?_
    rcases own_ne_dev hb h.1 with e | e
    · exact .inr (by rw [show (Value.slice b.A b.ps.length b.c).ownBlock = none from e]; simp [Value.ownBlock])
    · exact .inr (Ne.symm e)
  · obtain ⟨j, hj⟩ := List.getElem?_of_mem hm
    rw [List.getElem?_set] at hj
    split at hj
    · split at hj
      · injection hj with hj; subst hj
        show Own w' base (.slice b.A qs.length b.c) qs
        rw [hq]; exact ho
      · cases hj
    · rename_i hne
      refine (h.2.1 b' (List.mem_of_getElem? hj)).kept hg ?_
      cases hA' : b'.A with
      | none => exact .inl (by simp [Bk.row, hA', Value.ownBlock])
      | some a' =>
        refine .inr ?_
        cases hA : b.A with
        | none => simp [Bk.row, hA', Value.ownBlock]
        | some a =>
          have := h.2.2 i j b b' a a' hne hi hj hA hA'
          simp only [Bk.row, hA', Value.ownBlock, ne_eq, Option.some.injEq]
          exact Ne.symm this
/-- A device marked: nothing outside of its memory has changed. -/
def MarkedD (A : Option Addr) (n c base lo hi : Nat) (bs : List Bk) (w : World) (e : Ending) (w' : World) : Prop :=
  e = .returned (.int .i64 ((endK 1 bs : Nat) : Int)) ∧ DOwn w' base (.slice A n c) (markL 1 bs) ∧ Out lo hi w w'
def MarkDSt (w : World) (base g n c lo hi : Nat) (bs : List Bk) (k K : Nat) (wr : World) : Prop :=
  k ≤ n ∧ K = endK 1 (bs.take k) ∧ DOwn wr base (.slice (some ⟨g, 0, none⟩) n c) (markD 1 bs k) ∧ Out lo hi w wr
theorem markBlockS_any (g n c base lo hi : Nat) (bs : List Bk) (w : World) (hl : bs.length = n) (ho : DOwn w base (.slice (some ⟨g, 0, none⟩) n c) bs) (hd : DIn lo hi g bs) (hn : n ≤ 1048576) (ht : tot bs ≤ 1048576) :
    Calls Try.prog 22 #[.slice (some ⟨g, 0, none⟩) n c, .int .i64 1] w (MarkedD (some ⟨g, 0, none⟩) n c base lo hi bs w) := by
  subst hl
  have HO := Lib.hid ho
  have HD := Lib.hid hd
  clear ho hd
  go_enter Try.func22, Try.ntmps22
  go_wp2
  go_loopw [1, 5] (fun t i wr => ∃ (k K : Nat), i = .int .i64 k ∧ t = .int .i64 K ∧ MarkDSt w base g bs.length c lo hi bs k K wr) (fun _ i _ => bs.length - (intOf i).toNat)
  case atStart => exact ⟨0, 1, rfl, rfl, Nat.zero_le _, by simp [endK, tot], by rw [markD_zero]; exact HO.out, Out.refl _ _ _⟩
  case round =>
    obtain ⟨k, K, rfl, rfl, hkn, hK, hown, hg⟩ := hrel
    clear HO
    by_cases hlt : k < bs.length
    · have hKb : K ≤ 10000000 := by
        have h1 := tot_take_le bs k
        rw [hK]; unfold endK; rw [List.length_take]; omega
      obtain ⟨b, hb⟩ : ∃ b, bs[k]? = some b := ⟨_, List.getElem?_eq_getElem hlt⟩
      have hbt := tot_le (List.mem_of_getElem? hb)
      have hb2 := markD_at (K := 1) hb
      have hml := markD_length (K := 1) (bs := bs) (k := k) (by omega)
      obtain ⟨d0, d1⟩ := hown.at_ hml hb2
      have f0 := hown.frozen hml (k * 2)
      have hW := hown.wear hml hb2 (K : Int)
      have hW2 : ((markD 1 bs k).set k ⟨(K : Int), b.A, b.c, b.ps⟩)[k]? = some ⟨(K : Int), b.A, b.c, b.ps⟩ := List.getElem?_set_self (by omega)
      have hP : Own (wr.setCell ⟨g, k * 2, none⟩ (.int .i64 (K : Int))) base (.slice b.A b.ps.length b.c) b.ps := hW.2.1 ⟨(K : Int), b.A, b.c, b.ps⟩ (List.mem_of_getElem? hW2)
      have HX := Lib.hid (And.intro hg (And.intro hb (And.intro hbt (And.intro hK (And.intro hW (And.intro hW2 hP))))))
      clear hg hb hbt hK hW hW2 hP hown hb2 hml
      go_wp2_with fail
      refine (markPageS_any _ _ _ (K + 1) _ _ _ rfl HX.out.2.2.2.2.2.2 (by have := HX.out.2.2.1; omega) (by omega)).mono ?_
      rintro e w2 ⟨rfl, ho2, hk2⟩
      have hD2 := HX.out.2.2.2.2.1.pages HX.out.2.2.2.2.2.1 (marks_length _ _) ho2 hk2
      rw [List.set_set] at hD2
      have hst := markD_step (K := 1) HX.out.2.1
      rw [← HX.out.2.2.2.1] at hst
      rw [hst] at hD2
      have hO2 := (HX.out.1.setCell (p := ⟨g, k * 2, none⟩) HD.out.1.1 HD.out.1.2 (.int .i64 (K : Int))).trans (Out.of_grown hk2 (fun g' e => by
        cases hA : b.A with
        | none => rw [hA] at e; simp [Value.ownBlock] at e
        | some a =>
          rw [hA] at e
          simp only [Value.ownBlock, Option.some.injEq] at e
          rw [← e]
          exact HD.out.2 b a (List.mem_of_getElem? HX.out.2.1) hA))
      have HY := Lib.hid (And.intro hD2 hO2)
      clear ho2 hk2 hD2 hst hO2 d0 d1 f0
      go_wp2
      go_roundw
      case rel => exact ⟨k + 1, K + 1 + 5 * b.ps.length, by go_num, rfl, by omega, by rw [endK_step HX.out.2.1, ← HX.out.2.2.2.1], HY.out.1, HY.out.2⟩
      case measure => simp [intOf]; omega
    · obtain rfl : k = bs.length := by omega
      rw [markD_end] at hown
      have HX := Lib.hid (And.intro hg (And.intro hK hown))
      clear hg hK hown
      go_wp2
      go_ret
      exact ⟨retI (by rw [HX.out.2.1, List.take_length]), HX.out.2.2, HX.out.1⟩
end Go.Proofs.Ytbdpnmejkchjpaa
