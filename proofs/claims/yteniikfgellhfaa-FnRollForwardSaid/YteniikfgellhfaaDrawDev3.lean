/- What the model draws for chapter 5: l20Device. -/
import Derived.Test.YteniikfgellhfaaDrawDev
namespace Go.Proofs.Yteniikfgellhfaa
open Go.ChangeShapes Go.WideShapes Go.ChangeAt Go.RowKit

/-- How long a slice is. -/
def lenV : Value → Nat
  | .slice _ n _ => n
  | _ => 0
/-- A new block is put behind the device. -/
theorem ESt.push {w wr w1 w3 : World} {B g Q V k c : Nat} {A : Option Addr} {cs : List Bk} {a b h : Int} {v' : Value} {A1 : Option Addr} {d1 : Nat} (H : ESt w B g Q V A k c cs a b h wr) (hk12 : k ≤ 12) (hk : wr.grownBy w1 none) (hp : Own w1 wr.heap.size (.slice A1 4 d1) [pz, pz, pz, pz])
    (ho : w3.ownsRow w.heap.size 87 2 v' (k + 1) (bv cs ++ [.int .i64 0, .slice A1 4 d1])) (hg3 : w1.grownBy w3 (Value.slice A k c).ownBlock) :
    ∃ A' c', v' = .slice A' (k + 1) c' ∧ ESt w B g Q V A' (k + 1) c' (cs ++ [⟨0, A1, d1, [pz, pz, pz, pz]⟩]) a b h w3 := by
  have hbase := H.2.2.2.2.2.1.size
  have hD := H.2.2.1
  obtain ⟨h1, ⟨hl0, _, hs⟩, h3, h4', h5, h6, h7, h8⟩ := H.kept hk
  have hpush := hD.push (m := 0) (ps := [pz, pz, pz, pz]) hk hp hbase (by rw [hl0]; exact ho) hg3
  have nA : ∀ {D : Nat} {q : Array Value}, Blk w1 D 77 q → some D ≠ (Value.slice A k c).ownBlock := fun {D q} hD e => owns_ne h3.1 hD (by decide) D e.symm rfl
  have g3 : ∀ i, (Value.slice A k c).ownBlock = some i → w.heap.size ≤ i ∧ i < wr.heap.size := fun i e => World.ownsRow.lt hD.1 i e
  have h5' := h5.grown hg3 (fun i e => ⟨by have := (g3 i e).1; have := h5.le; omega, by have := (g3 i e).1; omega⟩)
  have h6' : w.grownBy w3 (some g) := ⟨hg3.os.trans h6.os, hg3.tape.trans h6.tape, hg3.output.trans h6.output, Nat.le_trans h6.size hg3.size, fun i hi hne => (hg3.block i (Nat.lt_of_lt_of_le hi h6.size) (fun e => by have := (g3 i e.symm).1; omega)).trans (h6.block i hi hne)⟩
  have hlen : (cs ++ [(⟨0, A1, d1, [pz, pz, pz, pz]⟩ : Bk)]).length = k + 1 := by simp [hl0]
  have small : ∀ q, q ∈ cs ++ [(⟨0, A1, d1, [pz, pz, pz, pz]⟩ : Bk)] → q.ps.length ≤ 4 := fun q hq => by
    rcases List.mem_append.1 hq with hq | hq
    · exact hs q hq
    · simp at hq
      subst hq
      simp
  rcases ho.2 with ⟨_, e0⟩ | ⟨g', cap, cur, e, _⟩
  · omega
  · subst e
    exact ⟨_, _, rfl, h1.grown hg3 (nA h1), ⟨hlen, by omega, small⟩, hpush, h4'.grown hg3 (nA h4'), h5', h6', h7, h8⟩
theorem FinSt.out2 {w wr : World} {B g Q Q' V n c : Nat} {A : Option Addr} {bs : List Bk} {a b h : Int} (H : FinSt w B g Q V A n c bs a b h wr) (hq : Q ≤ Q') (u0 u1 u2 : Value) :
    DrewDev w B g Q' (.returned (.tuple #[.slice A n c, .agg #[.int .i64 a, .int .i64 b, .int .i64 h]])) (((wr.setCell ⟨w.heap.size, 0, none⟩ u0).setCell ⟨w.heap.size, 1, none⟩ u1).setCell ⟨w.heap.size, 2, none⟩ u2).drew := by
  obtain ⟨A1, n1, c1, bs1, a1, b1, h1, e, e1, e2, e3, e4, e5, e6, e7, e8, e9, e10⟩ := H.out u0 u1 u2
  exact ⟨A1, n1, c1, bs1, a1, b1, h1, e, e1, e2, e3, e4, e5, e6, e7, e8.more hq, grown_drew e9, e10⟩
set_option maxRecDepth 8000 in
set_option maxHeartbeats 8000000 in
theorem device_any (w : World) (B g P : Nat) (N : Int) (h : Rd w B g P) (hP : P ≤ 1000000) (hN : 1 ≤ N) (hN2 : N ≤ 1000000000000) :
    Calls Try.prog 50 #[.pointer (some ⟨g, 0, none⟩), .int .i64 N] w (DrewDev w B g (P + 200)) := by
  have h0 := h.alloc (.cells #[.int .i64 0, .int .i64 0, .int .i64 0] 77)
  have hg := h.lt
  have HG := Lib.hid hg
  clear h
  go_enter Try.func50, Try.ntmps50
  go_wp2_with fail
  refine (pick_lt _ _ _ _ _ h0 (by omega) (by omega)).mono ?_
  rintro e w1 ⟨x1, rfl, u1, v1, h1, hg1⟩
  obtain ⟨k1, rfl⟩ := Int.eq_ofNat_of_zero_le u1
  have hr1 := (Blk.new w 77 #[.int .i64 0, .int .i64 0, .int .i64 0]).grown hg1 (by intro e; injection e with e; omega)
  have hG1 := grown_trans (grown_alloc (grown_refl w (some g)) (.cells #[.int .i64 0, .int .i64 0, .int .i64 0] 77)) hg1
  have HX := Lib.hid (And.intro h1 (And.intro hr1 hG1))
  have HI := Lib.hid (show inB ((2 + k1 : Nat) : Int) 1 12 = true from inB_iff.2 ⟨by omega, by omega⟩)
  clear h0 h1 hg1 hr1 hG1
  go_wp2_with fail
  refine (specNewDevice_val (n := 2 + k1) (by omega) HI.out).mono ?_
  rintro e w2 ⟨A2, c2, cs2, rfl, hcl, hcs, ho2, hk⟩
  have hL : ∀ w4 : World, (w2.alloc (.cells #[.int .i64 (-1), .int .i64 (-1), .int .i64 (-1)] 77)).grownBy w4 (some g) → Rd w4 B g (P + 2) → DSt w B g (P + 2) w2.heap.size A2 (2 + k1) c2 cs2 (-1) (-1) (-1) w4 := fun w4 hg4 h4 => by
    have hm := HX.out.2.2.size
    have hm2 := hk.size
    have hlt := HX.out.2.1.lt
    refine ⟨(Blk.new w2 _ _).grown hg4 (by intro e; injection e with e; omega), ⟨hcl, (dev_same hcs).trans (zs_valid HI.out), heads_none _ (by omega)⟩, ((ho2.base_le hm).keep (grown_alloc (grown_refl _ none) _)).far_row hg4 hg, ((HX.out.2.1.keep hk).alloc _).grown hg4 (by intro e; injection e with e; omega), h4, grown_trans (grown_alloc (grown_trans HX.out.2.2 (grown_some hk)) _) hg4, hg, by omega⟩
  have HR := Lib.hid (HX.out.1.grown hk (by intro k e; cases e))
  have HL := Lib.hid hL
  clear hL hcl hcs ho2 hk HX
  go_wp2_with fail
  refine (pick_lt _ _ _ _ _ (HR.out.alloc _) (by omega) (by omega)).mono ?_
  rintro e w4 ⟨x4, rfl, u4, v4, h4, hg4⟩
  obtain ⟨k4, rfl⟩ := Int.eq_ofNat_of_zero_le u4
  have HS0 := Lib.hid (HL.out w4 hg4 (h4.more (by omega)))
  clear HL HR h4 hg4
  go_wp2_with fail
  go_loopw [6, 8, 9] (fun d s i wr => ∃ (k : Nat) (s0 : Int) (A : Option Addr) (c : Nat) (bs : List Bk) (a b h9 : Int), i = .int .i64 k ∧ s = .int .i64 s0 ∧ d = .slice A (2 + k1) c ∧ k ≤ 20 ∧ 1 ≤ s0 ∧ s0 ≤ 21 - (k : Int) ∧ DSt w B g (P + 2 + 4 * (20 - k)) w2.heap.size A (2 + k1) c bs a b h9 wr) (fun _ _ i _ => (intOf i).toNat)
  case atStart => exact ⟨k4, 1, A2, c2, cs2, -1, -1, -1, rfl, rfl, by first | rfl | simp, by omega, by omega, by omega, HS0.out.more (by omega)⟩
  case round =>
    obtain ⟨k, s0, A, c, bs, a, b, h9, rfl, rfl, rfl, hk20, hs1, hs2, hS⟩ := hrel
    clear HS0
    have HS := Lib.hid hS
    clear hS
    by_cases hpos : 0 < k
    · obtain ⟨k, rfl⟩ : ∃ k' : Nat, k = k' + 1 := ⟨k - 1, by omega⟩
      have t0 : decide (0 < k + 1) = true := decide_eq_true hpos
      obtain ⟨z0, z1, z2⟩ := HS.out.cells
      go_upto_region 7 with fail
      go_cut [10, 11] (fun sx sy wx => ∃ (D : Nat) (A5 : Option Addr) (c5 : Nat) (cs : List Bk) (a1 b1 h1 : Int), sx = .slice A5 (2 + k1) c5 ∧ sy = .pointer (some ⟨D, 0, none⟩) ∧ Blk wx D 77 #[.int .i64 a1, .int .i64 b1, .int .i64 h1] ∧ w2.heap.size < D ∧ (cs.length = 2 + k1 ∧ devB cs = true ∧ headsB (2 + k1) a1 b1 h1 = true) ∧ DOwn wx w.heap.size (.slice A5 (2 + k1) c5) cs ∧ DSt w B g (P + 2 + 4 * (20 - (k + 1)) + 4) w2.heap.size A (2 + k1) c bs a b h9 wx)
      case first =>
        refine wp_region_held_drew (S := (fun w' => w'.cell? ⟨w2.heap.size, 0, none⟩ = some (.int .i64 a) ∧ w'.cell? ⟨w2.heap.size, 1, none⟩ = some (.int .i64 b) ∧ w'.cell? ⟨w2.heap.size, 2, none⟩ = some (.int .i64 h9))) (by kernel_rfl) ?_ (fun hHeld => ?_)
        · exact ⟨z0, z1, z2⟩
        replace HS := Lib.hid HS.out.drew
        clear z0 z1 z2
        obtain ⟨z0, z1, z2⟩ := HS.out.cells
        refine heldY 0 26 ?_
        refine heldY 1 27 ?_
        refine heldY 2 28 ?_
        refine heldY 4 30 ?_
        refine heldY 5 31 ?_
        refine wpAnyH_ready (rs := [3, 12]) (by kernel_rfl) (by simp) ?_
        refine AllReadyH.cons rfl (fun K hK => ?_) (AllReadyH.cons rfl (fun K hK => ?_) AllReadyH.nil)
        · go_simp
          go_at_call 51
          refine (pick_lt _ _ _ _ _ HS.out.2.2.2.2.1 (by omega) (by omega)).mono ?_
          rintro e w5 ⟨x5, rfl, u5, v5, h6, hg5⟩
          obtain ⟨j5, rfl⟩ := Int.eq_ofNat_of_zero_le u5
          replace HS := Lib.hid (HS.out.grown hg5 h6)
          clear h6 hg5
          clear z0 z1 z2
          obtain ⟨z0, z1, z2⟩ := HS.out.cells
          refine hK.out _ _ ?_ (fun hHeld => ?_)
          · exact ⟨z0, z1, z2⟩
          clear hK K
          try simp only [Act.put, List.setIfInBounds_toArray, List.set_cons_zero, List.set_cons_succ]
          refine wpAnyH_ready (rs := [6, 12]) (by kernel_rfl) (by simp) ?_
          refine AllReadyH.cons rfl (fun K hK => ?_) (AllReadyH.cons rfl (fun K hK => ?_) AllReadyH.nil)
          · go_simp
            go_at_call 90
            refine (full_any _ _ _ _ _ HS.out.2.2.2.2.1 (by omega) (by omega) (by omega)).mono ?_
            rintro e w6 ⟨y1, y2, y3, rfl, hpg, h6, hg6⟩
            replace HS := Lib.hid (HS.out.grown hg6 h6)
            have HP := Lib.hid hpg
            clear h6 hg6 hpg
            clear z0 z1 z2
            obtain ⟨z0, z1, z2⟩ := HS.out.cells
            refine hK.out _ _ ?_ (fun hHeld => ?_)
            · exact ⟨z0, z1, z2⟩
            clear hK K
            try simp only [Act.put, List.setIfInBounds_toArray, List.set_cons_zero, List.set_cons_succ]
            refine wpAnyH_ready (rs := [7, 12]) (by kernel_rfl) (by simp) ?_
            refine AllReadyH.cons rfl (fun K hK => ?_) (AllReadyH.cons rfl (fun K hK => ?_) AllReadyH.nil)
            · go_simp
              go_at_call 89
              have hbase := HS.out.2.2.2.2.2.1.size
              refine (specAppend_valid _ _ _ _ _ _ _ _ _ _ _ _ _ (by omega) HS.out.2.1.1 HS.out.2.2.1.row HS.out.2.1.2.2 HS.out.2.1.2.1 HP.out).mono ?_
              rintro e w7 ⟨A5, c5, cs, a1, b1, h1, r5, rfl, hcl, hcd, hch, ho5, hk⟩
              have HO := Lib.hid (And.intro (And.intro hcl (And.intro hcd hch)) (ho5.base_le hbase))
              replace HS := Lib.hid (HS.out.kept hk)
              clear hcl hcd hch ho5 hk hbase
              clear z0 z1 z2
              obtain ⟨z0, z1, z2⟩ := HS.out.cells
              refine hK.out _ _ ?_ (fun hHeld => ?_)
              · exact ⟨z0, z1, z2⟩
              clear hK K
              try simp only [Act.put, List.setIfInBounds_toArray, List.set_cons_zero, List.set_cons_succ]
              refine heldY 8 25 ?_
              refine heldY 9 34 ?_
              refine heldY 10 35 ?_
              refine heldY 11 36 ?_
              refine wpAnyH_ready (rs := [12]) (by kernel_rfl) (by simp) ?_
              refine AllReadyH.cons rfl (fun K hK => ?_) AllReadyH.nil
              have hd0 : Blk (World.alloc w7 (.cells #[.int .i64 0, .int .i64 0, .int .i64 0] 77)) w7.heap.size 77 #[.int .i64 0, .int .i64 0, .int .i64 0] := by have h := Blk.new w7 77 #[.int .i64 0, .int .i64 0, .int .i64 0]; (try simp only [World.drew] at h); exact h
              have hd1 : w2.heap.size < w7.heap.size := by have := HS.out.1.lt; (try simp only [World.drew] at this); exact this
              have HV := Lib.hid (And.intro hd0 hd1)
              clear hd0 hd1
              have HSx := Lib.hid HS.out
              replace HS := Lib.hid (HS.out.kept (grown_alloc (grown_refl _ none) (.cells #[.int .i64 0, .int .i64 0, .int .i64 0] 77)))
              try have HOx := Lib.hid HO.out
              try replace HO := Lib.hid (And.intro HO.out.1 (HO.out.2.keep (grown_alloc (grown_refl _ none) (.cells #[.int .i64 0, .int .i64 0, .int .i64 0] 77))))
              go_simp
              clear z0 z1 z2
              obtain ⟨z0, z1, z2⟩ := HS.out.cells
              refine hK.out _ _ ?_ (fun hHeld => ?_)
              · exact ⟨z0, z1, z2⟩
              clear hK K
              try simp only [Act.put, List.setIfInBounds_toArray, List.set_cons_zero, List.set_cons_succ]
              obtain ⟨d0, d1, d2⟩ := cells3 HV.out.1
              obtain ⟨f0, f1, f2⟩ := frozen3 HV.out.1
              have hV2 := HV.out.2
              have na0 : w2.heap.size ≠ w7.heap.size := by omega
              have nb0 : w7.heap.size ≠ w2.heap.size := by omega
              refine wpAnyH_ready (rs := [13]) (by kernel_rfl) (by simp) ?_
              refine AllReadyH.cons rfl (fun K hK => ?_) AllReadyH.nil
              go_simp
              refine hK.out _ _ ?_ (fun hHeld => ?_)
              · first | assumption | go_keep
              clear hK K
              try simp only [Act.put, List.setIfInBounds_toArray, List.set_cons_zero, List.set_cons_succ]
              refine wpAnyH_ready (rs := [14]) (by kernel_rfl) (by simp) ?_
              refine AllReadyH.cons rfl (fun K hK => ?_) AllReadyH.nil
              go_simp
              refine hK.out _ _ ?_ (fun hHeld => ?_)
              · first | assumption | go_keep
              clear hK K
              try simp only [Act.put, List.setIfInBounds_toArray, List.set_cons_zero, List.set_cons_succ]
              refine wpAnyH_ready (rs := [15]) (by kernel_rfl) (by simp) ?_
              refine AllReadyH.cons rfl (fun K hK => ?_) AllReadyH.nil
              go_simp
              refine hK.out _ _ ?_ (fun hHeld => ?_)
              · first | assumption | go_keep
              clear hK K
              try simp only [Act.put, List.setIfInBounds_toArray, List.set_cons_zero, List.set_cons_succ]
              refine wpAnyH_done (by kernel_rfl) ?_ _
              go_wp2_with fail
              go_meet
              exact ⟨_, _, _, _, _, _, _, rfl, rfl, Blk.new w7 _ _, HV.out.2, HOx.out.1, HOx.out.2.keep (grown_alloc (grown_refl _ none) _), HSx.out.kept (grown_alloc (grown_refl _ none) _)⟩
            · have hd0 : Blk (World.alloc w6 (.cells #[.int .i64 0, .int .i64 0, .int .i64 0] 77)) w6.heap.size 77 #[.int .i64 0, .int .i64 0, .int .i64 0] := by have h := Blk.new w6 77 #[.int .i64 0, .int .i64 0, .int .i64 0]; (try simp only [World.drew] at h); exact h
              have hd1 : w2.heap.size < w6.heap.size := by have := HS.out.1.lt; (try simp only [World.drew] at this); exact this
              have HV := Lib.hid (And.intro hd0 hd1)
              clear hd0 hd1
              have HSx := Lib.hid HS.out
              replace HS := Lib.hid (HS.out.kept (grown_alloc (grown_refl _ none) (.cells #[.int .i64 0, .int .i64 0, .int .i64 0] 77)))
              try have HOx := Lib.hid HO.out
              try replace HO := Lib.hid (And.intro HO.out.1 (HO.out.2.keep (grown_alloc (grown_refl _ none) (.cells #[.int .i64 0, .int .i64 0, .int .i64 0] 77))))
              go_simp
              clear z0 z1 z2
              obtain ⟨z0, z1, z2⟩ := HS.out.cells
              refine hK.out _ _ ?_ (fun hHeld => ?_)
              · exact ⟨z0, z1, z2⟩
              clear hK K
              try simp only [Act.put, List.setIfInBounds_toArray, List.set_cons_zero, List.set_cons_succ]
              refine wpAnyH_ready (rs := [7]) (by kernel_rfl) (by simp) ?_
              refine AllReadyH.cons rfl (fun K hK => ?_) AllReadyH.nil
              go_simp
              go_at_call 89
              have hbase := HS.out.2.2.2.2.2.1.size
              refine (specAppend_valid _ _ _ _ _ _ _ _ _ _ _ _ _ (by omega) HS.out.2.1.1 HS.out.2.2.1.row HS.out.2.1.2.2 HS.out.2.1.2.1 HP.out).mono ?_
              rintro e w7 ⟨A5, c5, cs, a1, b1, h1, r5, rfl, hcl, hcd, hch, ho5, hk⟩
              have HO := Lib.hid (And.intro (And.intro hcl (And.intro hcd hch)) (ho5.base_le hbase))
              replace HV := Lib.hid (And.intro (HV.out.1.keep hk) HV.out.2)
              replace HS := Lib.hid (HS.out.kept hk)
              clear hcl hcd hch ho5 hk hbase
              clear z0 z1 z2
              obtain ⟨z0, z1, z2⟩ := HS.out.cells
              refine hK.out _ _ ?_ (fun hHeld => ?_)
              · exact ⟨z0, z1, z2⟩
              clear hK K
              try simp only [Act.put, List.setIfInBounds_toArray, List.set_cons_zero, List.set_cons_succ]
              refine heldY 8 25 ?_
              refine heldY 9 34 ?_
              refine heldY 10 35 ?_
              refine heldY 11 36 ?_
              obtain ⟨d0, d1, d2⟩ := cells3 HV.out.1
              obtain ⟨f0, f1, f2⟩ := frozen3 HV.out.1
              have hV2 := HV.out.2
              have na0 : w2.heap.size ≠ w6.heap.size := by omega
              have nb0 : w6.heap.size ≠ w2.heap.size := by omega
              refine wpAnyH_ready (rs := [13]) (by kernel_rfl) (by simp) ?_
              refine AllReadyH.cons rfl (fun K hK => ?_) AllReadyH.nil
              go_simp
              refine hK.out _ _ ?_ (fun hHeld => ?_)
              · first | assumption | go_keep
              clear hK K
              try simp only [Act.put, List.setIfInBounds_toArray, List.set_cons_zero, List.set_cons_succ]
              refine wpAnyH_ready (rs := [14]) (by kernel_rfl) (by simp) ?_
              refine AllReadyH.cons rfl (fun K hK => ?_) AllReadyH.nil
              go_simp
              refine hK.out _ _ ?_ (fun hHeld => ?_)
              · first | assumption | go_keep
              clear hK K
              try simp only [Act.put, List.setIfInBounds_toArray, List.set_cons_zero, List.set_cons_succ]
              refine wpAnyH_ready (rs := [15]) (by kernel_rfl) (by simp) ?_
              refine AllReadyH.cons rfl (fun K hK => ?_) AllReadyH.nil
              go_simp
              refine hK.out _ _ ?_ (fun hHeld => ?_)
              · first | assumption | go_keep
              clear hK K
              try simp only [Act.put, List.setIfInBounds_toArray, List.set_cons_zero, List.set_cons_succ]
              refine wpAnyH_done (by kernel_rfl) ?_ _
              go_wp2_with fail
              go_meet
              exact ⟨_, _, _, _, _, _, _, rfl, rfl, ((HV.out.1.put 0 _).put 1 _).put 2 _, HV.out.2, HO.out.1, HO.out.2.heads HV.out.1 _ _ _, HS.out.far3 HV.out.1 HV.out.2 _ _ _⟩
          · have hd0 : Blk (World.alloc w5 (.cells #[.int .i64 0, .int .i64 0, .int .i64 0] 77)) w5.heap.size 77 #[.int .i64 0, .int .i64 0, .int .i64 0] := by have h := Blk.new w5 77 #[.int .i64 0, .int .i64 0, .int .i64 0]; (try simp only [World.drew] at h); exact h
            have hd1 : w2.heap.size < w5.heap.size := by have := HS.out.1.lt; (try simp only [World.drew] at this); exact this
            have HV := Lib.hid (And.intro hd0 hd1)
            clear hd0 hd1
            have HSx := Lib.hid HS.out
            replace HS := Lib.hid (HS.out.kept (grown_alloc (grown_refl _ none) (.cells #[.int .i64 0, .int .i64 0, .int .i64 0] 77)))
            try have HOx := Lib.hid HO.out
            try replace HO := Lib.hid (And.intro HO.out.1 (HO.out.2.keep (grown_alloc (grown_refl _ none) (.cells #[.int .i64 0, .int .i64 0, .int .i64 0] 77))))
            go_simp
            clear z0 z1 z2
            obtain ⟨z0, z1, z2⟩ := HS.out.cells
            refine hK.out _ _ ?_ (fun hHeld => ?_)
            · exact ⟨z0, z1, z2⟩
            clear hK K
            try simp only [Act.put, List.setIfInBounds_toArray, List.set_cons_zero, List.set_cons_succ]
            refine wpAnyH_ready (rs := [6]) (by kernel_rfl) (by simp) ?_
            refine AllReadyH.cons rfl (fun K hK => ?_) AllReadyH.nil
            go_simp
            go_at_call 90
            refine (full_any _ _ _ _ _ HS.out.2.2.2.2.1 (by omega) (by omega) (by omega)).mono ?_
            rintro e w6 ⟨y1, y2, y3, rfl, hpg, h6, hg6⟩
            replace HV := Lib.hid (And.intro (HV.out.1.grown hg6 (by intro e; injection e with e; have := HV.out.2; have := HS.out.2.2.2.2.2.2; omega)) HV.out.2)
            replace HS := Lib.hid (HS.out.grown hg6 h6)
            have HP := Lib.hid hpg
            clear h6 hg6 hpg
            clear z0 z1 z2
            obtain ⟨z0, z1, z2⟩ := HS.out.cells
            refine hK.out _ _ ?_ (fun hHeld => ?_)
            · exact ⟨z0, z1, z2⟩
            clear hK K
            try simp only [Act.put, List.setIfInBounds_toArray, List.set_cons_zero, List.set_cons_succ]
            refine wpAnyH_ready (rs := [7]) (by kernel_rfl) (by simp) ?_
            refine AllReadyH.cons rfl (fun K hK => ?_) AllReadyH.nil
            go_simp
            go_at_call 89
            have hbase := HS.out.2.2.2.2.2.1.size
            refine (specAppend_valid _ _ _ _ _ _ _ _ _ _ _ _ _ (by omega) HS.out.2.1.1 HS.out.2.2.1.row HS.out.2.1.2.2 HS.out.2.1.2.1 HP.out).mono ?_
            rintro e w7 ⟨A5, c5, cs, a1, b1, h1, r5, rfl, hcl, hcd, hch, ho5, hk⟩
            have HO := Lib.hid (And.intro (And.intro hcl (And.intro hcd hch)) (ho5.base_le hbase))
            replace HV := Lib.hid (And.intro (HV.out.1.keep hk) HV.out.2)
            replace HS := Lib.hid (HS.out.kept hk)
            clear hcl hcd hch ho5 hk hbase
            clear z0 z1 z2
            obtain ⟨z0, z1, z2⟩ := HS.out.cells
            refine hK.out _ _ ?_ (fun hHeld => ?_)
            · exact ⟨z0, z1, z2⟩
            clear hK K
            try simp only [Act.put, List.setIfInBounds_toArray, List.set_cons_zero, List.set_cons_succ]
            refine heldY 8 25 ?_
            refine heldY 9 34 ?_
            refine heldY 10 35 ?_
            refine heldY 11 36 ?_
            obtain ⟨d0, d1, d2⟩ := cells3 HV.out.1
            obtain ⟨f0, f1, f2⟩ := frozen3 HV.out.1
            have hV2 := HV.out.2
            have na0 : w2.heap.size ≠ w5.heap.size := by omega
            have nb0 : w5.heap.size ≠ w2.heap.size := by omega
            refine wpAnyH_ready (rs := [13]) (by kernel_rfl) (by simp) ?_
            refine AllReadyH.cons rfl (fun K hK => ?_) AllReadyH.nil
            go_simp
            refine hK.out _ _ ?_ (fun hHeld => ?_)
            · first | assumption | go_keep
            clear hK K
            try simp only [Act.put, List.setIfInBounds_toArray, List.set_cons_zero, List.set_cons_succ]
            refine wpAnyH_ready (rs := [14]) (by kernel_rfl) (by simp) ?_
            refine AllReadyH.cons rfl (fun K hK => ?_) AllReadyH.nil
            go_simp
            refine hK.out _ _ ?_ (fun hHeld => ?_)
            · first | assumption | go_keep
            clear hK K
            try simp only [Act.put, List.setIfInBounds_toArray, List.set_cons_zero, List.set_cons_succ]
            refine wpAnyH_ready (rs := [15]) (by kernel_rfl) (by simp) ?_
            refine AllReadyH.cons rfl (fun K hK => ?_) AllReadyH.nil
            go_simp
            refine hK.out _ _ ?_ (fun hHeld => ?_)
            · first | assumption | go_keep
            clear hK K
            try simp only [Act.put, List.setIfInBounds_toArray, List.set_cons_zero, List.set_cons_succ]
            refine wpAnyH_done (by kernel_rfl) ?_ _
            go_wp2_with fail
            go_meet
            exact ⟨_, _, _, _, _, _, _, rfl, rfl, ((HV.out.1.put 0 _).put 1 _).put 2 _, HV.out.2, HO.out.1, HO.out.2.heads HV.out.1 _ _ _, HS.out.far3 HV.out.1 HV.out.2 _ _ _⟩
        · have hd0 : Blk (World.alloc wr.drew (.cells #[.int .i64 0, .int .i64 0, .int .i64 0] 77)) wr.heap.size 77 #[.int .i64 0, .int .i64 0, .int .i64 0] := by have h := Blk.new wr.drew 77 #[.int .i64 0, .int .i64 0, .int .i64 0]; (try simp only [World.drew] at h); exact h
          have hd1 : w2.heap.size < wr.heap.size := by have := HS.out.1.lt; (try simp only [World.drew] at this); exact this
          have HV := Lib.hid (And.intro hd0 hd1)
          clear hd0 hd1
          have HSx := Lib.hid HS.out
          replace HS := Lib.hid (HS.out.kept (grown_alloc (grown_refl _ none) (.cells #[.int .i64 0, .int .i64 0, .int .i64 0] 77)))
          try have HOx := Lib.hid HO.out
          try replace HO := Lib.hid (And.intro HO.out.1 (HO.out.2.keep (grown_alloc (grown_refl _ none) (.cells #[.int .i64 0, .int .i64 0, .int .i64 0] 77))))
          go_simp
          clear z0 z1 z2
          obtain ⟨z0, z1, z2⟩ := HS.out.cells
          refine hK.out _ _ ?_ (fun hHeld => ?_)
          · exact ⟨z0, z1, z2⟩
          clear hK K
          try simp only [Act.put, List.setIfInBounds_toArray, List.set_cons_zero, List.set_cons_succ]
          refine wpAnyH_ready (rs := [3]) (by kernel_rfl) (by simp) ?_
          refine AllReadyH.cons rfl (fun K hK => ?_) AllReadyH.nil
          go_simp
          go_at_call 51
          refine (pick_lt _ _ _ _ _ HS.out.2.2.2.2.1 (by omega) (by omega)).mono ?_
          rintro e w5 ⟨x5, rfl, u5, v5, h6, hg5⟩
          obtain ⟨j5, rfl⟩ := Int.eq_ofNat_of_zero_le u5
          replace HV := Lib.hid (And.intro (HV.out.1.grown hg5 (by intro e; injection e with e; have := HV.out.2; have := HS.out.2.2.2.2.2.2; omega)) HV.out.2)
          replace HS := Lib.hid (HS.out.grown hg5 h6)
          clear h6 hg5
          clear z0 z1 z2
          obtain ⟨z0, z1, z2⟩ := HS.out.cells
          refine hK.out _ _ ?_ (fun hHeld => ?_)
          · exact ⟨z0, z1, z2⟩
          clear hK K
          try simp only [Act.put, List.setIfInBounds_toArray, List.set_cons_zero, List.set_cons_succ]
          refine wpAnyH_ready (rs := [6]) (by kernel_rfl) (by simp) ?_
          refine AllReadyH.cons rfl (fun K hK => ?_) AllReadyH.nil
          go_simp
          go_at_call 90
          refine (full_any _ _ _ _ _ HS.out.2.2.2.2.1 (by omega) (by omega) (by omega)).mono ?_
          rintro e w6 ⟨y1, y2, y3, rfl, hpg, h6, hg6⟩
          replace HV := Lib.hid (And.intro (HV.out.1.grown hg6 (by intro e; injection e with e; have := HV.out.2; have := HS.out.2.2.2.2.2.2; omega)) HV.out.2)
          replace HS := Lib.hid (HS.out.grown hg6 h6)
          have HP := Lib.hid hpg
          clear h6 hg6 hpg
          clear z0 z1 z2
          obtain ⟨z0, z1, z2⟩ := HS.out.cells
          refine hK.out _ _ ?_ (fun hHeld => ?_)
          · exact ⟨z0, z1, z2⟩
          clear hK K
          try simp only [Act.put, List.setIfInBounds_toArray, List.set_cons_zero, List.set_cons_succ]
          refine wpAnyH_ready (rs := [7]) (by kernel_rfl) (by simp) ?_
          refine AllReadyH.cons rfl (fun K hK => ?_) AllReadyH.nil
          go_simp
          go_at_call 89
          have hbase := HS.out.2.2.2.2.2.1.size
          refine (specAppend_valid _ _ _ _ _ _ _ _ _ _ _ _ _ (by omega) HS.out.2.1.1 HS.out.2.2.1.row HS.out.2.1.2.2 HS.out.2.1.2.1 HP.out).mono ?_
          rintro e w7 ⟨A5, c5, cs, a1, b1, h1, r5, rfl, hcl, hcd, hch, ho5, hk⟩
          have HO := Lib.hid (And.intro (And.intro hcl (And.intro hcd hch)) (ho5.base_le hbase))
          replace HV := Lib.hid (And.intro (HV.out.1.keep hk) HV.out.2)
          replace HS := Lib.hid (HS.out.kept hk)
          clear hcl hcd hch ho5 hk hbase
          clear z0 z1 z2
          obtain ⟨z0, z1, z2⟩ := HS.out.cells
          refine hK.out _ _ ?_ (fun hHeld => ?_)
          · exact ⟨z0, z1, z2⟩
          clear hK K
          try simp only [Act.put, List.setIfInBounds_toArray, List.set_cons_zero, List.set_cons_succ]
          refine heldY 8 25 ?_
          refine heldY 9 34 ?_
          refine heldY 10 35 ?_
          refine heldY 11 36 ?_
          obtain ⟨d0, d1, d2⟩ := cells3 HV.out.1
          obtain ⟨f0, f1, f2⟩ := frozen3 HV.out.1
          have hV2 := HV.out.2
          have na0 : w2.heap.size ≠ wr.heap.size := by omega
          have nb0 : wr.heap.size ≠ w2.heap.size := by omega
          refine wpAnyH_ready (rs := [13]) (by kernel_rfl) (by simp) ?_
          refine AllReadyH.cons rfl (fun K hK => ?_) AllReadyH.nil
          go_simp
          refine hK.out _ _ ?_ (fun hHeld => ?_)
          · first | assumption | go_keep
          clear hK K
          try simp only [Act.put, List.setIfInBounds_toArray, List.set_cons_zero, List.set_cons_succ]
          refine wpAnyH_ready (rs := [14]) (by kernel_rfl) (by simp) ?_
          refine AllReadyH.cons rfl (fun K hK => ?_) AllReadyH.nil
          go_simp
          refine hK.out _ _ ?_ (fun hHeld => ?_)
          · first | assumption | go_keep
          clear hK K
          try simp only [Act.put, List.setIfInBounds_toArray, List.set_cons_zero, List.set_cons_succ]
          refine wpAnyH_ready (rs := [15]) (by kernel_rfl) (by simp) ?_
          refine AllReadyH.cons rfl (fun K hK => ?_) AllReadyH.nil
          go_simp
          refine hK.out _ _ ?_ (fun hHeld => ?_)
          · first | assumption | go_keep
          clear hK K
          try simp only [Act.put, List.setIfInBounds_toArray, List.set_cons_zero, List.set_cons_succ]
          refine wpAnyH_done (by kernel_rfl) ?_ _
          go_wp2_with fail
          go_meet
          exact ⟨_, _, _, _, _, _, _, rfl, rfl, ((HV.out.1.put 0 _).put 1 _).put 2 _, HV.out.2, HO.out.1, HO.out.2.heads HV.out.1 _ _ _, HS.out.far3 HV.out.1 HV.out.2 _ _ _⟩
      case rest =>
        clear HS z0 z1 z2
        obtain ⟨D, A5, c5, cs, a1, b1, h1, rfl, rfl, hD, hVD, hc5, ho5, hS⟩ := hcut
        have HS := Lib.hid hS
        have HO := Lib.hid (And.intro hc5 ho5)
        clear hS hc5 ho5
        obtain ⟨z0, z1, z2⟩ := HS.out.cells
        obtain ⟨f0, f1, f2⟩ := frozen3 HS.out.1
        obtain ⟨d0, d1, d2⟩ := cells3 hD
        have na0 : w2.heap.size ≠ D := by omega
        have nb0 : D ≠ w2.heap.size := by omega
        clear hD
        go_wp2
        go_roundw
        case rel => exact ⟨k, s0 + 1, A5, c5, cs, a1, b1, h1, by go_num, by go_num, rfl, by omega, by omega, by omega, (HS.out.put HO.out.1.1 HO.out.1.2.1 HO.out.1.2.2 HO.out.2).more (by omega)⟩
        case measure => (simp [intOf]) <;> omega
    · obtain rfl : k = 0 := by omega
      go_wp2_with fail
      refine (pick_lt _ _ _ _ _ HS.out.2.2.2.2.1 (by omega) (by omega)).mono ?_
      rintro e w5 ⟨x5, rfl, u5, v5, h5, hg5⟩
      obtain ⟨k5, rfl⟩ := Int.eq_ofNat_of_zero_le u5
      replace HS := Lib.hid (HS.out.grown hg5 h5)
      clear h5 hg5
      rcases HS.out.2.2.1.form with ⟨_, e0⟩ | ⟨gd, cap, e0, hgd, _, _, _⟩
      · have := HS.out.2.1.1; rw [e0] at this; simp at this; omega
      injection e0 with e0 e1 e2
      subst e0; subst e2
      clear e1
      go_wp2_with fail
      go_loopw [13] (fun i wr => ∃ (k : Nat) (bs : List Bk), i = .int .i64 k ∧ k ≤ 2 ∧ DSt w B g (P + 90 + 3 * (2 - k)) w2.heap.size (some ⟨gd, 0, none⟩) (2 + k1) c bs a b h9 wr) (fun i _ => (intOf i).toNat)
      case atStart => exact ⟨k5, bs, rfl, by omega, HS.out.more (by omega)⟩
      case round =>
        obtain ⟨k, bs', rfl, hk2, hS⟩ := hrel
        clear HS
        have HS := Lib.hid hS
        clear hS
        by_cases hpos : 0 < k
        · obtain ⟨k, rfl⟩ : ∃ k' : Nat, k = k' + 1 := ⟨k - 1, by omega⟩
          have t0 : decide (0 < k + 1) = true := decide_eq_true hpos
          go_wp2_with fail
          refine (pick_lt _ _ _ _ _ HS.out.2.2.2.2.1 (by omega) (by omega)).mono ?_
          rintro e w6 ⟨x6, rfl, u6, v6, h6, hg6⟩
          obtain ⟨i6, rfl⟩ := Int.eq_ofNat_of_zero_le u6
          replace HS := Lib.hid (HS.out.grown hg6 h6)
          clear h6 hg6
          go_wp2_with fail
          refine (pick_lt _ _ _ _ _ HS.out.2.2.2.2.1 (by omega) (by omega)).mono ?_
          rintro e w7 ⟨x7, rfl, u7, v7, h7, hg7⟩
          replace HS := Lib.hid (HS.out.grown hg7 h7)
          clear h7 hg7
          go_wp2_with fail
          refine (pick_lt _ _ _ _ _ (HS.out.2.2.2.2.1.alloc _) (by omega) (by omega)).mono ?_
          rintro e w8 ⟨x8, rfl, u8, v8, h8, hg8⟩
          obtain ⟨j8, rfl⟩ := Int.eq_ofNat_of_zero_le u8
          have hT := (Blk.new w7 3 #[.int .i64 x7, .int .i64 100]).grown hg8 (by intro e; injection e with e; have := HS.out.2.2.2.1.lt; have := HS.out.2.2.2.2.2.2.1; omega)
          obtain ⟨m8, hm8, hc8⟩ : ∃ m : Int, inB m 0 100 = true ∧ w8.cell? ⟨w7.heap.size, j8 / 8, none⟩ = some (.int .i64 m) := by
            have hj : j8 / 8 = 0 ∨ j8 / 8 = 1 := by omega
            rcases hj with hj | hj <;> rw [hj]
            · exact ⟨x7, inB_iff.2 ⟨by omega, by omega⟩, hT.cell 0⟩
            · exact ⟨100, by decide, hT.cell 1⟩
          replace HS := Lib.hid ((HS.out.kept (grown_alloc (grown_refl _ none) (.cells #[.int .i64 x7, .int .i64 100] 3))).grown hg8 h8)
          clear h8 hg8 hT
          obtain ⟨q, hq⟩ : ∃ q, bs'[i6]? = some q := ⟨_, List.getElem?_eq_getElem (by have := HS.out.2.1.1; omega)⟩
          obtain ⟨b0, _⟩ := HS.out.2.2.1.at_ HS.out.2.1.1 hq
          have f0 := HS.out.2.2.1.frozen HS.out.2.1.1 (i6 * 2)
          have HQ := Lib.hid (And.intro hq hm8)
          clear hq hm8
          have e8 : (j8 : Int) / 8 = ((j8 / 8 : Nat) : Int) := by omega
          have e9 : j8 / 8 < 2 := by omega
          have e7 : ((j8 / 8 : Nat) : Int) < 2 := by omega
          have i3 : (i6 : Int) < ((2 + k1 : Nat) : Int) := by omega
          generalize j8 / 8 = u8' at *
          go_wp2
          go_roundw
          case rel => exact ⟨k, _, by go_num, by omega, (HS.out.wear HQ.out.1 HQ.out.2).more (by omega)⟩
          case measure => (simp [intOf]) <;> omega
        · obtain rfl : k = 0 := by omega
          go_wp2_with fail
          refine (odd_any _ _ _ _ _ HS.out.2.2.2.2.1 (by omega) hN hN2).mono ?_
          rintro e w6 ⟨o6, rfl, h6, hg6⟩
          replace HS := Lib.hid (HS.out.grown hg6 h6).e
          clear h6 hg6
          cases o6
          · have HF := Lib.hid (HS.out.fin ⟨_, rfl⟩)
            clear HS
            obtain ⟨z0, z1, z2⟩ := cells3 HF.out.1
            obtain ⟨d0, d1, d2⟩ := cells3 HF.out.2.2.2.1
            obtain ⟨f0, f1, f2⟩ := frozen3 HF.out.2.2.2.1
            have hVw := HF.out.2.2.2.2.2.2.2.1
            have na0 : w2.heap.size ≠ w.heap.size := by omega
            have nb0 : w.heap.size ≠ w2.heap.size := by omega
            go_wp2_with fail
            refine wp_region_held_drew (S := (fun w' => w'.cell? ⟨w2.heap.size, 0, none⟩ = some (.int .i64 a) ∧ w'.cell? ⟨w2.heap.size, 1, none⟩ = some (.int .i64 b) ∧ w'.cell? ⟨w2.heap.size, 2, none⟩ = some (.int .i64 h9))) (by kernel_rfl) ?_ (fun hHeld => ?_)
            · exact ⟨z0, z1, z2⟩
            refine heldY 0 84 ?_
            refine heldY 1 85 ?_
            refine wpAnyH_ready (rs := [2]) (by kernel_rfl) (by simp) ?_
            refine AllReadyH.cons rfl (fun K hK => ?_) AllReadyH.nil
            go_simp
            refine hK.out _ _ ?_ (fun hHeld => ?_)
            · first | assumption | go_keep
            clear hK K
            try simp only [Act.put, List.setIfInBounds_toArray, List.set_cons_zero, List.set_cons_succ]
            refine wpAnyH_ready (rs := [3]) (by kernel_rfl) (by simp) ?_
            refine AllReadyH.cons rfl (fun K hK => ?_) AllReadyH.nil
            go_simp
            refine hK.out _ _ ?_ (fun hHeld => ?_)
            · first | assumption | go_keep
            clear hK K
            try simp only [Act.put, List.setIfInBounds_toArray, List.set_cons_zero, List.set_cons_succ]
            refine wpAnyH_done (by kernel_rfl) ?_ _
            go_wp2
            exact bodyPost_ret (v := .tuple #[.slice (some ⟨gd, 0, none⟩) (2 + k1) c, .agg #[.int .i64 a, .int .i64 b, .int .i64 h9]]) (by simp [results, Try.results50, go_sem, *]) rfl (HF.out.out2 (by omega) _ _ _)
          · go_wp2_with fail
            refine (pick_lt _ _ _ _ _ HS.out.2.2.2.2.1 (by omega) (by omega)).mono ?_
            rintro e w7 ⟨x7, rfl, u7, v7, h7, hg7⟩
            replace HS := Lib.hid (HS.out.grown hg7 h7)
            clear h7 hg7
            have h3 : x7 = 0 ∨ x7 = 1 ∨ x7 = 2 := by omega
            rcases h3 with rfl | rfl | rfl
            · go_wp2_with fail
              refine (block_any _ _ _ _ _ HS.out.2.2.2.2.1 (by omega) (by omega) (by omega)).mono ?_
              rintro e w8 ⟨m, Ab, kb, cb, ps, rfl, hl8, h48, _, _, hfr, hrow, h8, hg8⟩
              have hbase := HS.out.2.2.2.2.2.1.size
              have hz8 := hg8.size
              obtain ⟨v3, w3, hrun, ho3, hg3, _⟩ := append_block (w8.alloc (.cells #[.int .i64 m, .slice Ab kb cb] 87)) w.heap.size (.slice (some ⟨gd, 0, none⟩) (2 + k1) c) (2 + k1) m Ab kb cb (bv bs') w8.heap.size ((World.ownsRow.kept (by have := HS.out.2.2.1.1; rw [HS.out.2.1.1] at this; exact this) hg8 (.inr (by have := HG.out; simp [Value.ownBlock]; omega))).alloc _) (Blk.new w8 _ _) (by omega) (by simp only [size_alloc1]; omega)
              obtain ⟨A', c', rfl, hF⟩ := HS.out.block (Q' := P + 200) (by omega) (grown_alloc hg8 (.cells #[.int .i64 m, .slice Ab kb cb] 87)) ((h8.alloc _).more (by omega)) hl8 h48 hfr (hrow.alloc _).here ho3 hg3
              have HF := Lib.hid hF
              have HRUN := Lib.hid hrun
              clear hl8 h48 hfr hrow h8 hg8 ho3 hg3 hF hrun hbase hz8
              obtain ⟨z0, z1, z2⟩ := cells3 HF.out.1
              obtain ⟨d0, d1, d2⟩ := cells3 HF.out.2.2.2.1
              obtain ⟨f0, f1, f2⟩ := frozen3 HF.out.2.2.2.1
              have hVw := HF.out.2.2.2.2.2.2.2.1
              have na0 : w2.heap.size ≠ w.heap.size := by omega
              have nb0 : w.heap.size ≠ w2.heap.size := by omega
              go_wp2_with (first | (at_builtin; refine wpList_append_run _ rfl (.tmp 76) (.tmp 79) _ _ rfl _ _ rfl rfl HRUN.out ?_) | fail)
              refine wp_region_held_drew (S := (fun w' => w'.cell? ⟨w2.heap.size, 0, none⟩ = some (.int .i64 a) ∧ w'.cell? ⟨w2.heap.size, 1, none⟩ = some (.int .i64 b) ∧ w'.cell? ⟨w2.heap.size, 2, none⟩ = some (.int .i64 h9))) (by kernel_rfl) ?_ (fun hHeld => ?_)
              · exact ⟨z0, z1, z2⟩
              refine heldY 0 84 ?_
              refine heldY 1 85 ?_
              refine wpAnyH_ready (rs := [2]) (by kernel_rfl) (by simp) ?_
              refine AllReadyH.cons rfl (fun K hK => ?_) AllReadyH.nil
              go_simp
              refine hK.out _ _ ?_ (fun hHeld => ?_)
              · first | assumption | go_keep
              clear hK K
              try simp only [Act.put, List.setIfInBounds_toArray, List.set_cons_zero, List.set_cons_succ]
              refine wpAnyH_ready (rs := [3]) (by kernel_rfl) (by simp) ?_
              refine AllReadyH.cons rfl (fun K hK => ?_) AllReadyH.nil
              go_simp
              refine hK.out _ _ ?_ (fun hHeld => ?_)
              · first | assumption | go_keep
              clear hK K
              try simp only [Act.put, List.setIfInBounds_toArray, List.set_cons_zero, List.set_cons_succ]
              refine wpAnyH_done (by kernel_rfl) ?_ _
              go_wp2
              exact bodyPost_ret (v := .tuple #[.slice A' (2 + k1 + 1) c', .agg #[.int .i64 a, .int .i64 b, .int .i64 h9]]) (by simp [results, Try.results50, go_sem, *]) rfl (HF.out.out2 (by omega) _ _ _)
            · have HF := Lib.hid (((HS.out.kept (grown_alloc (grown_refl _ none) (.cells #[] 87))).dev (A1 := some ⟨w7.heap.size, 0, none⟩) (n1 := 0) (c1 := 0) (cs := []) rfl (by omega) (fun q hq => by simp at hq) ((dev_empty w7).base_le HS.out.2.2.2.2.2.1.size)).fin ⟨_, rfl⟩)
              clear HS
              obtain ⟨z0, z1, z2⟩ := cells3 HF.out.1
              obtain ⟨d0, d1, d2⟩ := cells3 HF.out.2.2.2.1
              obtain ⟨f0, f1, f2⟩ := frozen3 HF.out.2.2.2.1
              have hVw := HF.out.2.2.2.2.2.2.2.1
              have na0 : w2.heap.size ≠ w.heap.size := by omega
              have nb0 : w.heap.size ≠ w2.heap.size := by omega
              go_wp2_with fail
              refine wp_region_held_drew (S := (fun w' => w'.cell? ⟨w2.heap.size, 0, none⟩ = some (.int .i64 a) ∧ w'.cell? ⟨w2.heap.size, 1, none⟩ = some (.int .i64 b) ∧ w'.cell? ⟨w2.heap.size, 2, none⟩ = some (.int .i64 h9))) (by kernel_rfl) ?_ (fun hHeld => ?_)
              · exact ⟨z0, z1, z2⟩
              refine heldY 0 84 ?_
              refine heldY 1 85 ?_
              refine wpAnyH_ready (rs := [2]) (by kernel_rfl) (by simp) ?_
              refine AllReadyH.cons rfl (fun K hK => ?_) AllReadyH.nil
              go_simp
              refine hK.out _ _ ?_ (fun hHeld => ?_)
              · first | assumption | go_keep
              clear hK K
              try simp only [Act.put, List.setIfInBounds_toArray, List.set_cons_zero, List.set_cons_succ]
              refine wpAnyH_ready (rs := [3]) (by kernel_rfl) (by simp) ?_
              refine AllReadyH.cons rfl (fun K hK => ?_) AllReadyH.nil
              go_simp
              refine hK.out _ _ ?_ (fun hHeld => ?_)
              · first | assumption | go_keep
              clear hK K
              try simp only [Act.put, List.setIfInBounds_toArray, List.set_cons_zero, List.set_cons_succ]
              refine wpAnyH_done (by kernel_rfl) ?_ _
              go_wp2
              exact bodyPost_ret (v := .tuple #[.slice (some ⟨w7.heap.size, 0, none⟩) 0 0, .agg #[.int .i64 a, .int .i64 b, .int .i64 h9]]) (by simp [results, Try.results50, go_sem, *]) rfl (HF.out.out2 (by omega) _ _ _)
            · go_wp2_with fail
              go_loopw [6] (fun d wr => ∃ (k : Nat) (A : Option Addr) (c : Nat) (cs : List Bk), d = .slice A k c ∧ k ≤ 13 ∧ ESt w B g (P + 200) w2.heap.size A k c cs a b h9 wr) (fun d _ => 13 - lenV d)
              case atStart => exact ⟨_, _, _, _, rfl, by omega, HS.out.more (Q' := P + 200) (by omega)⟩
              case round =>
                obtain ⟨k, A9, c9, cs, rfl, hk13, hS⟩ := hrel
                clear HS
                have HS := Lib.hid hS
                clear hS
                by_cases hlt : k ≤ 12
                · have t1 : (k : Int) ≤ 12 := by omega
                  go_wp2_with fail
                  refine (specNewBlock_any _ _ (by decide)).mono ?_
                  rintro e w9 ⟨A1, d1, rfl, _, ho1, hk1⟩
                  have hbase := HS.out.2.2.2.2.2.1.size
                  obtain ⟨v3, w3, hrun, ho3, hg3, _⟩ := append_block (w9.alloc (.cells #[.int .i64 0, .slice A1 4 d1] 87)) w.heap.size (.slice A9 k c9) cs.length 0 A1 4 d1 (bv cs) w9.heap.size ((HS.out.2.2.1.keep hk1).keep (grown_alloc (grown_refl _ none) _)).1 (Blk.new w9 _ _) (by have := HS.out.2.1.1; omega) (by have h2 := hk1.size; simp only [size_alloc1]; omega)
                  have hp1 : Own (w9.alloc (.cells #[.int .i64 0, .slice A1 4 d1] 87)) wr.heap.size (.slice A1 4 d1) [pz, pz, pz, pz] := ho1.keep (grown_alloc (grown_refl _ none) _)
                  obtain ⟨A', c', rfl, hE⟩ := HS.out.push (by omega) (grown_trans hk1 (grown_alloc (grown_refl _ none) _)) hp1 (by have h1 := HS.out.2.1.1; rw [h1] at ho3; exact ho3) hg3
                  have HE := Lib.hid hE
                  have HRUN := Lib.hid hrun
                  clear ho1 hk1 ho3 hg3 hp1 hE hrun hbase
                  go_wp2_with (at_builtin; refine wpList_append_run _ rfl (.tmp 70) (.tmp 72) _ _ rfl _ _ rfl rfl HRUN.out ?_)
                  go_roundw
                  case rel => exact ⟨k + 1, A', c', _, rfl, by omega, HE.out⟩
                  case measure => (simp [lenV]) <;> omega
                · obtain rfl : k = 13 := by omega
                  rcases HS.out.2.2.1.form with ⟨_, e0⟩ | ⟨g9, _, e0, _⟩
                  · have := HS.out.2.1.1; rw [e0] at this; simp at this
                  have HF := Lib.hid (HS.out.fin ⟨_, (by injection e0)⟩)
                  clear e0 HS
                  obtain ⟨z0, z1, z2⟩ := cells3 HF.out.1
                  obtain ⟨d0, d1, d2⟩ := cells3 HF.out.2.2.2.1
                  obtain ⟨f0, f1, f2⟩ := frozen3 HF.out.2.2.2.1
                  have hVw := HF.out.2.2.2.2.2.2.2.1
                  have na0 : w2.heap.size ≠ w.heap.size := by omega
                  have nb0 : w.heap.size ≠ w2.heap.size := by omega
                  go_wp2_with fail
                  refine wp_region_held_drew (S := (fun w' => w'.cell? ⟨w2.heap.size, 0, none⟩ = some (.int .i64 a) ∧ w'.cell? ⟨w2.heap.size, 1, none⟩ = some (.int .i64 b) ∧ w'.cell? ⟨w2.heap.size, 2, none⟩ = some (.int .i64 h9))) (by kernel_rfl) ?_ (fun hHeld => ?_)
                  · exact ⟨z0, z1, z2⟩
                  refine heldY 0 84 ?_
                  refine heldY 1 85 ?_
                  refine wpAnyH_ready (rs := [2]) (by kernel_rfl) (by simp) ?_
                  refine AllReadyH.cons rfl (fun K hK => ?_) AllReadyH.nil
                  go_simp
                  refine hK.out _ _ ?_ (fun hHeld => ?_)
                  · first | assumption | go_keep
                  clear hK K
                  try simp only [Act.put, List.setIfInBounds_toArray, List.set_cons_zero, List.set_cons_succ]
                  refine wpAnyH_ready (rs := [3]) (by kernel_rfl) (by simp) ?_
                  refine AllReadyH.cons rfl (fun K hK => ?_) AllReadyH.nil
                  go_simp
                  refine hK.out _ _ ?_ (fun hHeld => ?_)
                  · first | assumption | go_keep
                  clear hK K
                  try simp only [Act.put, List.setIfInBounds_toArray, List.set_cons_zero, List.set_cons_succ]
                  refine wpAnyH_done (by kernel_rfl) ?_ _
                  go_wp2
                  exact bodyPost_ret (v := .tuple #[.slice A9 13 c9, .agg #[.int .i64 a, .int .i64 b, .int .i64 h9]]) (by simp [results, Try.results50, go_sem, *]) rfl (HF.out.out2 (by omega) _ _ _)
end Go.Proofs.Yteniikfgellhfaa
