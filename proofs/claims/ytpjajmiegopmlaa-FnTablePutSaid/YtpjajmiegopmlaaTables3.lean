/- What the model's l7Copy answers: a table in memory of its own. -/
import Derived.Test.YtpjajmiegopmlaaTables2
namespace Go.Proofs.Ytpjajmiegopmlaa
open Go.ChangeShapes Go.WideShapes Go.ChangeAt Go.RowKit
set_option linter.unusedSimpArgs false

theorem TOwn.any {w : World} {base n : Nat} {v : Value} {ls : List Li} (h : TOwn w base v ls) (hl : ls.length = n) : ∃ A c, v = .slice A n c := by
  subst hl
  rcases h.form with ⟨rfl, rfl⟩ | ⟨g, cap, e, _⟩
  · exact ⟨none, 0, rfl⟩
  · exact ⟨_, _, e⟩
/-- The loop that copies, at list k. -/
def CopyTab (w : World) (A : Option Addr) (c : Nat) (ls : List Li) (k : Nat) (wr : World) : Prop :=
  k ≤ ls.length ∧ ∃ (v : Value) (cs : List Li), cs.length = k ∧ ll cs = (ll ls).take k ∧ TOwn wr w.heap.size v cs ∧ Blk wr (w.heap.size + 1 + 1) 51 #[v] ∧ Blk wr (w.heap.size + 1) 51 #[.slice none 0 0] ∧ Blk wr w.heap.size 51 #[.slice A ls.length c] ∧ w.grownBy wr none
set_option maxHeartbeats 4000000 in
theorem specCopyTab_any (A : Option Addr) (n c : Nat) (ls : List Li) (w : World) (hl : ls.length = n) (hr : TRow w w.heap.size A ls) (hn : n ≤ 1000000) (hp : ∀ l, l ∈ ls → l.xs.length ≤ 1048576) :
    Calls Try.prog 94 #[.agg #[.slice A n c]] w (TabMade (ll ls) n w) := by
  subst hl
  have HR := Lib.hid (And.intro hr hp)
  have b1 := ((Blk.new w 51 #[.slice A ls.length c]).alloc (.cells #[.slice none 0 0] 51)).alloc (.cells #[.slice none 0 0] 51)
  have b2 := (Blk.new (w.alloc (.cells #[.slice A ls.length c] 51)) 51 #[.slice none 0 0]).alloc (.cells #[.slice none 0 0] 51)
  have b3 := Blk.new ((w.alloc (.cells #[.slice A ls.length c] 51)).alloc (.cells #[.slice none 0 0] 51)) 51 #[.slice none 0 0]
  simp only [size_alloc1] at b2 b3
  have HS := Lib.hid (And.intro b3 (And.intro b2 b1))
  clear hr hp b1 b2 b3
  go_enter Try.func94, Try.ntmps94
  go_wp2
  go_loopw [4] (fun i wr => ∃ k : Nat, i = .int .i64 k ∧ CopyTab w A c ls k wr) (fun i _ => ls.length - (intOf i).toNat)
  case atStart => exact ⟨0, rfl, Nat.zero_le _, .slice none 0 0, [], rfl, rfl, town_nil _ _, HS.out.1, HS.out.2.1, HS.out.2.2, grown_alloc (grown_alloc (grown_alloc (grown_refl _ _) _) _) _⟩
  case round =>
    clear HS
    obtain ⟨k, rfl, hk, v, cs, hcl, hcs, ho, hv, hz, hb, hg⟩ := hrel
    have b0 : wr.cell? ⟨w.heap.size, 0, none⟩ = some (.slice A ls.length c) := hb.cell 0
    have r0 : wr.cell? ⟨w.heap.size + 1 + 1, 0, none⟩ = some v := hv.cell 0
    by_cases hlt : k < ls.length
    · obtain ⟨g, off, Al, cl, xs, rfl, hgB, hgz, hfl, c0, hrow⟩ := (HR.out.1.kept hg).at_ hlt
      have hpl := HR.out.2 _ (List.mem_of_getElem? hfl)
      obtain ⟨A1, c1, w1, hr1, ho1, hg1⟩ := clone_ints (U := wr.drew) (c := cl) (VRow.drew hrow) rfl hpl
      have hg1' : wr.grownBy w1 none := grown_trans (grown_drew (grown_refl wr none)) hg1
      have hga : wr.grownBy (w1.alloc (.cells #[.slice A1 xs.length c1] 56)) none := grown_alloc hg1' _
      obtain ⟨v2, w2, hr2, ho2, hg2⟩ := push_list ho hg1' ho1 rfl hg.size (by omega)
      obtain ⟨g2, c2, rfl, _⟩ := ho2.head (n := k + 1) (by simp [hcl]) (by omega)
      have hG := grown_joinR (grown_trans hg hga) hg2 (fun g' e => (VOwn.lt ho.1 g' e).1)
      have kp : ∀ {V : Nat} {cc : Array Value}, Blk wr V 51 cc → Blk w2 V 51 cc := fun {V cc} h => ((h.keep hg1').alloc _).grown hg2 (TOwn.ne_blk ho h)
      have hv2 := kp hv
      have hz2 := kp hz
      have hb2 := kp hb
      have old : ∀ {w' : World}, wr.grownBy w' none → w'.cell? ⟨g, off + k, none⟩ = some (.slice Al xs.length cl) := fun {w'} h => (World.cell?_of_block (h.block g hgz (by simp))).trans c0
      have c5 : w2.cell? ⟨g, off + k, none⟩ = some (.slice Al xs.length cl) := (World.cell?_of_block (hg2.block g (Nat.lt_of_lt_of_le hgz hga.size) (fun e => by have := (VOwn.lt ho.1 g e.symm).1; omega))).trans (old hga)
      have gd : wr.grownBy wr.drew none := grown_drew (grown_refl wr none)
      have ne1 : (⟨w.heap.size + 1 + 1, 0, none⟩ : Addr) ≠ ⟨w.heap.size, 0, none⟩ := by simp
      have S1 := And.intro ((hb.keep (grown_alloc gd (.cells #[] 3))).cell 0) (old (grown_alloc gd (.cells #[] 3)))
      have S2 := And.intro ((hb.keep hg1').cell 0) (old hg1')
      have S3 := And.intro ((hb.keep hga).cell 0) (old hga)
      have S4 := And.intro (hb2.cell 0) c5
      have S5 := And.intro ((hb2.far (p := ⟨w.heap.size + 1 + 1, 0, none⟩) (by dsimp only; omega) (.slice (some ⟨g2, 0, none⟩) (k + 1) c2)).cell 0) (Eq.trans (World.cell?_setCell_other w2 ⟨w.heap.size + 1 + 1, 0, none⟩ ⟨g, off + k, none⟩ (.slice (some ⟨g2, 0, none⟩) (k + 1) c2) (fun e => by injection e with e; omega)) c5)
      have HSS := Lib.hid (And.intro S1 (And.intro S2 (And.intro S3 (And.intro S4 S5))))
      have r1 : ((wr.alloc (.cells #[] 3)).drew).cell? ⟨w.heap.size + 1 + 1, 0, none⟩ = some v := (hv.keep (grown_alloc gd (.cells #[] 3))).cell 0
      have r2 : w1.cell? ⟨w.heap.size + 1 + 1, 0, none⟩ = some v := (hv.keep hg1').cell 0
      have r3 : (w1.alloc (.cells #[.slice A1 xs.length c1] 56)).cell? ⟨w.heap.size + 1 + 1, 0, none⟩ = some v := (hv.keep hga).cell 0
      have s0 : w2.cell? ⟨w.heap.size + 1 + 1, 0, none⟩ = some v := hv2.cell 0
      have s1 : w2.frozen? ⟨w.heap.size + 1 + 1, 0, none⟩ = false := hv2.frozen 0
      have HR1 := Lib.hid hr1
      have HR2 := Lib.hid hr2
      have hx1 := take_at (ll_at hfl)
      have HX := Lib.hid (And.intro hcl (show ll (cs ++ [⟨A1, c1, xs⟩]) = (ll ls).take (k + 1) by rw [hx1, ll_append, hcs]; rfl))
      have HZ := Lib.hid (And.intro (ho2.put hv2 0 (.slice (some ⟨g2, 0, none⟩) (k + 1) c2)) (And.intro (hv2.put 0 (.slice (some ⟨g2, 0, none⟩) (k + 1) c2)) (And.intro (hz2.far (p := ⟨w.heap.size + 1 + 1, 0, none⟩) (by dsimp only; omega) (.slice (some ⟨g2, 0, none⟩) (k + 1) c2)) (And.intro (hb2.far (p := ⟨w.heap.size + 1 + 1, 0, none⟩) (by dsimp only; omega) (.slice (some ⟨g2, 0, none⟩) (k + 1) c2)) (grown_put hG (p := ⟨w.heap.size + 1 + 1, 0, none⟩) (by dsimp only; omega) (.slice (some ⟨g2, 0, none⟩) (k + 1) c2))))))
      have k0 : decide ((0 : Int) ≤ k) = true := decide_eq_true (by omega)
      have k1 : (k : Int) < ls.length := by omega
      clear hcl hcs ho hv hz hb hg hfl hrow hpl hr1 ho1 hg1 hg1' hga hr2 ho2 hg2 hG kp hv2 hz2 hb2 old c5 gd S1 S2 S3 S4 S5 hx1 hgB hgz
      go_wp2
      refine wp_region_held_drew (S := (fun w' => w'.cell? ⟨w.heap.size, 0, none⟩ = some (.slice (some ⟨g, off, none⟩) ls.length c) ∧ w'.cell? ⟨g, off + k, none⟩ = some (.slice Al xs.length cl))) (by kernel_rfl) ?_ (fun hHeld => ?_)
      · exact ⟨b0, c0⟩
      refine held_yes (i := 0) (d := some 13) (v := ?_) rfl rfl (by kernel_rfl) (by kernel_rfl) (by kernel_rfl) (fun _ _ _ h => h) (by rfl) ?_ (by assumption) ?_
      rotate_left
      · (intro w hSw; (try dsimp only at hSw); go_simp; (first | done | with_reducible rfl))
      try simp only [Act.put, List.setIfInBounds_toArray, List.set_cons_zero, List.set_cons_succ]
      refine held_yes (i := 3) (d := some 16) (v := ?_) rfl rfl (by kernel_rfl) (by kernel_rfl) (by kernel_rfl) (fun _ _ _ h => h) (by rfl) ?_ (by assumption) ?_
      rotate_left
      · (intro w hSw; (try dsimp only at hSw); go_simp; (first | done | with_reducible rfl))
      try simp only [Act.put, List.setIfInBounds_toArray, List.set_cons_zero, List.set_cons_succ]
      refine held_yes (i := 4) (d := some 17) (v := ?_) rfl rfl (by kernel_rfl) (by kernel_rfl) (by kernel_rfl) (fun _ _ _ h => h) (by rfl) ?_ (by assumption) ?_
      rotate_left
      · (intro w hSw; (try dsimp only at hSw); go_simp; (first | done | with_reducible rfl))
      try simp only [Act.put, List.setIfInBounds_toArray, List.set_cons_zero, List.set_cons_succ]
      refine held_yes (i := 5) (d := some 18) (v := ?_) rfl rfl (by kernel_rfl) (by kernel_rfl) (by kernel_rfl) (fun _ _ _ h => h) (by rfl) ?_ (by assumption) ?_
      rotate_left
      · (intro w hSw; (try dsimp only at hSw); go_simp; (first | done | with_reducible rfl))
      try simp only [Act.put, List.setIfInBounds_toArray, List.set_cons_zero, List.set_cons_succ]
      refine held_yes (i := 6) (d := some 19) (v := ?_) rfl rfl (by kernel_rfl) (by kernel_rfl) (by kernel_rfl) (fun _ _ _ h => h) (by rfl) ?_ (by assumption) ?_
      rotate_left
      · (intro w hSw; (try dsimp only at hSw); go_simp; (first | done | with_reducible rfl))
      try simp only [Act.put, List.setIfInBounds_toArray, List.set_cons_zero, List.set_cons_succ]
      refine held_yes (i := 7) (d := some 20) (v := ?_) rfl rfl (by kernel_rfl) (by kernel_rfl) (by kernel_rfl) (fun _ _ _ h => h) (by rfl) ?_ (by assumption) ?_
      rotate_left
      · (intro w hSw; (try dsimp only at hSw); go_simp; (first | done | with_reducible rfl))
      try simp only [Act.put, List.setIfInBounds_toArray, List.set_cons_zero, List.set_cons_succ]
      refine wpAnyH_ready (rs := [1, 2]) (by kernel_rfl) (by simp) ?_
      refine AllReadyH.cons rfl (fun K hK => ?_) (AllReadyH.cons rfl (fun K hK => ?_) AllReadyH.nil)
      · go_simp
        refine hK.out _ _ ?_ (fun hHeld => ?_)
        · with_reducible assumption
        clear hK K
        try simp only [Act.put, List.setIfInBounds_toArray, List.set_cons_zero, List.set_cons_succ]
        refine wpAnyH_ready (rs := [2]) (by kernel_rfl) (by simp) ?_
        refine AllReadyH.cons rfl (fun K hK => ?_) AllReadyH.nil
        go_simp
        refine hK.out _ _ ?_ (fun hHeld => ?_)
        · exact HSS.out.1
        clear hK K
        try simp only [Act.put, List.setIfInBounds_toArray, List.set_cons_zero, List.set_cons_succ]
        refine wpAnyH_ready (rs := [8]) (by kernel_rfl) (by simp) ?_
        refine AllReadyH.cons rfl (fun K hK => ?_) AllReadyH.nil
        refine step_append_run _ rfl (.tmp 15) (.tmp 20) 56 56 rfl _ _ rfl rfl HR1.out ?_
        refine hK.out _ _ ?_ (fun hHeld => ?_)
        · exact HSS.out.2.1
        clear hK K
        try simp only [Act.put, List.setIfInBounds_toArray, List.set_cons_zero, List.set_cons_succ]
        refine wpAnyH_ready (rs := [9]) (by kernel_rfl) (by simp) ?_
        refine AllReadyH.cons rfl (fun K hK => ?_) AllReadyH.nil
        go_simp
        refine hK.out _ _ ?_ (fun hHeld => ?_)
        · exact HSS.out.2.2.1
        clear hK K
        try simp only [Act.put, List.setIfInBounds_toArray, List.set_cons_zero, List.set_cons_succ]
        refine wpAnyH_ready (rs := [10]) (by kernel_rfl) (by simp) ?_
        refine AllReadyH.cons rfl (fun K hK => ?_) AllReadyH.nil
        refine step_append_run _ rfl (.tmp 14) (.tmp 22) 49 49 rfl _ _ rfl rfl HR2.out ?_
        refine hK.out _ _ ?_ (fun hHeld => ?_)
        · exact HSS.out.2.2.2.1
        clear hK K
        try simp only [Act.put, List.setIfInBounds_toArray, List.set_cons_zero, List.set_cons_succ]
        refine held_yes (i := 11) (d := some 24) (v := ?_) rfl rfl (by kernel_rfl) (by kernel_rfl) (by kernel_rfl) (fun _ _ _ h => h) (by rfl) ?_ (by assumption) ?_
        rotate_left
        · (intro w hSw; (try dsimp only at hSw); go_simp; (first | done | with_reducible rfl))
        try simp only [Act.put, List.setIfInBounds_toArray, List.set_cons_zero, List.set_cons_succ]
        refine wpAnyH_ready (rs := [12]) (by kernel_rfl) (by simp) ?_
        refine AllReadyH.cons rfl (fun K hK => ?_) AllReadyH.nil
        go_simp
        refine hK.out _ _ ?_ (fun hHeld => ?_)
        · exact HSS.out.2.2.2.2
        clear hK K
        try simp only [Act.put, List.setIfInBounds_toArray, List.set_cons_zero, List.set_cons_succ]
        refine wpAnyH_done (by kernel_rfl) ?_ _
        go_wp2
        go_roundw
        case rel => exact ⟨k + 1, by go_num, by omega, _, _, by simp [HX.out.1], HX.out.2, HZ.out⟩
        case measure => simp [intOf]; omega
      · go_simp
        refine hK.out _ _ ?_ (fun hHeld => ?_)
        · exact HSS.out.1
        clear hK K
        try simp only [Act.put, List.setIfInBounds_toArray, List.set_cons_zero, List.set_cons_succ]
        refine wpAnyH_ready (rs := [1, 8]) (by kernel_rfl) (by simp) ?_
        refine AllReadyH.cons rfl (fun K hK => ?_) (AllReadyH.cons rfl (fun K hK => ?_) AllReadyH.nil)
        · go_simp
          refine hK.out _ _ ?_ (fun hHeld => ?_)
          · with_reducible assumption
          clear hK K
          try simp only [Act.put, List.setIfInBounds_toArray, List.set_cons_zero, List.set_cons_succ]
          refine wpAnyH_ready (rs := [8]) (by kernel_rfl) (by simp) ?_
          refine AllReadyH.cons rfl (fun K hK => ?_) AllReadyH.nil
          refine step_append_run _ rfl (.tmp 15) (.tmp 20) 56 56 rfl _ _ rfl rfl HR1.out ?_
          refine hK.out _ _ ?_ (fun hHeld => ?_)
          · exact HSS.out.2.1
          clear hK K
          try simp only [Act.put, List.setIfInBounds_toArray, List.set_cons_zero, List.set_cons_succ]
          refine wpAnyH_ready (rs := [9]) (by kernel_rfl) (by simp) ?_
          refine AllReadyH.cons rfl (fun K hK => ?_) AllReadyH.nil
          go_simp
          refine hK.out _ _ ?_ (fun hHeld => ?_)
          · exact HSS.out.2.2.1
          clear hK K
          try simp only [Act.put, List.setIfInBounds_toArray, List.set_cons_zero, List.set_cons_succ]
          refine wpAnyH_ready (rs := [10]) (by kernel_rfl) (by simp) ?_
          refine AllReadyH.cons rfl (fun K hK => ?_) AllReadyH.nil
          refine step_append_run _ rfl (.tmp 14) (.tmp 22) 49 49 rfl _ _ rfl rfl HR2.out ?_
          refine hK.out _ _ ?_ (fun hHeld => ?_)
          · exact HSS.out.2.2.2.1
          clear hK K
          try simp only [Act.put, List.setIfInBounds_toArray, List.set_cons_zero, List.set_cons_succ]
          refine held_yes (i := 11) (d := some 24) (v := ?_) rfl rfl (by kernel_rfl) (by kernel_rfl) (by kernel_rfl) (fun _ _ _ h => h) (by rfl) ?_ (by assumption) ?_
          rotate_left
          · (intro w hSw; (try dsimp only at hSw); go_simp; (first | done | with_reducible rfl))
          try simp only [Act.put, List.setIfInBounds_toArray, List.set_cons_zero, List.set_cons_succ]
          refine wpAnyH_ready (rs := [12]) (by kernel_rfl) (by simp) ?_
          refine AllReadyH.cons rfl (fun K hK => ?_) AllReadyH.nil
          go_simp
          refine hK.out _ _ ?_ (fun hHeld => ?_)
          · exact HSS.out.2.2.2.2
          clear hK K
          try simp only [Act.put, List.setIfInBounds_toArray, List.set_cons_zero, List.set_cons_succ]
          refine wpAnyH_done (by kernel_rfl) ?_ _
          go_wp2
          go_roundw
          case rel => exact ⟨k + 1, by go_num, by omega, _, _, by simp [HX.out.1], HX.out.2, HZ.out⟩
          case measure => simp [intOf]; omega
        · refine step_append_run _ rfl (.tmp 15) (.tmp 20) 56 56 rfl _ _ rfl rfl HR1.out ?_
          refine hK.out _ _ ?_ (fun hHeld => ?_)
          · exact HSS.out.2.1
          clear hK K
          try simp only [Act.put, List.setIfInBounds_toArray, List.set_cons_zero, List.set_cons_succ]
          refine wpAnyH_ready (rs := [1, 9]) (by kernel_rfl) (by simp) ?_
          refine AllReadyH.cons rfl (fun K hK => ?_) (AllReadyH.cons rfl (fun K hK => ?_) AllReadyH.nil)
          · go_simp
            refine hK.out _ _ ?_ (fun hHeld => ?_)
            · with_reducible assumption
            clear hK K
            try simp only [Act.put, List.setIfInBounds_toArray, List.set_cons_zero, List.set_cons_succ]
            refine wpAnyH_ready (rs := [9]) (by kernel_rfl) (by simp) ?_
            refine AllReadyH.cons rfl (fun K hK => ?_) AllReadyH.nil
            go_simp
            refine hK.out _ _ ?_ (fun hHeld => ?_)
            · exact HSS.out.2.2.1
            clear hK K
            try simp only [Act.put, List.setIfInBounds_toArray, List.set_cons_zero, List.set_cons_succ]
            refine wpAnyH_ready (rs := [10]) (by kernel_rfl) (by simp) ?_
            refine AllReadyH.cons rfl (fun K hK => ?_) AllReadyH.nil
            refine step_append_run _ rfl (.tmp 14) (.tmp 22) 49 49 rfl _ _ rfl rfl HR2.out ?_
            refine hK.out _ _ ?_ (fun hHeld => ?_)
            · exact HSS.out.2.2.2.1
            clear hK K
            try simp only [Act.put, List.setIfInBounds_toArray, List.set_cons_zero, List.set_cons_succ]
            refine held_yes (i := 11) (d := some 24) (v := ?_) rfl rfl (by kernel_rfl) (by kernel_rfl) (by kernel_rfl) (fun _ _ _ h => h) (by rfl) ?_ (by assumption) ?_
            rotate_left
            · (intro w hSw; (try dsimp only at hSw); go_simp; (first | done | with_reducible rfl))
            try simp only [Act.put, List.setIfInBounds_toArray, List.set_cons_zero, List.set_cons_succ]
            refine wpAnyH_ready (rs := [12]) (by kernel_rfl) (by simp) ?_
            refine AllReadyH.cons rfl (fun K hK => ?_) AllReadyH.nil
            go_simp
            refine hK.out _ _ ?_ (fun hHeld => ?_)
            · exact HSS.out.2.2.2.2
            clear hK K
            try simp only [Act.put, List.setIfInBounds_toArray, List.set_cons_zero, List.set_cons_succ]
            refine wpAnyH_done (by kernel_rfl) ?_ _
            go_wp2
            go_roundw
            case rel => exact ⟨k + 1, by go_num, by omega, _, _, by simp [HX.out.1], HX.out.2, HZ.out⟩
            case measure => simp [intOf]; omega
          · go_simp
            refine hK.out _ _ ?_ (fun hHeld => ?_)
            · exact HSS.out.2.2.1
            clear hK K
            try simp only [Act.put, List.setIfInBounds_toArray, List.set_cons_zero, List.set_cons_succ]
            refine wpAnyH_ready (rs := [1]) (by kernel_rfl) (by simp) ?_
            refine AllReadyH.cons rfl (fun K hK => ?_) AllReadyH.nil
            go_simp
            refine hK.out _ _ ?_ (fun hHeld => ?_)
            · with_reducible assumption
            clear hK K
            try simp only [Act.put, List.setIfInBounds_toArray, List.set_cons_zero, List.set_cons_succ]
            refine wpAnyH_ready (rs := [10]) (by kernel_rfl) (by simp) ?_
            refine AllReadyH.cons rfl (fun K hK => ?_) AllReadyH.nil
            refine step_append_run _ rfl (.tmp 14) (.tmp 22) 49 49 rfl _ _ rfl rfl HR2.out ?_
            refine hK.out _ _ ?_ (fun hHeld => ?_)
            · exact HSS.out.2.2.2.1
            clear hK K
            try simp only [Act.put, List.setIfInBounds_toArray, List.set_cons_zero, List.set_cons_succ]
            refine held_yes (i := 11) (d := some 24) (v := ?_) rfl rfl (by kernel_rfl) (by kernel_rfl) (by kernel_rfl) (fun _ _ _ h => h) (by rfl) ?_ (by assumption) ?_
            rotate_left
            · (intro w hSw; (try dsimp only at hSw); go_simp; (first | done | with_reducible rfl))
            try simp only [Act.put, List.setIfInBounds_toArray, List.set_cons_zero, List.set_cons_succ]
            refine wpAnyH_ready (rs := [12]) (by kernel_rfl) (by simp) ?_
            refine AllReadyH.cons rfl (fun K hK => ?_) AllReadyH.nil
            go_simp
            refine hK.out _ _ ?_ (fun hHeld => ?_)
            · exact HSS.out.2.2.2.2
            clear hK K
            try simp only [Act.put, List.setIfInBounds_toArray, List.set_cons_zero, List.set_cons_succ]
            refine wpAnyH_done (by kernel_rfl) ?_ _
            go_wp2
            go_roundw
            case rel => exact ⟨k + 1, by go_num, by omega, _, _, by simp [HX.out.1], HX.out.2, HZ.out⟩
            case measure => simp [intOf]; omega
    · obtain rfl : k = ls.length := by omega
      have z0 : wr.cell? ⟨w.heap.size + 1, 0, none⟩ = some (.slice none 0 0) := hz.cell 0
      have z1 : wr.frozen? ⟨w.heap.size + 1, 0, none⟩ = false := hz.frozen 0
      obtain ⟨At, ct, rfl⟩ := ho.any hcl
      have HY := Lib.hid (And.intro hcl (And.intro hcs (And.intro (ho.put hz 0 (.slice At ls.length ct)) (grown_put hg (p := ⟨w.heap.size + 1, 0, none⟩) (by dsimp only; omega) (.slice At ls.length ct)))))
      clear hcl hcs ho hv hz hg
      go_wp2
      exact bodyPost_ret (v := .agg #[.slice At ls.length ct]) (by simp [results, Try.results94, go_sem, *]) rfl ⟨At, ct, cs, rfl, HY.out.1, HY.out.2.1.trans (List.take_of_length_le (by rw [ll_length]; omega)), HY.out.2.2.1, HY.out.2.2.2⟩
end Go.Proofs.Ytpjajmiegopmlaa
