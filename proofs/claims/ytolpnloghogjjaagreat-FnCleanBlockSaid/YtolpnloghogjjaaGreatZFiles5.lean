/- What the program's FileSize, FileHoles and CutFile answer.
   What the program's FileValues answers. -/
import Derived.Test.YtolpnloghogjjaaGreatZFiles
import Derived.Test.YtolpnloghogjjaaGreatZTables7
import Derived.Test.YtolpnloghogjjaaGreatZDevices6
import Derived.Test.YtolpnloghogjjaaGreatZHand
namespace Go.Proofs.YtolpnloghogjjaaGreat
open Go.ChangeShapes Go.WideShapes Go.ChangeAt Go.RowKit
set_option linter.unusedVariables false

theorem fileSize_no (A : Option Addr) (n c : Nat) (ls : List Li) (f : Int) (w : World) (hl : ls.length = n) (hr : TRow w w.heap.size A ls) (hn : n ≤ 1048576) (hp : ∀ l, l ∈ ls → l.xs.length ≤ 1048576) (hB : fileB (ll ls) f = false) :
    Calls Tryz.prog 50 #[.agg #[.slice A n c], .int .i64 f] w (KeptV (.int .i64 (-1)) w) := by
  have HT := Lib.hid (TIn.start hr n c)
  have HP := Lib.hid (And.intro hl hp)
  cases hv : tabB (ll ls)
  · have HV := Lib.hid (And.intro hv trivial)
    clear hl hr hp hv hB
    go_enter Tryz.func50, Tryz.ntmps50
    go_wp2_with fail
    refine (tabValid_val HV.out.1 HP.out.1 HT.out.2.1.here hn HP.out.2).mono ?_
    rintro e w1 ⟨rfl, hk⟩
    have HK := Lib.hid (HT.out.keep hk)
    clear hk
    go_wp2
    go_ret
    exact ⟨rfl, HK.out.2.2⟩
  · have hf : inB f 0 7 = false := by simpa [fileB, hv] using hB
    have HV := Lib.hid (And.intro hv hf)
    clear hl hr hp hv hf hB
    go_enter Tryz.func50, Tryz.ntmps50
    go_wp2_with fail
    refine (tabValid_val HV.out.1 HP.out.1 HT.out.2.1.here hn HP.out.2).mono ?_
    rintro e w1 ⟨rfl, hk⟩
    have HK := Lib.hid (HT.out.keep hk)
    clear hk
    go_wp2_with (go_at_call 49; refine (isFile_any _ _).mono ?_; rintro e w' ⟨rfl, rfl⟩; rw [HV.out.2])
    go_ret
    exact ⟨rfl, HK.out.2.2⟩
theorem tab_hole {xss : List (List Int)} {f k : Nat} {xs : List Int} {x : Int} (hv : tabB xss = true) (hx : xss[f]? = some xs) (hk : xs[k]? = some x) (h0 : ¬ 0 ≤ x) : x = -1 := by
  have := ((tabB_iff _).1 hv).inb f k x (cellO_of hx hk)
  omega
theorem fileSize_yes (A : Option Addr) (n c : Nat) (ls : List Li) (f : Nat) (xs : List Int) (w : World) (hl : ls.length = n) (hr : TRow w w.heap.size A ls) (hv : tabB (ll ls) = true) (hf : inB f 0 7 = true) (hx : (ll ls)[f]? = some xs) :
    Calls Tryz.prog 50 #[.agg #[.slice A n c], .int .i64 f] w (KeptV (.int .i64 (szAt xs 6 : Nat)) w) := by
  have hf7 : f < 8 := by have := inB_iff.1 hf; omega
  obtain ⟨h8, g, off, gx, ox, cl, xs', y, rfl, hll, h6, hy, hc⟩ := hr.open_ hv hf7 (show 0 < 6 by omega)
  have hn8 : n = 8 := by omega
  subst hn8
  have ex : xs' = xs := by have := ll_at hll; rw [hx] at this; injection this with this; exact this.symm
  subst ex
  have HT := Lib.hid (TIn.start hr 8 c)
  have HV := Lib.hid (And.intro hv (And.intro hf (And.intro hll (And.intro h6 (And.intro hl (And.intro (ll_six hv) (fun k x => tab_hole (k := k) (x := x) hv hx)))))))
  have f0 : decide ((0 : Int) ≤ f) = true := decide_eq_true (by omega)
  have f1 : (f : Int) < 8 := by omega
  clear hl hr hv hf hll hy h6 h8 hc hx
  go_enter Tryz.func50, Tryz.ntmps50
  go_wp2_with fail
  refine (tabValid_val HV.out.1 HV.out.2.2.2.2.1 HT.out.2.1.here (by omega) HV.out.2.2.2.2.2.1).mono ?_
  rintro e w1 ⟨rfl, hk⟩
  have HK := Lib.hid (HT.out.keep hk)
  clear hk
  have b0 : w1.cell? ⟨w.heap.size, 0, none⟩ = some (.slice (some ⟨g, off, none⟩) 8 c) := HK.out.1.cell 0
  have c0 := HK.out.2.1.cellf HV.out.2.2.1 HV.out.2.2.2.1
  go_wp2_with (go_at_call 49; refine (isFile_any _ _).mono ?_; rintro e w' ⟨rfl, rfl⟩; rw [HV.out.2.1])
  go_loopw [5, 22] (fun s i wr => ∃ k : Nat, i = .int .i64 k ∧ s = .int .i64 (szAt xs' k : Nat) ∧ k ≤ 6 ∧ TIn w (some ⟨g, off, none⟩) 8 c ls wr) (fun _ i _ => 6 - (intOf i).toNat)
  case atStart => exact ⟨0, rfl, rfl, Nat.zero_le _, HK.out⟩
  case round =>
    rename World => wq
    obtain ⟨k, rfl, rfl, hk6, hT⟩ := hrel
    clear b0 c0
    have HX := Lib.hid hT
    by_cases hk : k < 6
    · have k1 : (k : Int) < 6 := by omega
      have k0 : decide ((0 : Int) ≤ k) = true := decide_eq_true (by omega)
      obtain ⟨gx', ox', e⟩ := IRow.pos (hT.2.1.inner HV.out.2.2.1) (by show 0 < xs'.length; have := HV.out.2.2.2.1; omega)
      dsimp only at e
      injection e with e
      injection e with e1 e2
      subst e1; subst e2
      obtain ⟨x, hx⟩ : ∃ x, xs'[k]? = some x := ⟨_, List.getElem?_eq_getElem (by have := HV.out.2.2.2.1; omega)⟩
      have d0 := (hT.2.1.inner HV.out.2.2.1).cellf hx
      by_cases hx0 : 0 ≤ x
      · have e1 : (x == -1) = false := by rw [beq_eq_false_iff_ne]; omega
        have e2 : (x != -1) = true := by simp [bne, e1]
        have HS := Lib.hid (szAt_yes hx hx0)
        clear hT hx HK HT
        go_wp2
        go_roundw
        case rel => exact ⟨k + 1, by go_num, by rw [HS.out]; go_num, by omega, HX.out⟩
        case measure => simp [intOf]; omega
      · obtain rfl := HV.out.2.2.2.2.2.2 k x hx (by omega)
        have HS := Lib.hid (szAt_no hx hx0)
        clear hT hx HK HT
        go_wp2
        go_roundw
        case rel => exact ⟨k + 1, by go_num, by rw [HS.out], by omega, HX.out⟩
        case measure => simp [intOf]; omega
    · obtain rfl : k = 6 := by omega
      clear hT HK HT
      go_wp2
      go_ret
      exact ⟨rfl, HX.out.2.2⟩
theorem fileSize_any (A : Option Addr) (n c : Nat) (ls : List Li) (f : Int) (w : World) (hl : ls.length = n) (hr : TRow w w.heap.size A ls) (hn : n ≤ 1048576) (hp : ∀ l, l ∈ ls → l.xs.length ≤ 1048576) :
    Calls Tryz.prog 50 #[.agg #[.slice A n c], .int .i64 f] w (KeptV (.int .i64 (fsizeV (ll ls) f)) w) := by
  cases hB : fileB (ll ls) f
  · rw [fsize_no hB]
    exact fileSize_no A n c ls f w hl hr hn hp hB
  · obtain ⟨hv, hf⟩ := file_is hB
    obtain ⟨k, rfl, hk⟩ := inB_nat (m := 7) hf
    have h8 := ((tabB_iff _).1 hv).len
    have hx := List.getElem?_eq_getElem (l := ll ls) (i := k) (by omega)
    rw [fsize_at hB hx]
    exact fileSize_yes A n c ls k _ w hl hr hv hf hx
theorem fileSize_val {A : Option Addr} {n c : Nat} {ls : List Li} {f V : Int} {w : World} (hV : fsizeV (ll ls) f = V) (hl : ls.length = n) (hr : TRow w w.heap.size A ls) (hn : n ≤ 1048576) (hp : ∀ l, l ∈ ls → l.xs.length ≤ 1048576) :
    Calls Tryz.prog 50 #[.agg #[.slice A n c], .int .i64 f] w (KeptV (.int .i64 V) w) := hV ▸ fileSize_any A n c ls f w hl hr hn hp
end Go.Proofs.YtolpnloghogjjaaGreat
namespace Go.Proofs.YtolpnloghogjjaaGreat
open Go.ChangeShapes Go.WideShapes Go.ChangeAt Go.RowKit Go.Deep
set_option linter.unusedVariables false

theorem read_one (A : Option Addr) (n c : Nat) (bs : List Bk) (a : Int) (w : World) (hl : bs.length = n) (hr : DRow w w.heap.size A bs) (hn : n ≤ 1048576) (hp : ∀ b, b ∈ bs → b.ps.length ≤ 1048576) :
    Calls Tryz.prog 97 #[.slice A n c, .int .i64 a] w (PageRead (readV bs a) w) := by
  cases hd : devB bs
  · rw [readV_no hd]
    exact readPage_no A n c bs a w hl hr hn hp hd
  · obtain ⟨_, hall⟩ := dev_parts hd
    have h4 : ∀ b, b ∈ bs → b.ps.length = 4 := fun b hm => (block_parts (hall b hm)).2.1
    cases ha : hasP n a
    · have e : readV bs a = pz := by
        unfold readV
        rw [if_pos hd]
        split
        · rename_i h0
          have h1 : 4 * bs.length ≤ a.toNat := by
            rcases Nat.lt_or_ge a.toNat (4 * bs.length) with h2 | h2
            · have : hasP n a = true := by simp [hasP]; omega
              rw [ha] at this
              cases this
            · exact h2
          have : pageAt bs a.toNat = none := by rw [← allP_at h4]; exact List.getElem?_eq_none (by rw [allP_length h4]; omega)
          rw [this]
          rfl
        · rfl
      rw [e]
      exact readPage_out A n c bs a w hl hr hn hp hd ha
    · obtain ⟨h0, h1⟩ : 0 ≤ a ∧ a < 4 * (n : Int) := by simpa [hasP] using ha
      obtain ⟨k, rfl⟩ := Int.eq_ofNat_of_zero_le h0
      obtain ⟨p, hp'⟩ := page_some h4 (a := k) (by omega)
      have e : readV bs (k : Int) = p := by
        unfold readV
        rw [if_pos hd, if_pos h0, Int.toNat_natCast, hp']
        rfl
      rw [e]
      exact readPage_at A n c bs k p w hl hr hd hp'
theorem read_v {A : Option Addr} {n c : Nat} {bs : List Bk} {a : Int} {p : Pg} {w : World} (h : readV bs a = p) (hl : bs.length = n) (hr : DRow w w.heap.size A bs) (hn : n ≤ 1048576) (hp : ∀ b, b ∈ bs → b.ps.length ≤ 1048576) :
    Calls Tryz.prog 97 #[.slice A n c, .int .i64 a] w (PageRead p w) := h ▸ read_one A n c bs a w hl hr hn hp
/-- A page is told, and whether it is written, of a file and a place. -/
def OwnRead (p : Pg) (f k : Int) (w : World) (e : Ending) (w' : World) : Prop := e = .returned (.tuple #[.agg #[.bool p.f, .int .i64 p.a, .int .i64 p.b, .int .i64 p.c, .int .i64 p.d], .bool (p.f && (p.a == f) && (p.b == k))]) ∧ w.grownBy w' none
set_option maxHeartbeats 2000000 in
theorem readOwn_any (D : Option Addr) (nd cd : Nat) (bs : List Bk) (x f k : Int) (p : Pg) (w : World) (hV : readV bs x = p) (hl : bs.length = nd) (hr : DRow w w.heap.size D bs) (hn : nd ≤ 1048576) (hp : ∀ b, b ∈ bs → b.ps.length ≤ 1048576) :
    Calls Tryz.prog 51 #[.slice D nd cd, .int .i64 x, .int .i64 f, .int .i64 k] w (OwnRead p f k w) := by
  have HD := Lib.hid (And.intro hV (And.intro hl (And.intro (hr.alloc (.cells #[.bool false, .int .i64 0, .int .i64 0, .int .i64 0, .int .i64 0] 72)) hp)))
  clear hV hl hr hp
  go_enter Tryz.func51, Tryz.ntmps51
  go_wp2_with fail
  refine (read_v HD.out.1 HD.out.2.1 HD.out.2.2.1.here hn HD.out.2.2.2).mono ?_
  rintro e w1 ⟨rfl, hk⟩
  obtain ⟨pf, pa, pb, pc, pd⟩ := p
  dsimp only
  have hb := (Blk.new w 72 #[.bool false, .int .i64 0, .int .i64 0, .int .i64 0, .int .i64 0]).keep hk
  have hlt := hb.lt
  have hG := grown_trans (grown_alloc (grown_refl w none) (.cells #[.bool false, .int .i64 0, .int .i64 0, .int .i64 0, .int .i64 0] 72)) hk
  have K2 := grown_alloc (grown_refl w1 none) (.cells #[.bool pf, .int .i64 pa, .int .i64 pb, .int .i64 pc, .int .i64 pd] 72)
  have hN := Blk.new w1 72 #[.bool pf, .int .i64 pa, .int .i64 pb, .int .i64 pc, .int .i64 pd]
  have HN := Lib.hid hN
  have hb2 := hb.keep K2
  obtain ⟨s0, s1, s2, s3, s4⟩ := cells5 hN
  obtain ⟨r0, r1, r2, r3, r4⟩ := cells5 hb2
  have q0 := hb2.frozen 0
  have q1 := hb2.frozen 1
  have q2 := hb2.frozen 2
  have q3 := hb2.frozen 3
  have q4 := hb2.frozen 4
  have u1 : w.heap.size ≠ w1.heap.size := by omega
  have u2 : w1.heap.size ≠ w.heap.size := by omega
  have HM := Lib.hid (hN.put5 u2 (.bool pf) (.int .i64 pa) (.int .i64 pb) (.int .i64 pc) (.int .i64 pd))
  have HG := Lib.hid (grown_put5n (grown_trans hG K2) (Nat.le_refl w.heap.size) (.bool pf) (.int .i64 pa) (.int .i64 pb) (.int .i64 pc) (.int .i64 pd))
  clear hb hb2 hN hk hG K2 hlt
  go_wp2_with fail
  cases pf
  · refine wp_region_held_drew (S := (fun w' => w'.cell? ⟨w1.heap.size, 0, none⟩ = some (.bool false) ∧ w'.cell? ⟨w1.heap.size, 1, none⟩ = some (.int .i64 pa) ∧ w'.cell? ⟨w1.heap.size, 2, none⟩ = some (.int .i64 pb) ∧ w'.cell? ⟨w1.heap.size, 3, none⟩ = some (.int .i64 pc) ∧ w'.cell? ⟨w1.heap.size, 4, none⟩ = some (.int .i64 pd))) (by kernel_rfl) ?_ (fun hHeld => ?_)
    · exact cells5 HN.out
    refine heldY 0 18 ?_
    refine heldY 1 19 ?_
    refine heldY 2 20 ?_
    refine heldN 3 21 ?_
    refine heldN 4 22 ?_
    refine heldN 5 23 ?_
    refine heldN 6 24 ?_
    refine heldY 7 25 ?_
    refine heldY 8 26 ?_
    refine heldN 9 27 ?_
    refine heldN 10 28 ?_
    refine heldN 11 29 ?_
    refine heldN 12 30 ?_
    refine heldY 13 31 ?_
    refine wpAnyH_ready (rs := [14]) (by kernel_rfl) (by simp) ?_
    refine AllReadyH.cons rfl (fun K hK => ?_) AllReadyH.nil
    go_simp
    refine hK.out _ _ ?_ (fun hHeld => ?_)
    · exact cells5 HM.out.drew
    clear hK K
    try simp only [Act.put, List.setIfInBounds_toArray, List.set_cons_zero, List.set_cons_succ]
    refine wpAnyH_ready (rs := [15]) (by kernel_rfl) (by simp) ?_
    refine AllReadyH.cons rfl (fun K hK => ?_) AllReadyH.nil
    go_simp
    refine hK.out _ _ ?_ (fun hHeld => ?_)
    · with_reducible assumption
    clear hK K
    try simp only [Act.put, List.setIfInBounds_toArray, List.set_cons_zero, List.set_cons_succ]
    refine wpAnyH_done (by kernel_rfl) ?_ _
    go_wp2
    exact bodyPost_ret (v := .tuple #[.agg #[.bool false, .int .i64 pa, .int .i64 pb, .int .i64 pc, .int .i64 pd], .bool false]) (by simp [results, Tryz.results51, go_sem, *]) rfl ⟨rfl, grown_drew HG.out⟩
  · cases ea : (pa == f)
    · refine wp_region_held_drew (S := (fun w' => w'.cell? ⟨w1.heap.size, 0, none⟩ = some (.bool true) ∧ w'.cell? ⟨w1.heap.size, 1, none⟩ = some (.int .i64 pa) ∧ w'.cell? ⟨w1.heap.size, 2, none⟩ = some (.int .i64 pb) ∧ w'.cell? ⟨w1.heap.size, 3, none⟩ = some (.int .i64 pc) ∧ w'.cell? ⟨w1.heap.size, 4, none⟩ = some (.int .i64 pd))) (by kernel_rfl) ?_ (fun hHeld => ?_)
      · exact cells5 HN.out
      refine heldY 0 18 ?_
      refine heldY 1 19 ?_
      refine heldY 2 20 ?_
      refine heldY 3 21 ?_
      refine heldY 4 22 ?_
      refine heldY 5 23 ?_
      refine heldY 6 24 ?_
      refine heldY 7 25 ?_
      refine heldY 8 26 ?_
      refine heldN 9 27 ?_
      refine heldN 10 28 ?_
      refine heldN 11 29 ?_
      refine heldN 12 30 ?_
      refine heldY 13 31 ?_
      refine wpAnyH_ready (rs := [14]) (by kernel_rfl) (by simp) ?_
      refine AllReadyH.cons rfl (fun K hK => ?_) AllReadyH.nil
      go_simp
      refine hK.out _ _ ?_ (fun hHeld => ?_)
      · exact cells5 HM.out.drew
      clear hK K
      try simp only [Act.put, List.setIfInBounds_toArray, List.set_cons_zero, List.set_cons_succ]
      refine wpAnyH_ready (rs := [15]) (by kernel_rfl) (by simp) ?_
      refine AllReadyH.cons rfl (fun K hK => ?_) AllReadyH.nil
      go_simp
      refine hK.out _ _ ?_ (fun hHeld => ?_)
      · with_reducible assumption
      clear hK K
      try simp only [Act.put, List.setIfInBounds_toArray, List.set_cons_zero, List.set_cons_succ]
      refine wpAnyH_done (by kernel_rfl) ?_ _
      go_wp2
      exact bodyPost_ret (v := .tuple #[.agg #[.bool true, .int .i64 pa, .int .i64 pb, .int .i64 pc, .int .i64 pd], .bool false]) (by simp [results, Tryz.results51, go_sem, *]) rfl ⟨by simp [ea], grown_drew HG.out⟩
    · refine wp_region_held_drew (S := (fun w' => w'.cell? ⟨w1.heap.size, 0, none⟩ = some (.bool true) ∧ w'.cell? ⟨w1.heap.size, 1, none⟩ = some (.int .i64 pa) ∧ w'.cell? ⟨w1.heap.size, 2, none⟩ = some (.int .i64 pb) ∧ w'.cell? ⟨w1.heap.size, 3, none⟩ = some (.int .i64 pc) ∧ w'.cell? ⟨w1.heap.size, 4, none⟩ = some (.int .i64 pd))) (by kernel_rfl) ?_ (fun hHeld => ?_)
      · exact cells5 HN.out
      refine heldY 0 18 ?_
      refine heldY 1 19 ?_
      refine heldY 2 20 ?_
      refine heldY 3 21 ?_
      refine heldY 4 22 ?_
      refine heldY 5 23 ?_
      refine heldY 6 24 ?_
      refine heldY 7 25 ?_
      refine heldY 8 26 ?_
      refine heldY 9 27 ?_
      refine heldY 10 28 ?_
      refine heldY 11 29 ?_
      refine heldY 12 30 ?_
      refine heldY 13 31 ?_
      refine wpAnyH_ready (rs := [14]) (by kernel_rfl) (by simp) ?_
      refine AllReadyH.cons rfl (fun K hK => ?_) AllReadyH.nil
      go_simp
      refine hK.out _ _ ?_ (fun hHeld => ?_)
      · exact cells5 HM.out.drew
      clear hK K
      try simp only [Act.put, List.setIfInBounds_toArray, List.set_cons_zero, List.set_cons_succ]
      refine wpAnyH_ready (rs := [15]) (by kernel_rfl) (by simp) ?_
      refine AllReadyH.cons rfl (fun K hK => ?_) AllReadyH.nil
      go_simp
      refine hK.out _ _ ?_ (fun hHeld => ?_)
      · with_reducible assumption
      clear hK K
      try simp only [Act.put, List.setIfInBounds_toArray, List.set_cons_zero, List.set_cons_succ]
      refine wpAnyH_done (by kernel_rfl) ?_ _
      go_wp2
      exact bodyPost_ret (v := .tuple #[.agg #[.bool true, .int .i64 pa, .int .i64 pb, .int .i64 pc, .int .i64 pd], .bool (pb == k)]) (by simp [results, Tryz.results51, go_sem, *]) rfl ⟨by simp [ea], grown_drew HG.out⟩
theorem ext_vals {l : List Int} {z k : Nat} (hl : l.length = k) (hk : k < z) (v : Int) : (l ++ List.replicate (z - k) 0).set k v = (l ++ [v]) ++ List.replicate (z - (k + 1)) 0 := by
  rw [List.set_append_right _ _ (by omega), hl, Nat.sub_self, show z - k = (z - (k + 1)) + 1 by omega, List.replicate_succ, List.set_cons_zero, List.append_assoc]
  rfl
theorem ext_hole {l : List Int} {z k : Nat} (hk : k < z) : l ++ List.replicate (z - k) (0 : Int) = (l ++ [0]) ++ List.replicate (z - (k + 1)) 0 := by
  rw [show z - k = (z - (k + 1)) + 1 by omega, List.replicate_succ, List.append_assoc]
  rfl
/-- No numbers. -/
theorem imade2_none {w w' : World} (h : w.grownBy w' none) : IMade2 [] false w (.returned (.tuple #[.slice none 0 0, .bool false])) w' := ⟨none, 0, 0, rfl, rfl, World.ownsRow_nil _ _ _ _, h⟩
theorem fileValues_no (D : Option Addr) (nd cd : Nat) (bs : List Bk) (A : Option Addr) (n c : Nat) (ls : List Li) (f : Int) (w : World) (hld : bs.length = nd) (hrd : DRow w w.heap.size D bs) (hnd : nd ≤ 1048576) (hpd : ∀ b, b ∈ bs → b.ps.length ≤ 1048576) (hl : ls.length = n) (hr : TRow w w.heap.size A ls) (hn : n ≤ 1048576) (hp : ∀ l, l ∈ ls → l.xs.length ≤ 1048576) (hB : (devB bs && fileB (ll ls) f) = false) :
    Calls Tryz.prog 11 #[.slice D nd cd, .agg #[.slice A n c], .int .i64 f] w (IMade2 [] false w) := by
  have HT := Lib.hid (show VIn w A n c ls D bs _ from ⟨TIn.start hr n c, hrd.alloc _⟩)
  cases hd : devB bs
  · have HP := Lib.hid (And.intro hld (And.intro hpd hd))
    clear hl hr hp hd hld hrd hpd hB
    go_enter Tryz.func11, Tryz.ntmps11
    go_wp2_with fail
    refine (deviceValid_val HP.out.1 HP.out.2.2 _ HT.out.2.here hnd HP.out.2.1).mono ?_
    rintro e w1 ⟨rfl, hk⟩
    have HK := Lib.hid (HT.out.keep hk)
    clear hk
    go_wp2
    exact bodyPost_ret (v := .tuple #[.slice none 0 0, .bool false]) (by simp [results, Tryz.results11, go_sem, *]) rfl (imade2_none HK.out.1.2.2)
  · rw [hd, Bool.true_and] at hB
    have HP := Lib.hid (And.intro hld (And.intro hpd hd))
    cases hv : tabB (ll ls)
    · have HQ := Lib.hid (And.intro hl (And.intro hp hv))
      clear hl hr hp hd hld hrd hpd hB hv
      go_enter Tryz.func11, Tryz.ntmps11
      go_wp2_with fail
      refine (deviceValid_val HP.out.1 HP.out.2.2 _ HT.out.2.here hnd HP.out.2.1).mono ?_
      rintro e w1 ⟨rfl, hk⟩
      have HK := Lib.hid (HT.out.keep hk)
      have b0 : w1.cell? ⟨w.heap.size, 0, none⟩ = some (.slice A n c) := HK.out.1.1.cell 0
      clear hk
      go_wp2_with fail
      refine (tabValid_val HQ.out.2.2 HQ.out.1 HK.out.1.2.1.here hn HQ.out.2.1).mono ?_
      rintro e w2 ⟨rfl, hk⟩
      have HF := Lib.hid (HK.out.keep hk)
      clear hk b0
      go_wp2
      exact bodyPost_ret (v := .tuple #[.slice none 0 0, .bool false]) (by simp [results, Tryz.results11, go_sem, *]) rfl (imade2_none HF.out.1.2.2)
    · have hf : inB f 0 7 = false := by simpa [fileB, hv] using hB
      have HQ := Lib.hid (And.intro hl (And.intro hp (And.intro hv hf)))
      clear hl hr hp hd hld hrd hpd hB hv hf
      go_enter Tryz.func11, Tryz.ntmps11
      go_wp2_with fail
      refine (deviceValid_val HP.out.1 HP.out.2.2 _ HT.out.2.here hnd HP.out.2.1).mono ?_
      rintro e w1 ⟨rfl, hk⟩
      have HK := Lib.hid (HT.out.keep hk)
      have b0 : w1.cell? ⟨w.heap.size, 0, none⟩ = some (.slice A n c) := HK.out.1.1.cell 0
      clear hk
      go_wp2_with fail
      refine (tabValid_val HQ.out.2.2.1 HQ.out.1 HK.out.1.2.1.here hn HQ.out.2.1).mono ?_
      rintro e w2 ⟨rfl, hk⟩
      have HF := Lib.hid (HK.out.keep hk)
      clear hk b0
      go_wp2_with (go_at_call 49; refine (isFile_any _ _).mono ?_; rintro e w' ⟨rfl, rfl⟩; rw [HQ.out.2.2.2])
      exact bodyPost_ret (v := .tuple #[.slice none 0 0, .bool false]) (by simp [results, Tryz.results11, go_sem, *]) rfl (imade2_none HF.out.1.2.2)
set_option maxHeartbeats 2000000 in
theorem fileValues_yes (D : Option Addr) (nd cd : Nat) (bs : List Bk) (A : Option Addr) (n c : Nat) (ls : List Li) (f : Nat) (xs : List Int) (w : World) (hld : bs.length = nd) (hrd : DRow w w.heap.size D bs) (hnd : nd ≤ 1048576) (hpd : ∀ b, b ∈ bs → b.ps.length ≤ 1048576) (hl : ls.length = n) (hr : TRow w w.heap.size A ls) (hd : devB bs = true) (hv : tabB (ll ls) = true) (hf : inB f 0 7 = true) (hx : (ll ls)[f]? = some xs) :
    Calls Tryz.prog 11 #[.slice D nd cd, .agg #[.slice A n c], .int .i64 f] w (IMade2 (fvalV bs (ll ls) f).1 (fvalV bs (ll ls) f).2 w) := by
  have hf7 : f < 8 := by have := inB_iff.1 hf; omega
  obtain ⟨h8, g, off, gx, ox, cl, xs', y, rfl, hll, h6, hy, hc⟩ := hr.open_ hv hf7 (show 0 < 6 by omega)
  have hn8 : n = 8 := by omega
  subst hn8
  have ex : xs' = xs := by have := ll_at hll; rw [hx] at this; injection this with this; exact this.symm
  subst ex
  have HT := Lib.hid (show VIn w (some ⟨g, off, none⟩) 8 c ls D bs _ from ⟨TIn.start hr 8 c, hrd.alloc _⟩)
  have HP := Lib.hid (And.intro hld (And.intro hpd hd))
  have HR := Lib.hid (And.intro (fun l => fval_some (l := l) hd (file_yes hv hf) hx) (fval_none hd (file_yes hv hf) hx))
  have HV := Lib.hid (And.intro (fsize_at (file_yes hv hf) hx) (And.intro (fun k x => tab_hole (k := k) (x := x) hv hx) (And.intro hll (And.intro h6 (And.intro hl (And.intro (ll_six hv) (And.intro hv hf)))))))
  have f0 : decide ((0 : Int) ≤ f) = true := decide_eq_true (by omega)
  have f1 : (f : Int) < 8 := by omega
  obtain ⟨z, hz⟩ : ∃ z, z = szAt xs' 6 := ⟨_, rfl⟩
  have hz6 := szAt_le xs' 6
  rw [← hz] at HV HR hz6
  clear hl hr hld hrd hpd hd hv hf hll hy h6 h8 hc hx hz
  go_enter Tryz.func11, Tryz.ntmps11
  go_wp2_with fail
  refine (deviceValid_val HP.out.1 HP.out.2.2 _ HT.out.2.here hnd HP.out.2.1).mono ?_
  rintro e w1 ⟨rfl, hk⟩
  have HK := Lib.hid (HT.out.keep hk)
  have b0 : w1.cell? ⟨w.heap.size, 0, none⟩ = some (.slice (some ⟨g, off, none⟩) 8 c) := HK.out.1.1.cell 0
  clear hk
  go_wp2_with fail
  refine (tabValid_val HV.out.2.2.2.2.2.2.1 HV.out.2.2.2.2.1 HK.out.1.2.1.here (by omega) HV.out.2.2.2.2.2.1).mono ?_
  rintro e w2 ⟨rfl, hk⟩
  have HF := Lib.hid (HK.out.keep hk)
  clear hk b0
  have b0 : w2.cell? ⟨w.heap.size, 0, none⟩ = some (.slice (some ⟨g, off, none⟩) 8 c) := HF.out.1.1.cell 0
  go_wp2_with (first | (go_at_call 49; refine (isFile_any _ _).mono ?_; rintro e w' ⟨rfl, rfl⟩; rw [HV.out.2.2.2.2.2.2.2]) | fail)
  refine (fileSize_val HV.out.1 HV.out.2.2.2.2.1 HF.out.1.2.1.here (by omega) HV.out.2.2.2.2.2.1).mono ?_
  rintro e w3 ⟨rfl, hk⟩
  have hT3 := HF.out.keep hk
  have hmk := make_ints w3 z (by omega)
  have hi0 := iown_made w3 w.heap.size z hT3.1.2.2.size (by simp only [maxLen]; omega)
  have HG := Lib.hid (And.intro (hT3.keep (grown_alloc (grown_refl w3 none) (.cells (madeCells #[.int .i64 0] z) 3))) hi0)
  clear hk b0 hT3 hi0 HT HK HF
  go_wp2
  go_loopw [9] (fun i wr => ∃ (k : Nat) (l : List Int), i = .int .i64 k ∧ k ≤ z ∧ valsTo bs xs' f k = some l ∧ IOwn wr w.heap.size (.slice (some ⟨w3.heap.size, 0, none⟩) z z) (l ++ List.replicate (z - k) 0) ∧ VIn w (some ⟨g, off, none⟩) 8 c ls D bs wr) (fun i _ => z - (intOf i).toNat)
  case atStart => exact ⟨0, [], rfl, Nat.zero_le _, rfl, HG.out.2, HG.out.1⟩
  case round =>
    rename World => wq
    obtain ⟨k, l, rfl, hk, hvl, hi, hT⟩ := hrel
    have HX := Lib.hid (And.intro hvl (And.intro hi hT))
    have b0 : wq.cell? ⟨w.heap.size, 0, none⟩ = some (.slice (some ⟨g, off, none⟩) 8 c) := hT.1.1.cell 0
    clear hvl hi hT HG hmk
    by_cases hkz : k < z
    · have e1 : (k : Int) < (z : Int) := by omega
      have k0 : decide ((0 : Int) ≤ k) = true := decide_eq_true (by omega)
      have k1 : (k : Int) < 6 := by omega
      obtain ⟨x, hx⟩ : ∃ x, xs'[k]? = some x := ⟨_, List.getElem?_eq_getElem (by have := HV.out.2.2.2.1; omega)⟩
      have c0 := HX.out.2.2.1.2.1.cellf HV.out.2.2.1 HV.out.2.2.2.1
      have c1 := (HX.out.2.2.1.2.1.inner HV.out.2.2.1).cellf hx
      by_cases hx0 : 0 ≤ x
      · have e2 : (x == -1) = false := by rw [beq_eq_false_iff_ne]; omega
        obtain ⟨p, hp⟩ : ∃ p, readV bs x = p := ⟨_, rfl⟩
        have HY := Lib.hid (And.intro hx (And.intro (show ¬ x < 0 by omega) hp))
        clear hx
        go_wp2_with fail
        refine (readOwn_any D nd cd bs x f k p wq HY.out.2.2 HP.out.1 HX.out.2.2.2.here hnd HP.out.2.1).mono ?_
        rintro e w4 ⟨rfl, hk4⟩
        have hi4 := VOwn.keep HX.out.2.1 hk4
        have hT4 := HX.out.2.2.keep hk4
        clear b0 c0 c1 hk4 hp
        cases hat : (p.f && (p.a == (f : Int)) && (p.b == (k : Int)))
        · have HN := Lib.hid (And.intro (HR.out.2 (vals_none (vals_bad HX.out.1 HY.out.1 (by have := HY.out.2.1; omega) (by rw [HY.out.2.2]; exact hat)) hkz)) (hT4.keep (grown_alloc (grown_refl w4 none) (.cells #[.bool p.f, .int .i64 p.a, .int .i64 p.b, .int .i64 p.c, .int .i64 p.d] 72))).1.2.2)
          clear hi4 hT4 hat
          go_wp2
          rw [HN.out.1]
          exact bodyPost_ret (v := .tuple #[.slice none 0 0, .bool false]) (by simp [results, Tryz.results11, go_sem, *]) rfl (imade2_none HN.out.2)
        · have hvc : valsTo bs xs' f (k + 1) = some (l ++ [p.c]) := by rw [vals_page HX.out.1 HY.out.1 (by have := HY.out.2.1; omega) (by rw [HY.out.2.2]; exact hat), HY.out.2.2]
          have hll := vals_len HX.out.1
          have K5 := grown_alloc (grown_refl w4 none) (.cells #[.bool p.f, .int .i64 p.a, .int .i64 p.b, .int .i64 p.c, .int .i64 p.d] 72)
          have hB5 := Blk.new w4 72 #[.bool p.f, .int .i64 p.a, .int .i64 p.b, .int .i64 p.c, .int .i64 p.d]
          have hi5 := VOwn.keep hi4 K5
          have hT5 := hT4.keep K5
          obtain ⟨r0, r1, r2, r3, r4⟩ := cells5 hB5
          have hlen : (l ++ List.replicate (z - k) (0 : Int)).length = z := by simp [hll]; omega
          have d0 : (w4.alloc (.cells #[.bool p.f, .int .i64 p.a, .int .i64 p.b, .int .i64 p.c, .int .i64 p.d] 72)).cell? ⟨w3.heap.size, k, none⟩ = some (.int .i64 0) :=
            VOwn.at_ hi5 ((iv_length _).trans hlen) (iv_at (by rw [List.getElem?_append_right (by omega), hll, Nat.sub_self, List.getElem?_replicate, if_pos (by omega)]))
          have d1 := VOwn.frozen hi5 ((iv_length _).trans hlen) k
          have n1 : w3.heap.size ≠ w4.heap.size := VOwn.ne_blk hi5 hB5 (by decide)
          have n2 : w4.heap.size ≠ w3.heap.size := fun e => n1 e.symm
          have hi6 := VOwn.set hi5 ((iv_length _).trans hlen) k (.int .i64 p.c)
          rw [← iv_set, ext_vals hll hkz] at hi6
          have HZ := Lib.hid (And.intro hvc (And.intro hi6 (hT5.grown hi5 (grown_set (grown_refl _ (some w3.heap.size)) (p := ⟨w3.heap.size, k, none⟩) (.inl rfl) (.int .i64 p.c)))))
          clear hi4 hT4 hi5 hT5 hB5 K5 hvc hll hlen hi6 hat
          go_wp2
          go_roundw
          case rel => exact ⟨k + 1, _, by go_num, by omega, HZ.out.1, HZ.out.2.1, HZ.out.2.2⟩
          case measure => simp [intOf]; omega
      · obtain rfl := HV.out.2.1 k x hx (by omega)
        have HZ := Lib.hid (And.intro (vals_hole HX.out.1 hx (by omega)) (ext_hole (l := l) hkz))
        clear hx
        go_wp2
        go_roundw
        case rel => exact ⟨k + 1, _, by go_num, by omega, HZ.out.1, by rw [← HZ.out.2]; exact HX.out.2.1, HX.out.2.2⟩
        case measure => simp [intOf]; omega
    · obtain rfl : k = z := by omega
      have HY := Lib.hid (And.intro (vals_len HX.out.1) (show IOwn wq w.heap.size (.slice (some ⟨w3.heap.size, 0, none⟩) k k) l by have := HX.out.2.1; rwa [Nat.sub_self, List.replicate_zero, List.append_nil] at this))
      go_wp2
      rw [HR.out.1 _ HX.out.1]
      exact bodyPost_ret (v := .tuple #[.slice (some ⟨w3.heap.size, 0, none⟩) k k, .bool true]) (by simp [results, Tryz.results11, go_sem, *]) rfl ⟨_, _, _, rfl, HY.out.1, HY.out.2, HX.out.2.2.1.2.2⟩
theorem fileValues_any (D : Option Addr) (nd cd : Nat) (bs : List Bk) (A : Option Addr) (n c : Nat) (ls : List Li) (f : Int) (w : World) (hld : bs.length = nd) (hrd : DRow w w.heap.size D bs) (hnd : nd ≤ 1048576) (hpd : ∀ b, b ∈ bs → b.ps.length ≤ 1048576) (hl : ls.length = n) (hr : TRow w w.heap.size A ls) (hn : n ≤ 1048576) (hp : ∀ l, l ∈ ls → l.xs.length ≤ 1048576) :
    Calls Tryz.prog 11 #[.slice D nd cd, .agg #[.slice A n c], .int .i64 f] w (IMade2 (fvalV bs (ll ls) f).1 (fvalV bs (ll ls) f).2 w) := by
  cases hd : devB bs
  · rw [fval_no1 hd]
    exact fileValues_no D nd cd bs A n c ls f w hld hrd hnd hpd hl hr hn hp (by simp [hd])
  cases hB : fileB (ll ls) f
  · rw [fval_no2 hB]
    exact fileValues_no D nd cd bs A n c ls f w hld hrd hnd hpd hl hr hn hp (by simp [hB])
  obtain ⟨hv, hf⟩ := file_is hB
  obtain ⟨k, rfl, hk⟩ := inB_nat (m := 7) hf
  have h8 := ((tabB_iff _).1 hv).len
  have hx := List.getElem?_eq_getElem (l := ll ls) (i := k) (by omega)
  exact fileValues_yes D nd cd bs A n c ls k _ w hld hrd hnd hpd hl hr hd hv hf hx
end Go.Proofs.YtolpnloghogjjaaGreat
