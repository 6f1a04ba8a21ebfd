/- What the model's functions of chapter 16 answer. -/
import Derived.Test.YtpdkfgihpchkiaaWearPlain
namespace Go.Proofs.Ytpdkfgihpchkiaa
open Go.ChangeShapes Go.WideShapes Go.ChangeAt Go.RowKit
set_option linter.unusedVariables false

theorem specSpread_any (A : Option Addr) (n c : Nat) (bs : List Bk) (w : World) (hl : bs.length = n) (hr : DRow w w.heap.size A bs) (hn : n ≤ 1048576) (hp : ∀ b, b ∈ bs → b.ps.length ≤ 1048576) :
    Calls Try.prog 30 #[.slice A n c] w (KeptV (.int .i64 (spreadV bs)) w) := by
  have HL := Lib.hid (And.intro hl hp)
  have HS : RowKit.Hid (VD w A bs w) := Lib.hid ⟨hr, grown_refl _ _⟩
  clear hl hp hr
  cases hd : devB bs
  · have HV := Lib.hid hd
    clear hd
    go_enter Try.func30, Try.ntmps30
    go_wp2_with fail
    refine (specDeviceValid_val HL.out.1 HV.out _ HS.out.row hn HL.out.2).mono ?_
    rintro e w1 ⟨rfl, hk⟩
    replace HS := Lib.hid (HS.out.keep hk)
    clear hk
    go_wp2
    go_ret
    exact ⟨retI (spread_no HV.out).symm, HS.out.2⟩
  · have HV := Lib.hid hd
    obtain ⟨⟨hn1, hn12⟩, _⟩ := dev_parts hd
    rw [HL.out.1] at hn1 hn12
    clear hd
    go_enter Try.func30, Try.ntmps30
    go_wp2_with fail
    refine (specDeviceValid_val HL.out.1 HV.out _ HS.out.row hn HL.out.2).mono ?_
    rintro e w1 ⟨rfl, hk⟩
    replace HS := Lib.hid (HS.out.keep hk)
    clear hk
    obtain ⟨g, off, m, Ab, cb, ps, rfl, _, _, hb, c0, c1, hrow⟩ := HS.out.1.at_ (show 0 < bs.length by have := HL.out.1; omega)
    have HM := Lib.hid (wear_at hb)
    have h0n : (0 : Int) < n := by omega
    have c2 : w1.cell? ⟨g, off, none⟩ = some (.int .i64 m) := by simpa using c0
    clear hb c0 c1 hrow
    go_wp2_with fail
    go_loopw [3, 4, 5] (fun a b i wr => ∃ k : Nat, i = .int .i64 k ∧ a = .int .i64 (lowTo bs k) ∧ b = .int .i64 (topTo bs k) ∧ 1 ≤ k ∧ k ≤ n ∧ VD w (some ⟨g, off, none⟩) bs wr) (fun _ _ i _ => n - (intOf i).toNat)
    case atStart => exact ⟨1, rfl, by rw [low_one HV.out]; exact congrArg _ HM.out.symm, by rw [top_one HV.out]; exact congrArg _ HM.out.symm, Nat.le_refl _, hn1, HS.out⟩
    case round =>
      obtain ⟨k, rfl, rfl, rfl, hk1, hkn, hS⟩ := hrel
      clear HS c2
      have HS := Lib.hid hS
      clear hS
      obtain ⟨lo, hlo⟩ : ∃ lo, lowTo bs k = lo := ⟨_, rfl⟩
      obtain ⟨hi, hhi⟩ : ∃ hi, topTo bs k = hi := ⟨_, rfl⟩
      rw [hlo, hhi]
      have hib := top_in HV.out k
      have lob := low_in HV.out k
      rw [hhi] at hib
      rw [hlo] at lob
      by_cases hlt : k < n
      · obtain ⟨g', off', mk, Ak, ck, pk, e0, _, _, hbk, d0, d1, hrk⟩ := HS.out.1.at_ (show k < bs.length by have := HL.out.1; omega)
        injection e0 with e0
        injection e0 with e3 e4
        subst e3; subst e4
        have HK := Lib.hid (And.intro (low_step hbk) (top_step hbk))
        rw [hlo, hhi] at HK
        have k3 : (k : Int) < n := by omega
        clear hbk d1 hrk hlo hhi
        rcases Int.lt_or_le mk lo with t1 | t1
        · rcases Int.lt_or_le hi mk with t2 | t2
          all_goals
            have HT := Lib.hid (And.intro t1 t2)
            go_wp2
            all_goals
              go_roundw
              case rel => exact ⟨k + 1, by go_num, by rw [HK.out.1, Int.min_comm, min_lt HT.out.1], by first | rw [HK.out.2, max_lt HT.out.2] | rw [HK.out.2, max_ge HT.out.2], by omega, by omega, HS.out⟩
              case measure => simp [intOf]; omega
        · rcases Int.lt_or_le hi mk with t2 | t2
          all_goals
            have HT := Lib.hid (And.intro t1 t2)
            go_wp2
            all_goals
              go_roundw
              case rel => exact ⟨k + 1, by go_num, by rw [HK.out.1, Int.min_comm, min_ge HT.out.1], by first | rw [HK.out.2, max_lt HT.out.2] | rw [HK.out.2, max_ge HT.out.2], by omega, by omega, HS.out⟩
              case measure => simp [intOf]; omega
      · obtain rfl : k = n := by omega
        have HE := Lib.hid (spread_of HV.out)
        rw [HL.out.1, hhi, hlo] at HE
        clear hlo hhi
        go_wp2
        go_ret
        exact ⟨retI HE.out.symm, HS.out.2⟩
theorem specSpread_val {A : Option Addr} {n c : Nat} {bs : List Bk} {V : Int} {w : World} (hV : spreadV bs = V) (hl : bs.length = n) (hr : DRow w w.heap.size A bs) (hn : n ≤ 1048576) (hp : ∀ b, b ∈ bs → b.ps.length ≤ 1048576) :
    Calls Try.prog 30 #[.slice A n c] w (KeptV (.int .i64 V) w) := hV ▸ specSpread_any A n c bs w hl hr hn hp
theorem specTotal_any (A : Option Addr) (n c : Nat) (bs : List Bk) (w : World) (hl : bs.length = n) (hr : DRow w w.heap.size A bs) (hn : n ≤ 1048576) (hp : ∀ b, b ∈ bs → b.ps.length ≤ 1048576) :
    Calls Try.prog 33 #[.slice A n c] w (KeptV (.int .i64 (totalV bs)) w) := by
  have HL := Lib.hid (And.intro hl hp)
  have HS : RowKit.Hid (VD w A bs w) := Lib.hid ⟨hr, grown_refl _ _⟩
  clear hl hp hr
  cases hd : devB bs
  · have HV := Lib.hid hd
    clear hd
    go_enter Try.func33, Try.ntmps33
    go_wp2_with fail
    refine (specDeviceValid_val HL.out.1 HV.out _ HS.out.row hn HL.out.2).mono ?_
    rintro e w1 ⟨rfl, hk⟩
    replace HS := Lib.hid (HS.out.keep hk)
    clear hk
    go_wp2
    go_ret
    exact ⟨retI (total_no HV.out).symm, HS.out.2⟩
  · have HV := Lib.hid hd
    obtain ⟨⟨hn1, hn12⟩, _⟩ := dev_parts hd
    rw [HL.out.1] at hn1 hn12
    clear hd
    go_enter Try.func33, Try.ntmps33
    go_wp2_with fail
    refine (specDeviceValid_val HL.out.1 HV.out _ HS.out.row hn HL.out.2).mono ?_
    rintro e w1 ⟨rfl, hk⟩
    replace HS := Lib.hid (HS.out.keep hk)
    clear hk
    go_wp2_with fail
    go_loopw [3, 4] (fun a i wr => ∃ k : Nat, i = .int .i64 k ∧ a = .int .i64 (wsTo bs k) ∧ k ≤ n ∧ VD w A bs wr) (fun _ i _ => n - (intOf i).toNat)
    case atStart => exact ⟨0, rfl, rfl, Nat.zero_le _, HS.out⟩
    case round =>
      obtain ⟨k, rfl, rfl, hkn, hS⟩ := hrel
      clear HS
      have HS := Lib.hid hS
      clear hS
      obtain ⟨u, hu⟩ : ∃ u, wsTo bs k = u := ⟨_, rfl⟩
      have hub := ws_in HV.out k
      rw [hu] at hub ⊢
      by_cases hlt : k < n
      · obtain ⟨g, off, mk, Ak, ck, pk, rfl, _, _, hbk, d0, d1, hrk⟩ := HS.out.1.at_ (show k < bs.length by have := HL.out.1; omega)
        have hmk := wear_in HV.out k
        rw [wear_at hbk] at hmk
        dsimp only at hmk
        have HK := Lib.hid (ws_step hbk)
        rw [hu] at HK
        have k3 : (k : Int) < n := by omega
        clear hbk d1 hrk hu
        go_wp2
        go_roundw
        case rel => exact ⟨k + 1, by go_num, by rw [HK.out], by omega, HS.out⟩
        case measure => simp [intOf]; omega
      · obtain rfl : k = n := by omega
        have HE := Lib.hid (total_of HV.out)
        rw [HL.out.1, hu] at HE
        clear hu
        go_wp2
        go_ret
        exact ⟨retI HE.out.symm, HS.out.2⟩
theorem specTotal_val {A : Option Addr} {n c : Nat} {bs : List Bk} {V : Int} {w : World} (hV : totalV bs = V) (hl : bs.length = n) (hr : DRow w w.heap.size A bs) (hn : n ≤ 1048576) (hp : ∀ b, b ∈ bs → b.ps.length ≤ 1048576) :
    Calls Try.prog 33 #[.slice A n c] w (KeptV (.int .i64 V) w) := hV ▸ specTotal_any A n c bs w hl hr hn hp
/-- The loop stops at once. -/
theorem specRest_no (A : Option Addr) (n c : Nat) (bs : List Bk) (a b h : Int) (w : World) (hv : (headsB n a b h && devB bs) = false) (hl : bs.length = n) (hr : DRow w w.heap.size A bs) (hn : n ≤ 1048576) (hp : ∀ b, b ∈ bs → b.ps.length ≤ 1048576) :
    Calls Try.prog 36 #[.slice A n c, .agg #[.int .i64 a, .int .i64 b, .int .i64 h]] w (KeptV (.int .i64 (-1)) w) := by
  have HD := Lib.hid (And.intro hv (And.intro hl hp))
  have HF := Lib.hid (FIn.start (a := a) (b := b) (h := h) hr)
  clear hv hl hr hp
  go_enter Try.func36, Try.ntmps36
  go_wp2
  go_loopw [5, 6] (fun v i wr => v = .int .i64 (-1) ∧ i = .int .i64 0 ∧ FIn w A bs a b h wr) (fun _ _ _ => 0)
  case atStart => exact ⟨rfl, rfl, HF.out⟩
  case round =>
    obtain ⟨rfl, rfl, hF⟩ := hrel
    clear HF
    have HF := Lib.hid hF
    clear hF
    obtain ⟨h0, h1, h2⟩ := cells3 HF.out.1
    by_cases hpos : 0 < n
    · have hi : (0 : Int) < n := by omega
      go_wp2_with fail
      refine (specHeads_val HD.out.1 HD.out.2.1 HF.out.2.1.here hn HD.out.2.2).mono ?_
      rintro e w1 ⟨rfl, hk⟩
      replace HF := Lib.hid (HF.out.keep hk)
      clear hk h0 h1 h2
      go_wp2
      go_ret
      exact ⟨rfl, HF.out.2.2⟩
    · obtain rfl : n = 0 := by omega
      go_wp2
      go_ret
      exact ⟨rfl, HF.out.2.2⟩
theorem specRest_low (A : Option Addr) (n c : Nat) (bs : List Bk) (a b h : Int) (w : World) (hv : (headsB n a b h && devB bs) = true) (hsp : ¬ 5 < spreadV bs) (hl : bs.length = n) (hr : DRow w w.heap.size A bs) (hn : n ≤ 1048576) (hp : ∀ b, b ∈ bs → b.ps.length ≤ 1048576) :
    Calls Try.prog 36 #[.slice A n c, .agg #[.int .i64 a, .int .i64 b, .int .i64 h]] w (KeptV (.int .i64 (-1)) w) := by
  have HD := Lib.hid (And.intro hv (And.intro hl hp))
  have HF := Lib.hid (FIn.start (a := a) (b := b) (h := h) hr)
  have HW := Lib.hid (decide_eq_false hsp)
  clear hv hl hr hp hsp
  go_enter Try.func36, Try.ntmps36
  go_wp2
  go_loopw [5, 6] (fun v i wr => v = .int .i64 (-1) ∧ i = .int .i64 0 ∧ FIn w A bs a b h wr) (fun _ _ _ => 0)
  case atStart => exact ⟨rfl, rfl, HF.out⟩
  case round =>
    obtain ⟨rfl, rfl, hF⟩ := hrel
    clear HF
    have HF := Lib.hid hF
    clear hF
    obtain ⟨h0, h1, h2⟩ := cells3 HF.out.1
    by_cases hpos : 0 < n
    · have hi : (0 : Int) < n := by omega
      go_wp2_with fail
      refine (specHeads_val HD.out.1 HD.out.2.1 HF.out.2.1.here hn HD.out.2.2).mono ?_
      rintro e w1 ⟨rfl, hk⟩
      replace HF := Lib.hid (HF.out.keep hk)
      clear hk h0 h1 h2
      go_wp2_with fail
      refine (specSpread_val rfl HD.out.2.1 HF.out.2.1.here hn HD.out.2.2).mono ?_
      rintro e w2 ⟨rfl, hk⟩
      replace HF := Lib.hid (HF.out.keep hk)
      clear hk
      have tsp := HW.out
      go_wp2
      go_ret
      exact ⟨rfl, HF.out.2.2⟩
    · obtain rfl : n = 0 := by omega
      go_wp2
      go_ret
      exact ⟨rfl, HF.out.2.2⟩
/-- The loop at block k. -/
def WornSt (w : World) (A : Option Addr) (bs : List Bk) (a b h : Int) (k : Nat) (x : Int) (wr : World) : Prop := k ≤ bs.length ∧ wornTo true bs a b h k = x ∧ FIn w A bs a b h wr
set_option maxHeartbeats 4000000 in
theorem specRest_yes (A : Option Addr) (n c : Nat) (bs : List Bk) (a b h : Int) (w : World) (hv : (headsB n a b h && devB bs) = true) (hsp : 5 < spreadV bs) (hl : bs.length = n) (hr : DRow w w.heap.size A bs) (hn : n ≤ 1048576) (hp : ∀ b, b ∈ bs → b.ps.length ≤ 1048576) :
    Calls Try.prog 36 #[.slice A n c, .agg #[.int .i64 a, .int .i64 b, .int .i64 h]] w (KeptV (.int .i64 (wornV true bs a b h)) w) := by
  have HD := Lib.hid (And.intro hv (And.intro hl hp))
  have HW := Lib.hid (decide_eq_true hsp)
  clear hsp
  have HF := Lib.hid (FIn.start (a := a) (b := b) (h := h) hr)
  clear hv hr hp
  go_enter Try.func36, Try.ntmps36
  go_wp2
  go_loopw [5, 6] (fun v i wr => ∃ (k : Nat) (x : Int), i = .int .i64 k ∧ v = .int .i64 x ∧ WornSt w A bs a b h k x wr) (fun _ i _ => n - (intOf i).toNat)
  case atStart => exact ⟨0, -1, rfl, rfl, Nat.zero_le _, rfl, HF.out⟩
  case round =>
    obtain ⟨k, x, rfl, rfl, hk, hx, hF⟩ := hrel
    clear HF
    have HF := Lib.hid hF
    clear hF
    obtain ⟨h0, h1, h2⟩ := cells3 HF.out.1
    by_cases hlt : k < n
    · have HX0 := Lib.hid hx
      clear hx
      go_wp2_with fail
      refine (specHeads_val HD.out.1 HD.out.2.1 HF.out.2.1.here hn HD.out.2.2).mono ?_
      rintro e w0 ⟨rfl, hk1⟩
      replace HF := Lib.hid (HF.out.keep hk1)
      clear hk1 h0 h1 h2
      go_wp2_with fail
      refine (specSpread_val rfl HD.out.2.1 HF.out.2.1.here hn HD.out.2.2).mono ?_
      rintro e w1 ⟨rfl, hk1⟩
      replace HF := Lib.hid (HF.out.keep hk1)
      clear hk1
      have tsp := HW.out
      obtain ⟨h0, h1, h2⟩ := cells3 HF.out.1
      obtain ⟨g, off, m, Ab, cb, ps, rfl, hgw, _, hb, c0, c1, hrow⟩ := HF.out.2.1.at_ (show k < bs.length by omega)
      have hpl := HD.out.2.2 _ (List.mem_of_getElem? hb)
      obtain ⟨r, hr0⟩ : ∃ r, nextV m ps = r := ⟨_, rfl⟩
      have hfr := worn_at (W := true) (a := a) (b := b) (h := h) (best := x) hb
      rw [hr0] at hfr
      have HR := Lib.hid (And.intro hr0 (And.intro hrow hpl))
      have HB := Lib.hid (show D2 w1 g (off + k * 2) ⟨m, Ab, cb, ps⟩ from ⟨c0, c1⟩)
      have k3 : (k : Int) < n := by omega
      clear hr0 hrow hpl
      cases t0 : (r != 0)
      · have hno : wornOk true bs a b h x k = false := by rw [hfr]; simp [*]
        have HN := Lib.hid (worn_no HX0.out hno)
        clear hno hfr
        (try clear t1)
        (try clear t2)
        (try clear t3)
        go_wp2_with fail
        (try clear tsp)
        refine wp_region_held_drew (S := (fun w' => w'.cell? ⟨g, off + k * 2, none⟩ = some (.int .i64 m) ∧ w'.cell? ⟨g, off + k * 2 + 1, none⟩ = some (.slice Ab ps.length cb) ∧ w'.cell? ⟨w.heap.size, 0, none⟩ = some (.int .i64 a) ∧ w'.cell? ⟨w.heap.size, 1, none⟩ = some (.int .i64 b) ∧ w'.cell? ⟨w.heap.size, 2, none⟩ = some (.int .i64 h))) (by kernel_rfl) ?_ (fun hHeld => ?_)
        · exact ⟨c0, c1, h0, h1, h2⟩
        refine heldY 0 23 ?_
        refine heldY 1 24 ?_
        refine heldY 2 25 ?_
        refine heldY 3 26 ?_
        refine wpAnyH_ready (rs := [4]) (by kernel_rfl) (by simp) ?_
        refine AllReadyH.cons rfl (fun K hK => ?_) AllReadyH.nil
        go_simp
        go_at_call 57; (refine (specNext_val rfl HR.out.1 _ HR.out.2.1.drew.here HR.out.2.2).mono ?_); rintro e w2 ⟨rfl, hk1⟩; replace hk1 := grown_trans (grown_drew (grown_refl w1 none)) hk1; replace HF := Lib.hid (HF.out.keep hk1); replace HB := Lib.hid (HB.out.kept hk1); clear hk1 c0 c1 h0 h1 h2; obtain ⟨h0, h1, h2⟩ := cells3 HF.out.1; obtain ⟨c0, c1⟩ := HB.out
        refine hK.out _ _ ?_ (fun hHeld => ?_)
        · exact ⟨c0, c1, h0, h1, h2⟩
        clear hK K
        try simp only [Act.put, List.setIfInBounds_toArray, List.set_cons_zero, List.set_cons_succ]
        refine heldY 5 28 ?_
        refine heldY 6 29 ?_
        refine heldN 7 30 ?_
        refine heldN 8 31 ?_
        refine heldN 9 32 ?_
        refine heldN 10 33 ?_
        refine heldY 11 34 ?_
        refine heldY 12 35 ?_
        refine heldN 13 36 ?_
        refine heldN 14 37 ?_
        refine heldN 15 38 ?_
        refine heldN 16 39 ?_
        refine heldY 17 40 ?_
        refine heldY 18 41 ?_
        refine heldN 19 42 ?_
        refine heldN 20 43 ?_
        refine heldN 21 44 ?_
        refine heldN 22 45 ?_
        refine heldY 23 46 ?_
        refine heldY 24 47 ?_
        refine heldN 25 48 ?_
        refine heldN 26 49 ?_
        refine heldN 27 50 ?_
        refine heldN 28 51 ?_
        refine heldN 29 52 ?_
        refine heldN 30 53 ?_
        refine heldN 31 54 ?_
        refine heldN 32 55 ?_
        refine heldN 33 56 ?_
        refine heldN 34 57 ?_
        refine heldN 35 58 ?_
        refine heldN 36 59 ?_
        refine heldN 37 60 ?_
        refine heldN 38 61 ?_
        refine heldN 39 62 ?_
        refine heldY 40 63 ?_
        refine wpAnyH_done (by kernel_rfl) ?_ _
        go_wp2
        go_roundw
        case rel => exact ⟨k + 1, x, by go_num, rfl, by omega, HN.out, HF.out⟩
        case measure => simp [intOf]; omega
      · cases t1 : ((k : Int) == a)
        · have e1 : ((k : Int) != a) = true := by show (!((k : Int) == a)) = _; rw [t1]; rfl
          cases t2 : ((k : Int) == b)
          · have e2 : ((k : Int) != b) = true := by show (!((k : Int) == b)) = _; rw [t2]; rfl
            cases t3 : ((k : Int) == h)
            · have e3 : ((k : Int) != h) = true := by show (!((k : Int) == h)) = _; rw [t3]; rfl
              by_cases hx0 : x < 0
              · have t4 := decide_eq_true hx0
                have hno : wornOk true bs a b h x k = true := by rw [hfr]; simp [*]
                have HN := Lib.hid (worn_yes HX0.out hno)
                clear hno hfr
                (try clear t1)
                (try clear t2)
                (try clear t3)
                go_wp2_with fail
                refine wp_region_held_drew (S := (fun w' => w'.cell? ⟨g, off + k * 2, none⟩ = some (.int .i64 m) ∧ w'.cell? ⟨g, off + k * 2 + 1, none⟩ = some (.slice Ab ps.length cb) ∧ w'.cell? ⟨w.heap.size, 0, none⟩ = some (.int .i64 a) ∧ w'.cell? ⟨w.heap.size, 1, none⟩ = some (.int .i64 b) ∧ w'.cell? ⟨w.heap.size, 2, none⟩ = some (.int .i64 h))) (by kernel_rfl) ?_ (fun hHeld => ?_)
                · exact ⟨c0, c1, h0, h1, h2⟩
                refine heldY 0 23 ?_
                refine heldY 1 24 ?_
                refine heldY 2 25 ?_
                refine heldY 3 26 ?_
                refine wpAnyH_ready (rs := [4]) (by kernel_rfl) (by simp) ?_
                refine AllReadyH.cons rfl (fun K hK => ?_) AllReadyH.nil
                go_simp
                go_at_call 57; (refine (specNext_val rfl HR.out.1 _ HR.out.2.1.drew.here HR.out.2.2).mono ?_); rintro e w2 ⟨rfl, hk1⟩; replace hk1 := grown_trans (grown_drew (grown_refl w1 none)) hk1; replace HF := Lib.hid (HF.out.keep hk1); replace HB := Lib.hid (HB.out.kept hk1); clear hk1 c0 c1 h0 h1 h2; obtain ⟨h0, h1, h2⟩ := cells3 HF.out.1; obtain ⟨c0, c1⟩ := HB.out
                refine hK.out _ _ ?_ (fun hHeld => ?_)
                · exact ⟨c0, c1, h0, h1, h2⟩
                clear hK K
                try simp only [Act.put, List.setIfInBounds_toArray, List.set_cons_zero, List.set_cons_succ]
                refine heldY 5 28 ?_
                refine heldY 6 29 ?_
                refine heldY 7 30 ?_
                refine heldY 8 31 ?_
                refine heldY 9 32 ?_
                refine heldY 10 33 ?_
                refine heldY 11 34 ?_
                refine heldY 12 35 ?_
                refine heldY 13 36 ?_
                refine heldY 14 37 ?_
                refine heldY 15 38 ?_
                refine heldY 16 39 ?_
                refine heldY 17 40 ?_
                refine heldY 18 41 ?_
                refine heldY 19 42 ?_
                refine heldY 20 43 ?_
                refine heldY 21 44 ?_
                refine heldY 22 45 ?_
                refine heldY 23 46 ?_
                refine heldY 24 47 ?_
                refine heldY 25 48 ?_
                refine heldY 26 49 ?_
                refine heldY 27 50 ?_
                refine heldN 28 51 ?_
                refine heldN 29 52 ?_
                refine heldN 30 53 ?_
                refine heldN 31 54 ?_
                refine heldN 32 55 ?_
                refine heldN 33 56 ?_
                refine heldN 34 57 ?_
                refine heldN 35 58 ?_
                refine heldN 36 59 ?_
                refine heldN 37 60 ?_
                refine heldN 38 61 ?_
                refine heldY 39 62 ?_
                refine heldY 40 63 ?_
                refine wpAnyH_done (by kernel_rfl) ?_ _
                go_wp2
                go_roundw
                case rel => exact ⟨k + 1, k, by go_num, rfl, by omega, HN.out, HF.out⟩
                case measure => simp [intOf]; omega
              · have t4 := decide_eq_false hx0
                obtain ⟨i, hi, hik, _⟩ : ∃ i : Nat, x = (i : Int) ∧ i < k ∧ True := by
                  rcases worn_facts true bs a b h k with h5 | ⟨i, h5, h6⟩
                  · rw [HX0.out] at h5; omega
                  · rw [HX0.out] at h5; exact ⟨i, h5, h6, trivial⟩
                subst hi
                obtain ⟨g', off', m2, Ac, cc, qs, e0, _, _, hc, b0, _, _⟩ := HF.out.2.1.at_ (show i < bs.length by omega)
                injection e0 with e0
                injection e0 with e3 e4
                subst e3; subst e4
                have HC := Lib.hid (show D2 w1 g (off + i * 2) ⟨m2, Ac, cc, qs⟩ from ⟨b0, by assumption⟩)
                have hw : wearAt bs (i : Int) = m2 := by simp [wearAt, hc]
                rw [hw] at hfr
                have i3 : (i : Int) < n := by omega
                clear hw hc
                cases t5 : decide (m < m2)
                · have hno : wornOk true bs a b h (i : Int) k = false := by rw [hfr]; simp [*]
                  have HN := Lib.hid (worn_no HX0.out hno)
                  clear hno hfr
                  (try clear t1)
                  (try clear t2)
                  (try clear t3)
                  go_wp2_with fail
                  refine wp_region_held_drew (S := (fun w' => w'.cell? ⟨g, off + k * 2, none⟩ = some (.int .i64 m) ∧ w'.cell? ⟨g, off + k * 2 + 1, none⟩ = some (.slice Ab ps.length cb) ∧ w'.cell? ⟨w.heap.size, 0, none⟩ = some (.int .i64 a) ∧ w'.cell? ⟨w.heap.size, 1, none⟩ = some (.int .i64 b) ∧ w'.cell? ⟨w.heap.size, 2, none⟩ = some (.int .i64 h) ∧ w'.cell? ⟨g, off + i * 2, none⟩ = some (.int .i64 m2))) (by kernel_rfl) ?_ (fun hHeld => ?_)
                  · exact ⟨c0, c1, h0, h1, h2, b0⟩
                  refine heldY 0 23 ?_
                  refine heldY 1 24 ?_
                  refine heldY 2 25 ?_
                  refine heldY 3 26 ?_
                  refine wpAnyH_ready (rs := [4]) (by kernel_rfl) (by simp) ?_
                  refine AllReadyH.cons rfl (fun K hK => ?_) AllReadyH.nil
                  go_simp
                  go_at_call 57; (refine (specNext_val rfl HR.out.1 _ HR.out.2.1.drew.here HR.out.2.2).mono ?_); rintro e w2 ⟨rfl, hk1⟩; replace hk1 := grown_trans (grown_drew (grown_refl w1 none)) hk1; replace HF := Lib.hid (HF.out.keep hk1); replace HB := Lib.hid (HB.out.kept hk1); replace HC := Lib.hid (HC.out.kept hk1); clear hk1 c0 c1 h0 h1 h2 b0; obtain ⟨h0, h1, h2⟩ := cells3 HF.out.1; obtain ⟨c0, c1⟩ := HB.out; obtain ⟨b0, _⟩ := HC.out
                  refine hK.out _ _ ?_ (fun hHeld => ?_)
                  · exact ⟨c0, c1, h0, h1, h2, b0⟩
                  clear hK K
                  try simp only [Act.put, List.setIfInBounds_toArray, List.set_cons_zero, List.set_cons_succ]
                  refine heldY 5 28 ?_
                  refine heldY 6 29 ?_
                  refine heldY 7 30 ?_
                  refine heldY 8 31 ?_
                  refine heldY 9 32 ?_
                  refine heldY 10 33 ?_
                  refine heldY 11 34 ?_
                  refine heldY 12 35 ?_
                  refine heldY 13 36 ?_
                  refine heldY 14 37 ?_
                  refine heldY 15 38 ?_
                  refine heldY 16 39 ?_
                  refine heldY 17 40 ?_
                  refine heldY 18 41 ?_
                  refine heldY 19 42 ?_
                  refine heldY 20 43 ?_
                  refine heldY 21 44 ?_
                  refine heldY 22 45 ?_
                  refine heldY 23 46 ?_
                  refine heldY 24 47 ?_
                  refine heldY 25 48 ?_
                  refine heldY 26 49 ?_
                  refine heldY 27 50 ?_
                  refine heldY 28 51 ?_
                  refine heldY 29 52 ?_
                  refine heldY 30 53 ?_
                  refine heldY 31 54 ?_
                  refine heldY 32 55 ?_
                  refine heldY 33 56 ?_
                  refine heldY 34 57 ?_
                  refine heldY 35 58 ?_
                  refine heldY 36 59 ?_
                  refine heldY 37 60 ?_
                  refine heldY 38 61 ?_
                  refine heldY 39 62 ?_
                  refine heldY 40 63 ?_
                  refine wpAnyH_done (by kernel_rfl) ?_ _
                  go_wp2
                  go_roundw
                  case rel => exact ⟨k + 1, i, by go_num, rfl, by omega, HN.out, HF.out⟩
                  case measure => simp [intOf]; omega
                · have hno : wornOk true bs a b h (i : Int) k = true := by rw [hfr]; simp [*]
                  have HN := Lib.hid (worn_yes HX0.out hno)
                  clear hno hfr
                  (try clear t1)
                  (try clear t2)
                  (try clear t3)
                  go_wp2_with fail
                  refine wp_region_held_drew (S := (fun w' => w'.cell? ⟨g, off + k * 2, none⟩ = some (.int .i64 m) ∧ w'.cell? ⟨g, off + k * 2 + 1, none⟩ = some (.slice Ab ps.length cb) ∧ w'.cell? ⟨w.heap.size, 0, none⟩ = some (.int .i64 a) ∧ w'.cell? ⟨w.heap.size, 1, none⟩ = some (.int .i64 b) ∧ w'.cell? ⟨w.heap.size, 2, none⟩ = some (.int .i64 h) ∧ w'.cell? ⟨g, off + i * 2, none⟩ = some (.int .i64 m2))) (by kernel_rfl) ?_ (fun hHeld => ?_)
                  · exact ⟨c0, c1, h0, h1, h2, b0⟩
                  refine heldY 0 23 ?_
                  refine heldY 1 24 ?_
                  refine heldY 2 25 ?_
                  refine heldY 3 26 ?_
                  refine wpAnyH_ready (rs := [4]) (by kernel_rfl) (by simp) ?_
                  refine AllReadyH.cons rfl (fun K hK => ?_) AllReadyH.nil
                  go_simp
                  go_at_call 57; (refine (specNext_val rfl HR.out.1 _ HR.out.2.1.drew.here HR.out.2.2).mono ?_); rintro e w2 ⟨rfl, hk1⟩; replace hk1 := grown_trans (grown_drew (grown_refl w1 none)) hk1; replace HF := Lib.hid (HF.out.keep hk1); replace HB := Lib.hid (HB.out.kept hk1); replace HC := Lib.hid (HC.out.kept hk1); clear hk1 c0 c1 h0 h1 h2 b0; obtain ⟨h0, h1, h2⟩ := cells3 HF.out.1; obtain ⟨c0, c1⟩ := HB.out; obtain ⟨b0, _⟩ := HC.out
                  refine hK.out _ _ ?_ (fun hHeld => ?_)
                  · exact ⟨c0, c1, h0, h1, h2, b0⟩
                  clear hK K
                  try simp only [Act.put, List.setIfInBounds_toArray, List.set_cons_zero, List.set_cons_succ]
                  refine heldY 5 28 ?_
                  refine heldY 6 29 ?_
                  refine heldY 7 30 ?_
                  refine heldY 8 31 ?_
                  refine heldY 9 32 ?_
                  refine heldY 10 33 ?_
                  refine heldY 11 34 ?_
                  refine heldY 12 35 ?_
                  refine heldY 13 36 ?_
                  refine heldY 14 37 ?_
                  refine heldY 15 38 ?_
                  refine heldY 16 39 ?_
                  refine heldY 17 40 ?_
                  refine heldY 18 41 ?_
                  refine heldY 19 42 ?_
                  refine heldY 20 43 ?_
                  refine heldY 21 44 ?_
                  refine heldY 22 45 ?_
                  refine heldY 23 46 ?_
                  refine heldY 24 47 ?_
                  refine heldY 25 48 ?_
                  refine heldY 26 49 ?_
                  refine heldY 27 50 ?_
                  refine heldY 28 51 ?_
                  refine heldY 29 52 ?_
                  refine heldY 30 53 ?_
                  refine heldY 31 54 ?_
                  refine heldY 32 55 ?_
                  refine heldY 33 56 ?_
                  refine heldY 34 57 ?_
                  refine heldY 35 58 ?_
                  refine heldY 36 59 ?_
                  refine heldY 37 60 ?_
                  refine heldY 38 61 ?_
                  refine heldY 39 62 ?_
                  refine heldY 40 63 ?_
                  refine wpAnyH_done (by kernel_rfl) ?_ _
                  go_wp2
                  go_roundw
                  case rel => exact ⟨k + 1, k, by go_num, rfl, by omega, HN.out, HF.out⟩
                  case measure => simp [intOf]; omega
            · have e3 : ((k : Int) != h) = false := by show (!((k : Int) == h)) = _; rw [t3]; rfl
              have hno : wornOk true bs a b h x k = false := by rw [hfr]; simp [*]
              have HN := Lib.hid (worn_no HX0.out hno)
              clear hno hfr
              (try clear t1)
              (try clear t2)
              (try clear t3)
              go_wp2_with fail
              refine wp_region_held_drew (S := (fun w' => w'.cell? ⟨g, off + k * 2, none⟩ = some (.int .i64 m) ∧ w'.cell? ⟨g, off + k * 2 + 1, none⟩ = some (.slice Ab ps.length cb) ∧ w'.cell? ⟨w.heap.size, 0, none⟩ = some (.int .i64 a) ∧ w'.cell? ⟨w.heap.size, 1, none⟩ = some (.int .i64 b) ∧ w'.cell? ⟨w.heap.size, 2, none⟩ = some (.int .i64 h))) (by kernel_rfl) ?_ (fun hHeld => ?_)
              · exact ⟨c0, c1, h0, h1, h2⟩
              refine heldY 0 23 ?_
              refine heldY 1 24 ?_
              refine heldY 2 25 ?_
              refine heldY 3 26 ?_
              refine wpAnyH_ready (rs := [4]) (by kernel_rfl) (by simp) ?_
              refine AllReadyH.cons rfl (fun K hK => ?_) AllReadyH.nil
              go_simp
              go_at_call 57; (refine (specNext_val rfl HR.out.1 _ HR.out.2.1.drew.here HR.out.2.2).mono ?_); rintro e w2 ⟨rfl, hk1⟩; replace hk1 := grown_trans (grown_drew (grown_refl w1 none)) hk1; replace HF := Lib.hid (HF.out.keep hk1); replace HB := Lib.hid (HB.out.kept hk1); clear hk1 c0 c1 h0 h1 h2; obtain ⟨h0, h1, h2⟩ := cells3 HF.out.1; obtain ⟨c0, c1⟩ := HB.out
              refine hK.out _ _ ?_ (fun hHeld => ?_)
              · exact ⟨c0, c1, h0, h1, h2⟩
              clear hK K
              try simp only [Act.put, List.setIfInBounds_toArray, List.set_cons_zero, List.set_cons_succ]
              refine heldY 5 28 ?_
              refine heldY 6 29 ?_
              refine heldY 7 30 ?_
              refine heldY 8 31 ?_
              refine heldY 9 32 ?_
              refine heldY 10 33 ?_
              refine heldY 11 34 ?_
              refine heldY 12 35 ?_
              refine heldY 13 36 ?_
              refine heldY 14 37 ?_
              refine heldY 15 38 ?_
              refine heldY 16 39 ?_
              refine heldY 17 40 ?_
              refine heldY 18 41 ?_
              refine heldY 19 42 ?_
              refine heldY 20 43 ?_
              refine heldY 21 44 ?_
              refine heldY 22 45 ?_
              refine heldY 23 46 ?_
              refine heldY 24 47 ?_
              refine heldN 25 48 ?_
              refine heldN 26 49 ?_
              refine heldN 27 50 ?_
              refine heldN 28 51 ?_
              refine heldN 29 52 ?_
              refine heldN 30 53 ?_
              refine heldN 31 54 ?_
              refine heldN 32 55 ?_
              refine heldN 33 56 ?_
              refine heldN 34 57 ?_
              refine heldN 35 58 ?_
              refine heldN 36 59 ?_
              refine heldN 37 60 ?_
              refine heldN 38 61 ?_
              refine heldN 39 62 ?_
              refine heldY 40 63 ?_
              refine wpAnyH_done (by kernel_rfl) ?_ _
              go_wp2
              go_roundw
              case rel => exact ⟨k + 1, x, by go_num, rfl, by omega, HN.out, HF.out⟩
              case measure => simp [intOf]; omega
          · have e2 : ((k : Int) != b) = false := by show (!((k : Int) == b)) = _; rw [t2]; rfl
            have hno : wornOk true bs a b h x k = false := by rw [hfr]; simp [*]
            have HN := Lib.hid (worn_no HX0.out hno)
            clear hno hfr
            (try clear t1)
            (try clear t2)
            (try clear t3)
            go_wp2_with fail
            refine wp_region_held_drew (S := (fun w' => w'.cell? ⟨g, off + k * 2, none⟩ = some (.int .i64 m) ∧ w'.cell? ⟨g, off + k * 2 + 1, none⟩ = some (.slice Ab ps.length cb) ∧ w'.cell? ⟨w.heap.size, 0, none⟩ = some (.int .i64 a) ∧ w'.cell? ⟨w.heap.size, 1, none⟩ = some (.int .i64 b) ∧ w'.cell? ⟨w.heap.size, 2, none⟩ = some (.int .i64 h))) (by kernel_rfl) ?_ (fun hHeld => ?_)
            · exact ⟨c0, c1, h0, h1, h2⟩
            refine heldY 0 23 ?_
            refine heldY 1 24 ?_
            refine heldY 2 25 ?_
            refine heldY 3 26 ?_
            refine wpAnyH_ready (rs := [4]) (by kernel_rfl) (by simp) ?_
            refine AllReadyH.cons rfl (fun K hK => ?_) AllReadyH.nil
            go_simp
            go_at_call 57; (refine (specNext_val rfl HR.out.1 _ HR.out.2.1.drew.here HR.out.2.2).mono ?_); rintro e w2 ⟨rfl, hk1⟩; replace hk1 := grown_trans (grown_drew (grown_refl w1 none)) hk1; replace HF := Lib.hid (HF.out.keep hk1); replace HB := Lib.hid (HB.out.kept hk1); clear hk1 c0 c1 h0 h1 h2; obtain ⟨h0, h1, h2⟩ := cells3 HF.out.1; obtain ⟨c0, c1⟩ := HB.out
            refine hK.out _ _ ?_ (fun hHeld => ?_)
            · exact ⟨c0, c1, h0, h1, h2⟩
            clear hK K
            try simp only [Act.put, List.setIfInBounds_toArray, List.set_cons_zero, List.set_cons_succ]
            refine heldY 5 28 ?_
            refine heldY 6 29 ?_
            refine heldY 7 30 ?_
            refine heldY 8 31 ?_
            refine heldY 9 32 ?_
            refine heldY 10 33 ?_
            refine heldY 11 34 ?_
            refine heldY 12 35 ?_
            refine heldY 13 36 ?_
            refine heldY 14 37 ?_
            refine heldY 15 38 ?_
            refine heldY 16 39 ?_
            refine heldY 17 40 ?_
            refine heldY 18 41 ?_
            refine heldN 19 42 ?_
            refine heldN 20 43 ?_
            refine heldN 21 44 ?_
            refine heldN 22 45 ?_
            refine heldY 23 46 ?_
            refine heldY 24 47 ?_
            refine heldN 25 48 ?_
            refine heldN 26 49 ?_
            refine heldN 27 50 ?_
            refine heldN 28 51 ?_
            refine heldN 29 52 ?_
            refine heldN 30 53 ?_
            refine heldN 31 54 ?_
            refine heldN 32 55 ?_
            refine heldN 33 56 ?_
            refine heldN 34 57 ?_
            refine heldN 35 58 ?_
            refine heldN 36 59 ?_
            refine heldN 37 60 ?_
            refine heldN 38 61 ?_
            refine heldN 39 62 ?_
            refine heldY 40 63 ?_
            refine wpAnyH_done (by kernel_rfl) ?_ _
            go_wp2
            go_roundw
            case rel => exact ⟨k + 1, x, by go_num, rfl, by omega, HN.out, HF.out⟩
            case measure => simp [intOf]; omega
        · have e1 : ((k : Int) != a) = false := by show (!((k : Int) == a)) = _; rw [t1]; rfl
          have hno : wornOk true bs a b h x k = false := by rw [hfr]; simp [*]
          have HN := Lib.hid (worn_no HX0.out hno)
          clear hno hfr
          (try clear t1)
          (try clear t2)
          (try clear t3)
          go_wp2_with fail
          refine wp_region_held_drew (S := (fun w' => w'.cell? ⟨g, off + k * 2, none⟩ = some (.int .i64 m) ∧ w'.cell? ⟨g, off + k * 2 + 1, none⟩ = some (.slice Ab ps.length cb) ∧ w'.cell? ⟨w.heap.size, 0, none⟩ = some (.int .i64 a) ∧ w'.cell? ⟨w.heap.size, 1, none⟩ = some (.int .i64 b) ∧ w'.cell? ⟨w.heap.size, 2, none⟩ = some (.int .i64 h))) (by kernel_rfl) ?_ (fun hHeld => ?_)
          · exact ⟨c0, c1, h0, h1, h2⟩
          refine heldY 0 23 ?_
          refine heldY 1 24 ?_
          refine heldY 2 25 ?_
          refine heldY 3 26 ?_
          refine wpAnyH_ready (rs := [4]) (by kernel_rfl) (by simp) ?_
          refine AllReadyH.cons rfl (fun K hK => ?_) AllReadyH.nil
          go_simp
          go_at_call 57; (refine (specNext_val rfl HR.out.1 _ HR.out.2.1.drew.here HR.out.2.2).mono ?_); rintro e w2 ⟨rfl, hk1⟩; replace hk1 := grown_trans (grown_drew (grown_refl w1 none)) hk1; replace HF := Lib.hid (HF.out.keep hk1); replace HB := Lib.hid (HB.out.kept hk1); clear hk1 c0 c1 h0 h1 h2; obtain ⟨h0, h1, h2⟩ := cells3 HF.out.1; obtain ⟨c0, c1⟩ := HB.out
          refine hK.out _ _ ?_ (fun hHeld => ?_)
          · exact ⟨c0, c1, h0, h1, h2⟩
          clear hK K
          try simp only [Act.put, List.setIfInBounds_toArray, List.set_cons_zero, List.set_cons_succ]
          refine heldY 5 28 ?_
          refine heldY 6 29 ?_
          refine heldY 7 30 ?_
          refine heldY 8 31 ?_
          refine heldY 9 32 ?_
          refine heldY 10 33 ?_
          refine heldY 11 34 ?_
          refine heldY 12 35 ?_
          refine heldN 13 36 ?_
          refine heldN 14 37 ?_
          refine heldN 15 38 ?_
          refine heldN 16 39 ?_
          refine heldY 17 40 ?_
          refine heldY 18 41 ?_
          refine heldN 19 42 ?_
          refine heldN 20 43 ?_
          refine heldN 21 44 ?_
          refine heldN 22 45 ?_
          refine heldY 23 46 ?_
          refine heldY 24 47 ?_
          refine heldN 25 48 ?_
          refine heldN 26 49 ?_
          refine heldN 27 50 ?_
          refine heldN 28 51 ?_
          refine heldN 29 52 ?_
          refine heldN 30 53 ?_
          refine heldN 31 54 ?_
          refine heldN 32 55 ?_
          refine heldN 33 56 ?_
          refine heldN 34 57 ?_
          refine heldN 35 58 ?_
          refine heldN 36 59 ?_
          refine heldN 37 60 ?_
          refine heldN 38 61 ?_
          refine heldN 39 62 ?_
          refine heldY 40 63 ?_
          refine wpAnyH_done (by kernel_rfl) ?_ _
          go_wp2
          go_roundw
          case rel => exact ⟨k + 1, x, by go_num, rfl, by omega, HN.out, HF.out⟩
          case measure => simp [intOf]; omega
    · obtain rfl : k = n := by omega
      have HX0 := Lib.hid (show wornV true bs a b h = x by unfold wornV; rw [hl]; exact hx)
      clear hx
      go_wp2
      go_ret
      exact ⟨retI (by rw [HX0.out]), HF.out.2.2⟩
theorem specRest_val {A : Option Addr} {n c : Nat} {bs : List Bk} {a b h V : Int} {w : World} (hV : restV n bs a b h = V) (hl : bs.length = n) (hr : DRow w w.heap.size A bs) (hn : n ≤ 1048576) (hp : ∀ b, b ∈ bs → b.ps.length ≤ 1048576) :
    Calls Try.prog 36 #[.slice A n c, .agg #[.int .i64 a, .int .i64 b, .int .i64 h]] w (KeptV (.int .i64 V) w) := by
  subst hV
  cases hv : (headsB n a b h && devB bs)
  · rw [rest_no hv]; exact specRest_no A n c bs a b h w hv hl hr hn hp
  · by_cases hs : 5 < spreadV bs
    · rw [rest_of hv hs]; exact specRest_yes A n c bs a b h w hv hs hl hr hn hp
    · rw [rest_low hs]; exact specRest_low A n c bs a b h w hv hs hl hr hn hp
end Go.Proofs.Ytpdkfgihpchkiaa
