/- For every code, RollForward answers of the drawn device, table and stamp as its model; every file and place has the last page of PagesSince that is of it, else none where its page was written since, else the page it had, and the table is valid: proved.
   Conditions: none beyond the row's own reading of the input. The frame was written by the guide's proof-skeleton; the walk is ours. -/
import Derived.Test.YteniikfgellhfaaRollFacts2
import Derived.Test.YteniikfgellhfaaFiles5
import Derived.Test.YteniikfgellhfaaRolls
import Derived.Test.YteniikfgellhfaaDrawBoth
import Derived.Test.YteniikfgellhfaaSameTabs
import Derived.Test.YteniikfgellhfaaDrawRoll2
import Derived.Test.YteniikfgellhfaaHand
import Derived.Test.YteniikfgellhfaaRows
import Derived.WalkKit
import Derived.ProofKit
import Derived.OpenShut
import Derived.ShutString
import Derived.ChangeOld
import Derived.Below
namespace Go.Proofs.Yteniikfgellhfaa.fnRollForward
open Go.ChangeShapes Go.WideShapes Go.ChangeAt Go.RowKit
open Go.ChangeMaps (open_string shut_string)
set_option linter.unusedVariables false
set_option linter.unusedSimpArgs false

theorem own : ownKnob Try.prog.godebug = none := by kernel_rfl
theorem laidOut : laidOutB Try.prog = true := by kernel_rfl

/-- WHAT THE WALK IS TOLD OF A SLICE OF INTEGERS THAT CAME IN: it is nil; or it leads to a row of 'cap' cells, the numbers 'zs' (the first 'len' are its elements, the rest its spare room), each fitting its kind. -/
def IsRow (k : IntKind) (w : World) (a : Option Addr) (len cap : Nat) (zs : List Int) : Prop :=
  (a = none ∧ len = 0 ∧ cap = 0 ∧ zs = []) ∨
  ∃ x, a = some x ∧ len ≤ cap ∧ cap ≤ maxLen ∧ zs.length = cap ∧ (∀ i, i < zs.length → w.cell? (x.add i) = some (.int k (zs.getD i 0))) ∧ ∀ n ∈ zs, (Lit.int k n).wf = true

/-! ### STEP 1: THE WALK: the Go text returns true, AND WRITES NOTHING THAT WAS THERE: 'Below w.heap.size w w'' (Derived/Below.lean: '.refl', '.alloc', '.drew', '.setCell' at a new block, '.trans'). Open each 'IsRow' by 'rcases' AHEAD of 'go_enter'; part every test ahead of the walk. -/
set_option maxHeartbeats 8000000 in
set_option maxRecDepth 100000 in
theorem walk (a0 : Option Addr) (len0 cap0 : Nat) (z0 : List Int) (w : World) (w0 : IsRow .u8 w a0 len0 cap0 z0) :
    Calls Try.prog 4 #[.slice a0 len0 cap0] w fun e w' => e = .returned (.bool true) ∧ Below w.heap.size w w' := by
  obtain ⟨hl, hc, hb⟩ := bytes_of w0
  by_cases hbig : 1048576 < len0
  · go_enter Try.func4, Try.ntmps4
    go_wp2
    go_ret
    exact ⟨rfl, Below.refl _ _⟩
  · go_enter Try.func4, Try.ntmps4
    go_wp2_with fail
    refine (drawRollForward_any w a0 len0 cap0 hl hc hb).mono ?_
    rintro e wa ⟨D, nd, cd, bs, A, n, c, ls, s, rfl, hbl, hls, hld, hlt⟩
    have HD := Lib.hid (And.intro (And.intro hbl.1 (fun (q : Bk) (hq : q ∈ bs) => show q.ps.length ≤ 1048576 by have := hbl.2.2 q hq; omega)) (LD.alloc hld (.cells #[.slice A n c] 40)))
    have hnd : nd ≤ 1048576 := by have := hbl.2.1; omega
    have HS := Lib.hid (LV.start hlt n c)
    have HL := Lib.hid (And.intro hls.1 (fun (l : Li) (hq : l ∈ ls) => show l.xs.length ≤ 1048576 by have := hls.2.2 l hq; omega))
    have hn : n ≤ 1048576 := by have := hls.2.1; omega
    obtain ⟨R, hR⟩ : ∃ R, rollV bs (ll ls) s = R := ⟨_, rfl⟩
    obtain ⟨m, hm⟩ : ∃ m, R.length = m := ⟨_, rfl⟩
    have hsm := roll_small hR
    have hn1 : m ≤ 1048576 := by omega
    have HV := Lib.hid (And.intro hR (And.intro hm hsm.2))
    clear hb w0 hbl hls hld hlt hR hm hsm
    have bHS := HS.out.cell
    go_wp2_with fail
    have hbl := HS.out.2.2
    refine (roll_val HV.out.1 HV.out.2.1 HD.out.1.1 HD.out.2.1 hnd HD.out.1.2 HL.out.1 HS.out.2.1 hn HL.out.2).mono ?_
    rintro e w1 ⟨A1, c1, cs1, rfl, hl1, hs1, ho, hk⟩
    have hx := LV.made hbl ho hk
    have K1 := grown_alloc hk (.cells #[.slice A1 m c1] 40)
    replace HS := Lib.hid (HS.out.keep K1)
    replace HD := Lib.hid (And.intro HD.out.1 (HD.out.2.keep K1))
    have HX := Lib.hid hx
    have IX := Lib.hid (And.intro hl1 (And.intro hs1 (fun (l : Li) (hq : l ∈ cs1) => show l.xs.length ≤ 1048576 from HV.out.2.2 l.xs (by rw [← hs1]; exact List.mem_map_of_mem hq))))
    clear hbl ho hk hx hl1 hs1 K1 bHS
    have bHS := HS.out.cell
    have bHX := HX.out.cell
    go_wp2_with fail
    clear bHS bHX
    refine wp_region_held_drew (S := (fun w' => w'.cell? ⟨w1.heap.size, 0, none⟩ = some (.slice A1 m c1) ∧ w'.cell? ⟨wa.heap.size, 0, none⟩ = some (.slice A n c))) (by kernel_rfl) ?_ (fun hHeld => ?_)
    · exact ⟨HX.out.cell, HS.out.cell⟩
    replace HS := Lib.hid (HS.out.keep (grown_drew (grown_refl _ none)))
    replace HX := Lib.hid (HX.out.keep (grown_drew (grown_refl _ none)))
    replace HD := Lib.hid (And.intro HD.out.1 (HD.out.2.keep (grown_drew (grown_refl _ none))))
    refine heldY 0 27 ?_
    refine heldY 1 28 ?_
    refine heldY 2 29 ?_
    refine heldY 3 30 ?_
    refine wpAnyH_ready (rs := [4]) (by kernel_rfl) (by simp) ?_
    refine AllReadyH.cons rfl (fun K hK => ?_) AllReadyH.nil
    go_simp
    go_at_call 23
    refine (specRoll_val HV.out.1 HV.out.2.1 HD.out.1.1 HD.out.2.1 hnd HD.out.1.2 HL.out.1 HS.out.2.1 hn HL.out.2).mono ?_
    rintro e w2 ⟨A2, c2, cs2, rfl, hl2, hs2, ho, hk⟩
    replace HS := Lib.hid (HS.out.keep hk)
    replace HX := Lib.hid (HX.out.keep hk)
    replace HD := Lib.hid (And.intro HD.out.1 (HD.out.2.keep hk))
    have IY := Lib.hid (And.intro hl2 (And.intro hs2 (And.intro (fun (l : Li) (hq : l ∈ cs2) => show l.xs.length ≤ 1048576 from HV.out.2.2 l.xs (by rw [← hs2]; exact List.mem_map_of_mem hq)) ho.row)))
    clear hk ho hl2 hs2
    refine hK.out _ _ ?_ (fun hHeld => ?_)
    · exact ⟨HX.out.cell, HS.out.cell⟩
    clear hK K
    try simp only [Act.put, List.setIfInBounds_toArray, List.set_cons_zero, List.set_cons_succ]
    refine wpAnyH_ready (rs := [5]) (by kernel_rfl) (by simp) ?_
    refine AllReadyH.cons rfl (fun K hK => ?_) AllReadyH.nil
    go_simp
    go_at_call 22
    refine (sameTable_val (show decide (ll cs1 = ll cs2) = true by rw [IX.out.2.1, IY.out.2.1]; simp) IX.out.1 IY.out.1 HX.out.2.1 IY.out.2.2.2 hn1 hn1 IX.out.2.2 IY.out.2.2.1).mono ?_
    rintro e w3 ⟨rfl, hk⟩
    replace HS := Lib.hid (HS.out.keep hk)
    replace HX := Lib.hid (HX.out.keep hk)
    replace HD := Lib.hid (And.intro HD.out.1 (HD.out.2.keep hk))
    clear hk IY
    refine hK.out _ _ ?_ (fun hHeld => ?_)
    · exact ⟨HX.out.cell, HS.out.cell⟩
    clear hK K
    try simp only [Act.put, List.setIfInBounds_toArray, List.set_cons_zero, List.set_cons_succ]
    refine heldY 6 33 ?_
    refine wpAnyH_done (by kernel_rfl) ?_ _
    clear hHeld
    have bHS := HS.out.cell
    have bHX := HX.out.cell
    cases hd : devB bs
    · have hcs : ll cs1 = [] := by rw [IX.out.2.1, ← HV.out.1, rollV_no (by rw [hd]; rfl)]
      have HC := Lib.hid (And.intro hcs hd)
      clear hcs hd
      go_wp2_with fail
      refine (deviceValid_val HD.out.1.1 HC.out.2 _ HD.out.2.1 hnd HD.out.1.2).mono ?_
      rintro e w4 ⟨rfl, hk⟩
      replace HX := Lib.hid (HX.out.keep hk)
      clear hk bHX bHS
      have bHX := HX.out.cell
      go_wp2_with fail
      refine (sameTable_val (ms := []) (A' := none) (n' := 0) (c' := 0) (show decide (ll cs1 = ll []) = true by rw [HC.out.1]; rfl) IX.out.1 rfl HX.out.2.1 TRow.nil hn1 (Nat.zero_le _) IX.out.2.2 (fun l hl => by simp at hl)).mono ?_
      rintro e w5 ⟨rfl, hk⟩
      replace HX := Lib.hid (HX.out.keep hk)
      clear hk bHX
      go_wp2_with (go_at_call 19; refine (alive_any _).mono ?_; rintro e w' ⟨rfl, rfl⟩)
      go_ret
      exact ⟨rfl, HX.out.2.2⟩
    · cases hv : tabB (ll ls)
      · have hcs : ll cs1 = [] := by rw [IX.out.2.1, ← HV.out.1, rollV_no (by rw [hd, hv]; rfl)]
        have HC := Lib.hid (And.intro hcs (And.intro hd hv))
        clear hcs hd hv
        go_wp2_with fail
        refine (deviceValid_val HD.out.1.1 HC.out.2.1 _ HD.out.2.1 hnd HD.out.1.2).mono ?_
        rintro e w4 ⟨rfl, hk⟩
        replace HX := Lib.hid (HX.out.keep hk)
        replace HS := Lib.hid (HS.out.keep hk)
        clear hk bHX bHS
        have bHS := HS.out.cell
        go_wp2_with fail
        refine (tabValid_val HC.out.2.2 HL.out.1 HS.out.2.1 hn HL.out.2).mono ?_
        rintro e w5 ⟨rfl, hk⟩
        replace HX := Lib.hid (HX.out.keep hk)
        clear hk bHS
        have bHX := HX.out.cell
        go_wp2_with fail
        refine (sameTable_val (ms := []) (A' := none) (n' := 0) (c' := 0) (show decide (ll cs1 = ll []) = true by rw [HC.out.1]; rfl) IX.out.1 rfl HX.out.2.1 TRow.nil hn1 (Nat.zero_le _) IX.out.2.2 (fun l hl => by simp at hl)).mono ?_
        rintro e w6 ⟨rfl, hk⟩
        replace HX := Lib.hid (HX.out.keep hk)
        clear hk bHX
        go_wp2_with (go_at_call 19; refine (alive_any _).mono ?_; rintro e w' ⟨rfl, rfl⟩)
        go_ret
        exact ⟨rfl, HX.out.2.2⟩
      · obtain ⟨L, hL⟩ : ∃ L, sinV bs s = L := ⟨_, rfl⟩
        obtain ⟨n1, hnL⟩ : ∃ n1, L.length = n1 := ⟨_, rfl⟩
        have hn48 : n1 ≤ 48 := by rw [← hnL, ← hL]; exact sinV_small _ _
        have hn2 : n1 ≤ 1048576 := by omega
        have HC := Lib.hid (And.intro hd (And.intro hv (And.intro (show tabB (ll cs1) = true by rw [IX.out.2.1, ← HV.out.1]; exact rollV_tab hd hv s) (fun (f k : Nat) (hf : f < 8) (hk : k < 6) => roll_get (R := ll cs1) hd hv (by rw [IX.out.2.1]; exact HV.out.1) hL hf hk))))
        have HI := Lib.hid (And.intro hL hnL)
        have HG := Lib.hid (fun (x : Int) (hx : x ∈ L) => sinV_page (bs := bs) (s := s) (x := x) (by rw [hL]; exact hx))
        clear hd hv hL hnL
        go_wp2_with fail
        refine (deviceValid_val HD.out.1.1 HC.out.1 _ HD.out.2.1 hnd HD.out.1.2).mono ?_
        rintro e w4 ⟨rfl, hk⟩
        replace HX := Lib.hid (HX.out.keep hk)
        replace HS := Lib.hid (HS.out.keep hk)
        replace HD := Lib.hid (And.intro HD.out.1 (HD.out.2.keep hk))
        clear hk bHX bHS
        have bHS := HS.out.cell
        go_wp2_with fail
        refine (tabValid_val HC.out.2.1 HL.out.1 HS.out.2.1 hn HL.out.2).mono ?_
        rintro e w5 ⟨rfl, hk⟩
        replace HX := Lib.hid (HX.out.keep hk)
        replace HS := Lib.hid (HS.out.keep hk)
        replace HD := Lib.hid (And.intro HD.out.1 (HD.out.2.keep hk))
        clear hk bHS
        go_wp2_with fail
        refine (since_val HI.out.1 HI.out.2 HD.out.1.1 HD.out.2.1 hnd HD.out.1.2).mono ?_
        rintro e w6 ⟨AP, cP, rfl, hlP, ho, hk⟩
        replace HX := Lib.hid (HX.out.keep hk)
        replace HS := Lib.hid (HS.out.keep hk)
        replace HD := Lib.hid (And.intro HD.out.1 (HD.out.2.keep hk))
        have HP := Lib.hid (And.intro hlP (VOwn.row ho))
        clear hk ho hlP
        go_wp2
        go_loopw [8] (fun i wr => ∃ f : Nat, i = .int .i64 f ∧ f ≤ 8 ∧ (LV w wa.heap.size A n c ls wr ∧ LV w w1.heap.size A1 m c1 cs1 wr) ∧ LD w D bs wr ∧ IRow wr wr.heap.size AP L) (fun i _ => 8 - (intOf i).toNat)
        case atStart => exact ⟨0, rfl, Nat.zero_le _, ⟨HS.out, HX.out⟩, HD.out.2, HP.out.2⟩
        case round =>
          rename World => wq
          obtain ⟨f, rfl, hf8, ⟨hS, hX⟩, hD, hP⟩ := hrel
          replace HS := Lib.hid hS
          replace HX := Lib.hid hX
          replace HD := Lib.hid (And.intro HD.out.1 hD)
          replace HP := Lib.hid (And.intro HP.out.1 hP)
          clear hS hX hD hP
          by_cases hf : f < 8
          · have f1 : (f : Int) < 8 := by omega
            go_wp2
            go_loopw [9] (fun i wr => ∃ k : Nat, i = .int .i64 k ∧ k ≤ 6 ∧ (LV w wa.heap.size A n c ls wr ∧ LV w w1.heap.size A1 m c1 cs1 wr) ∧ LD w D bs wr ∧ IRow wr wr.heap.size AP L) (fun i _ => 6 - (intOf i).toNat)
            case atStart => exact ⟨0, rfl, Nat.zero_le _, ⟨HS.out, HX.out⟩, HD.out.2, HP.out.2⟩
            case round =>
              rename World => wz
              obtain ⟨k, rfl, hk6, ⟨hS, hX⟩, hD, hP⟩ := hrel
              replace HS := Lib.hid hS
              replace HX := Lib.hid hX
              replace HD := Lib.hid (And.intro HD.out.1 hD)
              replace HP := Lib.hid (And.intro HP.out.1 hP)
              clear hS hX hD hP
              by_cases hk : k < 6
              · have k1 : decide ((k : Int) ≤ 5) = true := decide_eq_true (by omega)
                obtain ⟨y, hy, hw⟩ := HC.out.2.2.2 f k hf hk
                obtain ⟨b, hb⟩ : ∃ b, L.contains y = b := ⟨_, rfl⟩
                rw [hb] at hw
                have HY := Lib.hid (And.intro hy (And.intro hb hw))
                clear hy hb hw
                have bHS := HS.out.cell
                go_wp2_with fail
                refine (get_v HY.out.1 HL.out.1 HS.out.2.1 hn HL.out.2).mono ?_
                rintro e w7 ⟨rfl, hk7⟩
                replace HX := Lib.hid (HX.out.keep hk7)
                replace HS := Lib.hid (HS.out.keep hk7)
                replace HD := Lib.hid (And.intro HD.out.1 (HD.out.2.keep hk7))
                replace HP := Lib.hid (And.intro HP.out.1 (IRow.keepN HP.out.2 hk7))
                clear hk7 bHS
                go_wp2_with fail
                refine (hasInt_val HY.out.2.1 HP.out.1 HP.out.2 hn2).mono ?_
                rintro e w8 ⟨rfl, hk8⟩
                replace HX := Lib.hid (HX.out.keep hk8)
                replace HS := Lib.hid (HS.out.keep hk8)
                replace HD := Lib.hid (And.intro HD.out.1 (HD.out.2.keep hk8))
                replace HP := Lib.hid (And.intro HP.out.1 (IRow.keepN HP.out.2 hk8))
                clear hk8
                obtain ⟨z, hz⟩ : ∃ z : Int, (if b = true then -1 else y) = z := ⟨_, rfl⟩
                have hwz := HY.out.2.2
                rw [hz] at hwz
                replace HY := Lib.hid hwz
                clear hwz
                cases b
                · obtain rfl : y = z := by simpa using hz
                  clear hz
                  go_wp2
                  go_loopw [10, 11] (fun u i wr => ∃ j : Nat, i = .int .i64 j ∧ j ≤ n1 ∧ u = .int .i64 (wantV bs L (f : Int) (k : Int) y j) ∧ (LV w wa.heap.size A n c ls wr ∧ LV w w1.heap.size A1 m c1 cs1 wr) ∧ LD w D bs wr ∧ IRow wr wr.heap.size AP L) (fun _ i _ => n1 - (intOf i).toNat)
                  case atStart => exact ⟨0, rfl, Nat.zero_le _, rfl, ⟨HS.out, HX.out⟩, HD.out.2, HP.out.2⟩
                  case round =>
                    rename World => wv
                    obtain ⟨j, rfl, hjn, rfl, ⟨hS, hX⟩, hD, hP⟩ := hrel
                    replace HS := Lib.hid hS
                    replace HX := Lib.hid hX
                    replace HD := Lib.hid (And.intro HD.out.1 hD)
                    replace HP := Lib.hid (And.intro HP.out.1 hP)
                    clear hS hX hD hP
                    by_cases hj : j < n1
                    · have j1 : (j : Int) < (n1 : Int) := by omega
                      have j0 : decide ((0 : Int) ≤ (j : Int)) = true := decide_eq_true (by omega)
                      obtain ⟨gP, oP, rfl⟩ := HP.out.2.pos (by have := HP.out.1; omega)
                      obtain ⟨x, hx⟩ : ∃ x, L[j]? = some x := ⟨_, List.getElem?_eq_getElem (by have := HP.out.1; omega)⟩
                      have c0 := HP.out.2.cellf hx
                      obtain ⟨a, pf, pk, pv, d, rfl, _, _, hrv, _, _, _⟩ := HG.out x (List.mem_of_getElem? hx)
                      have HW := Lib.hid (And.intro hrv hx)
                      clear hrv hx
                      go_wp2_with fail
                      refine (read_v HW.out.1 HD.out.1.1 HD.out.2.1 hnd HD.out.1.2).mono ?_
                      rintro e w9 ⟨rfl, hk9⟩
                      have K9 := grown_alloc hk9 (.cells #[.bool true, .int .i64 (pf : Int), .int .i64 (pk : Int), .int .i64 pv, .int .i64 d] 30)
                      replace HX := Lib.hid (HX.out.keep K9)
                      replace HS := Lib.hid (HS.out.keep K9)
                      replace HD := Lib.hid (And.intro HD.out.1 (HD.out.2.keep K9))
                      replace HP := Lib.hid (And.intro HP.out.1 (IRow.keepN HP.out.2 K9))
                      obtain ⟨p0, p1, p2, p3, p4⟩ := cells5 (Blk.new w9 30 #[.bool true, .int .i64 (pf : Int), .int .i64 (pk : Int), .int .i64 pv, .int .i64 d])
                      replace c0 := HP.out.2.cellf HW.out.2
                      clear hk9 K9
                      by_cases hpf : pf = f
                      · have e1 : ((pf : Int) == (f : Int)) = true := by rw [beq_iff_eq]; omega
                        by_cases hpk : pk = k
                        · have e2 : ((pk : Int) == (k : Int)) = true := by rw [beq_iff_eq]; omega
                          have HE := Lib.hid (want_yes (bs := bs) (z := y) HW.out.2 (show (readV bs (a : Int)).a = (f : Int) by rw [HW.out.1]; dsimp only; omega) (show (readV bs (a : Int)).b = (k : Int) by rw [HW.out.1]; dsimp only; omega))
                          clear hpf hpk
                          go_wp2
                          go_roundw
                          case rel => exact ⟨j + 1, by go_num, by omega, by rw [HE.out], ⟨HS.out, HX.out⟩, HD.out.2, HP.out.2⟩
                          case measure => simp [intOf]; omega
                        · have e2 : ((pk : Int) == (k : Int)) = false := by rw [beq_eq_false_iff_ne]; omega
                          have HE := Lib.hid (want_no (bs := bs) (z := y) (f := (f : Int)) (j := (k : Int)) HW.out.2 (by rw [HW.out.1]; dsimp only; omega))
                          clear hpf hpk
                          go_wp2
                          go_roundw
                          case rel => exact ⟨j + 1, by go_num, by omega, by rw [HE.out], ⟨HS.out, HX.out⟩, HD.out.2, HP.out.2⟩
                          case measure => simp [intOf]; omega
                      · have e1 : ((pf : Int) == (f : Int)) = false := by rw [beq_eq_false_iff_ne]; omega
                        have HE := Lib.hid (want_no (bs := bs) (z := y) (f := (f : Int)) (j := (k : Int)) HW.out.2 (by rw [HW.out.1]; dsimp only; omega))
                        clear hpf
                        go_wp2
                        go_roundw
                        case rel => exact ⟨j + 1, by go_num, by omega, by rw [HE.out], ⟨HS.out, HX.out⟩, HD.out.2, HP.out.2⟩
                        case measure => simp [intOf]; omega
                    · obtain rfl : j = n1 := by omega
                      have hV := HY.out
                      rw [HI.out.2] at hV
                      obtain ⟨V, hVV⟩ : ∃ V, wantV bs L (f : Int) (k : Int) y j = V := ⟨_, rfl⟩
                      rw [hVV] at hV ⊢
                      have HE := Lib.hid hV
                      have tVV : (V != V) = false := by simp
                      have bHX := HX.out.cell
                      clear hV hVV
                      go_wp2_with fail
                      refine (get_v HE.out IX.out.1 HX.out.2.1 hn1 IX.out.2.2).mono ?_
                      rintro e w9 ⟨rfl, hk9⟩
                      replace HX := Lib.hid (HX.out.keep hk9)
                      replace HS := Lib.hid (HS.out.keep hk9)
                      replace HD := Lib.hid (And.intro HD.out.1 (HD.out.2.keep hk9))
                      replace HP := Lib.hid (And.intro HP.out.1 (IRow.keepN HP.out.2 hk9))
                      clear hk9 bHX
                      go_wp2
                      go_roundw
                      case rel => exact ⟨k + 1, by go_num, by omega, ⟨HS.out, HX.out⟩, HD.out.2, HP.out.2⟩
                      case measure => simp [intOf]; omega
                · obtain rfl : -1 = z := by simpa using hz
                  clear hz
                  go_wp2
                  go_loopw [10, 11] (fun u i wr => ∃ j : Nat, i = .int .i64 j ∧ j ≤ n1 ∧ u = .int .i64 (wantV bs L (f : Int) (k : Int) (-1) j) ∧ (LV w wa.heap.size A n c ls wr ∧ LV w w1.heap.size A1 m c1 cs1 wr) ∧ LD w D bs wr ∧ IRow wr wr.heap.size AP L) (fun _ i _ => n1 - (intOf i).toNat)
                  case atStart => exact ⟨0, rfl, Nat.zero_le _, rfl, ⟨HS.out, HX.out⟩, HD.out.2, HP.out.2⟩
                  case round =>
                    rename World => wv
                    obtain ⟨j, rfl, hjn, rfl, ⟨hS, hX⟩, hD, hP⟩ := hrel
                    replace HS := Lib.hid hS
                    replace HX := Lib.hid hX
                    replace HD := Lib.hid (And.intro HD.out.1 hD)
                    replace HP := Lib.hid (And.intro HP.out.1 hP)
                    clear hS hX hD hP
                    by_cases hj : j < n1
                    · have j1 : (j : Int) < (n1 : Int) := by omega
                      have j0 : decide ((0 : Int) ≤ (j : Int)) = true := decide_eq_true (by omega)
                      obtain ⟨gP, oP, rfl⟩ := HP.out.2.pos (by have := HP.out.1; omega)
                      obtain ⟨x, hx⟩ : ∃ x, L[j]? = some x := ⟨_, List.getElem?_eq_getElem (by have := HP.out.1; omega)⟩
                      have c0 := HP.out.2.cellf hx
                      obtain ⟨a, pf, pk, pv, d, rfl, _, _, hrv, _, _, _⟩ := HG.out x (List.mem_of_getElem? hx)
                      have HW := Lib.hid (And.intro hrv hx)
                      clear hrv hx
                      go_wp2_with fail
                      refine (read_v HW.out.1 HD.out.1.1 HD.out.2.1 hnd HD.out.1.2).mono ?_
                      rintro e w9 ⟨rfl, hk9⟩
                      have K9 := grown_alloc hk9 (.cells #[.bool true, .int .i64 (pf : Int), .int .i64 (pk : Int), .int .i64 pv, .int .i64 d] 30)
                      replace HX := Lib.hid (HX.out.keep K9)
                      replace HS := Lib.hid (HS.out.keep K9)
                      replace HD := Lib.hid (And.intro HD.out.1 (HD.out.2.keep K9))
                      replace HP := Lib.hid (And.intro HP.out.1 (IRow.keepN HP.out.2 K9))
                      obtain ⟨p0, p1, p2, p3, p4⟩ := cells5 (Blk.new w9 30 #[.bool true, .int .i64 (pf : Int), .int .i64 (pk : Int), .int .i64 pv, .int .i64 d])
                      replace c0 := HP.out.2.cellf HW.out.2
                      clear hk9 K9
                      by_cases hpf : pf = f
                      · have e1 : ((pf : Int) == (f : Int)) = true := by rw [beq_iff_eq]; omega
                        by_cases hpk : pk = k
                        · have e2 : ((pk : Int) == (k : Int)) = true := by rw [beq_iff_eq]; omega
                          have HE := Lib.hid (want_yes (bs := bs) (z := (-1)) HW.out.2 (show (readV bs (a : Int)).a = (f : Int) by rw [HW.out.1]; dsimp only; omega) (show (readV bs (a : Int)).b = (k : Int) by rw [HW.out.1]; dsimp only; omega))
                          clear hpf hpk
                          go_wp2
                          go_roundw
                          case rel => exact ⟨j + 1, by go_num, by omega, by rw [HE.out], ⟨HS.out, HX.out⟩, HD.out.2, HP.out.2⟩
                          case measure => simp [intOf]; omega
                        · have e2 : ((pk : Int) == (k : Int)) = false := by rw [beq_eq_false_iff_ne]; omega
                          have HE := Lib.hid (want_no (bs := bs) (z := (-1)) (f := (f : Int)) (j := (k : Int)) HW.out.2 (by rw [HW.out.1]; dsimp only; omega))
                          clear hpf hpk
                          go_wp2
                          go_roundw
                          case rel => exact ⟨j + 1, by go_num, by omega, by rw [HE.out], ⟨HS.out, HX.out⟩, HD.out.2, HP.out.2⟩
                          case measure => simp [intOf]; omega
                      · have e1 : ((pf : Int) == (f : Int)) = false := by rw [beq_eq_false_iff_ne]; omega
                        have HE := Lib.hid (want_no (bs := bs) (z := (-1)) (f := (f : Int)) (j := (k : Int)) HW.out.2 (by rw [HW.out.1]; dsimp only; omega))
                        clear hpf
                        go_wp2
                        go_roundw
                        case rel => exact ⟨j + 1, by go_num, by omega, by rw [HE.out], ⟨HS.out, HX.out⟩, HD.out.2, HP.out.2⟩
                        case measure => simp [intOf]; omega
                    · obtain rfl : j = n1 := by omega
                      have hV := HY.out
                      rw [HI.out.2] at hV
                      obtain ⟨V, hVV⟩ : ∃ V, wantV bs L (f : Int) (k : Int) (-1) j = V := ⟨_, rfl⟩
                      rw [hVV] at hV ⊢
                      have HE := Lib.hid hV
                      have tVV : (V != V) = false := by simp
                      have bHX := HX.out.cell
                      clear hV hVV
                      go_wp2_with fail
                      refine (get_v HE.out IX.out.1 HX.out.2.1 hn1 IX.out.2.2).mono ?_
                      rintro e w9 ⟨rfl, hk9⟩
                      replace HX := Lib.hid (HX.out.keep hk9)
                      replace HS := Lib.hid (HS.out.keep hk9)
                      replace HD := Lib.hid (And.intro HD.out.1 (HD.out.2.keep hk9))
                      replace HP := Lib.hid (And.intro HP.out.1 (IRow.keepN HP.out.2 hk9))
                      clear hk9 bHX
                      go_wp2
                      go_roundw
                      case rel => exact ⟨k + 1, by go_num, by omega, ⟨HS.out, HX.out⟩, HD.out.2, HP.out.2⟩
                      case measure => simp [intOf]; omega
              · obtain rfl : k = 6 := by omega
                go_wp2
                go_roundw
                case rel => exact ⟨f + 1, by go_num, by omega, ⟨HS.out, HX.out⟩, HD.out.2, HP.out.2⟩
                case measure => simp [intOf]; omega
          · obtain rfl : f = 8 := by omega
            have bHX := HX.out.cell
            go_wp2_with fail
            refine (tabValid_val HC.out.2.2.1 IX.out.1 HX.out.2.1 hn1 IX.out.2.2).mono ?_
            rintro e w9 ⟨rfl, hk9⟩
            replace HX := Lib.hid (HX.out.keep hk9)
            clear hk9 bHX
            go_wp2
            go_ret
            exact ⟨rfl, HX.out.2.2⟩

/-! ### THE ROW's STEP: WRITTEN OUT: LEAVE IT -/
set_option maxRecDepth 100000 in
theorem lifted (os : Os) (started : os.Started) (H : Type) (enc : TypeId × Value → H) :
    ReturnsInHanded {} Try.checked os 4 .any (Rows.fnRollForwardSpec.pre6 enc Try.prog Try.f4 Rows.fnRollForwardRow.domain false) (Rows.fnRollForwardSpec.post enc Try.prog Try.f4 false true false false) := by
  refine returnsInHanded_of_change (C := Try.checked) own started (by kernel_rfl) Try.func4
    (ChangeSpec.witness6 (enc := enc) (C := Try.checked) false ⟨#[], #[.slice none 0 0], []⟩ 8 (by kernel_rfl) (by kernel_rfl) (by kernel_rfl) (by kernel_rfl)) ?_
  intro W base args ds gs before hval0 hW hcnd _
  have hval : ∀ (j : Nat) t v, Try.f4.params[j]? = some t → args[j]? = some v → Value.okWide Try.prog W .any base t v := hval0
  have hW' := hW
  obtain ⟨p, q, hA0, hV, rfl, hfz, hnd⟩ := hW
  have hA : DataW.TrodAll enc Try.prog W 0 (fun _ => true) true Try.f4.params.toList args.toList ds p := hA0
  rw [Try.params4] at hA hval
  obtain ⟨v0, vs0, d0, ds0, p0, q0, hargs, rfl, rfl, h0, r0⟩ := trodAll_cons hA
  obtain ⟨rfl, rfl, rfl⟩ := trodAll_nil r0
  obtain rfl : args = #[v0] := by cases args; simp_all
  obtain ⟨rfl, rfl⟩ := trodVars_none hV
  obtain ⟨a0, len0, cap0, rfl⟩ := okWide_slice Try.underlying22 (hval 0 22 v0 rfl rfl)
  have k0 := h0
  have lt0 : ∀ x ∈ p0, x.block < W.heap.size := by obtain ⟨m, hm⟩ := k0; exact DataW.trod_lt m _ _ _ hm
  obtain ⟨z0, w0⟩ : ∃ zs, IsRow .u8 W a0 len0 cap0 zs := by
    obtain ⟨fuel, hf⟩ := h0
    rcases open_ints Try.underlying22 Try.underlying5 (by kernel_rfl) hf with ⟨hcs, _⟩ | ⟨x, l, c, zs, hcs, _, hl, hm, hz, _, hcell, hwz⟩
    · simp [Value.cells] at hcs
      obtain ⟨rfl, rfl, rfl⟩ := hcs
      exact ⟨[], .inl ⟨rfl, rfl, rfl, rfl⟩⟩
    · simp [Value.cells] at hcs
      obtain ⟨rfl, rfl, rfl⟩ := hcs
      exact ⟨zs, .inr ⟨_, rfl, hl, hm, by simpa using hz, hcell, hwz⟩⟩
  clear hA0 hval0
  refine (walk a0 len0 cap0 z0 W w0).mono fun e W' ⟨he, bel⟩ => ?_
  subst he
  exact ⟨_, rfl, _, _, _, [], _, [], hW', trodAll_mk1 (shut_bool Try.underlying4 _), (trodAll_cons_mk (Below.trod laidOut (by kernel_rfl) (of_decide_eq_true (by kernel_rfl)) k0 bel lt0) trodAll_mk0), rfl, bel.frame _, fun h => by cases h⟩

theorem over : Rows.fnRollForwardRow.holds Try.pinned (OpenSpec.ofChange Rows.fnRollForwardSpec) :=
  OpenClaim.holds_of_wide 4 Try.f4 rfl rfl rfl rfl rfl rfl rfl ⟨rfl, rfl, rfl, rfl, rfl⟩ rfl rfl rfl rfl rfl (by kernel_rfl) Try.func4 (by kernel_rfl)
    (of_decide_eq_true (by kernel_rfl)) (by unfold Func.isWrapper; first | (rw [if_pos (by decide +kernel)]; kernel_rfl) | (rw [if_neg (by decide +kernel)]; exact ⟨rfl, rfl⟩))
    (fun os started H enc _ => lifted os started H enc)

/-- ████ THE STATEMENT ████ -/
theorem proved : Rows.FnRollForwardSaid := over
#print axioms proved
end Go.Proofs.Yteniikfgellhfaa.fnRollForward
