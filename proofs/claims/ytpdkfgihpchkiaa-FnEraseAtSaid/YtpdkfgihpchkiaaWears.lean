/- What the program's functions of chapter 16 answer. -/
import Derived.Test.YtpdkfgihpchkiaaHeads7
namespace Go.Proofs.Ytpdkfgihpchkiaa
open Go.ChangeShapes Go.WideShapes Go.ChangeAt Go.RowKit
set_option linter.unusedVariables false

theorem leastMost_val {A : Option Addr} {n c : Nat} {bs : List Bk} {lo hi : Int} {w : World} (h1 : lowTo bs n = lo) (h2 : topTo bs n = hi) (hl : bs.length = n) (hr : DRow w w.heap.size A bs) (hn : n ≤ 1048576) :
    Calls Try.prog 81 #[.slice A n c] w (fun e w' => e = .returned (.tuple #[.int .i64 lo, .int .i64 hi]) ∧ w.grownBy w' none) := by
  have HE := Lib.hid (And.intro h1 (And.intro h2 hl))
  have HS : RowKit.Hid (VD w A bs w) := Lib.hid ⟨hr, grown_refl _ _⟩
  clear h1 h2 hl hr
  go_enter Try.func81, Try.ntmps81
  go_wp2_with fail
  go_loopw [4, 5, 10] (fun a b i wr => ∃ k : Nat, i = .int .i64 k ∧ a = .int .i64 (lowTo bs k) ∧ b = .int .i64 (topTo bs k) ∧ k ≤ n ∧ VD w A bs wr) (fun _ _ i _ => n - (intOf i).toNat)
  case atStart => exact ⟨0, rfl, rfl, rfl, Nat.zero_le _, HS.out⟩
  case round =>
    obtain ⟨k, rfl, rfl, rfl, hkn, hS⟩ := hrel
    clear HS
    have HS := Lib.hid hS
    clear hS
    obtain ⟨l, hlo⟩ : ∃ l, lowTo bs k = l := ⟨_, rfl⟩
    obtain ⟨t, hhi⟩ : ∃ t, topTo bs k = t := ⟨_, rfl⟩
    rw [hlo, hhi]
    by_cases hlt : k < n
    · obtain ⟨g, off, m, Ab, cb, ps, rfl, hgw, hgr, hb, c0, c1, hrow⟩ := HS.out.1.at_ (show k < bs.length by have := HE.out.2.2; omega)
      have HK := Lib.hid (And.intro (low_step hb) (top_step hb))
      rw [hlo, hhi] at HK
      have n1 : g ≠ wr.heap.size := by omega
      have n2 : wr.heap.size ≠ g := by omega
      have HV := Lib.hid (Blk.new wr 34 #[.int .i64 m, .slice Ab ps.length cb])
      replace HS := Lib.hid (HS.out.keep (grown_alloc (grown_refl wr none) (.cells #[.int .i64 m, .slice Ab ps.length cb] 34)))
      obtain ⟨v0, _⟩ : (wr.alloc (.cells #[.int .i64 m, .slice Ab ps.length cb] 34)).cell? ⟨wr.heap.size, 0, none⟩ = some (.int .i64 m) ∧ True := ⟨HV.out.cell 0, trivial⟩
      have k3 : (k : Int) < n := by omega
      clear hb hrow hlo hhi
      rcases Int.lt_or_le m l with t1 | t1
      · rcases Int.lt_or_le t m with t2 | t2
        all_goals
          have HT := Lib.hid (And.intro t1 t2)
          have t1 := decide_eq_true t1
          first | have t2 := decide_eq_true (show t < m from t2) | have t2 := decide_eq_false (show ¬ t < m by omega)
          go_wp2
          all_goals
            go_roundw
            case rel => exact ⟨k + 1, by go_num, by rw [HK.out.1, Int.min_comm, min_lt HT.out.1], by first | rw [HK.out.2, max_lt HT.out.2] | rw [HK.out.2, max_ge HT.out.2], by omega, HS.out⟩
            case measure => simp [intOf]; omega
      · rcases Int.lt_or_le t m with t2 | t2
        all_goals
          have HT := Lib.hid (And.intro t1 t2)
          have t1 := decide_eq_false (show ¬ m < l by omega)
          first | have t2 := decide_eq_true (show t < m from t2) | have t2 := decide_eq_false (show ¬ t < m by omega)
          go_wp2
          all_goals
            go_roundw
            case rel => exact ⟨k + 1, by go_num, by rw [HK.out.1, Int.min_comm, min_ge HT.out.1], by first | rw [HK.out.2, max_lt HT.out.2] | rw [HK.out.2, max_ge HT.out.2], by omega, HS.out⟩
            case measure => simp [intOf]; omega
    · obtain rfl : k = n := by omega
      have h3 := HE.out.1
      have h4 := HE.out.2.1
      rw [hlo] at h3
      rw [hhi] at h4
      clear hlo hhi HE
      subst h3
      subst h4
      go_wp2
      go_ret2
      exact ⟨rfl, HS.out.2⟩
theorem spreadImp_any (A : Option Addr) (n c : Nat) (bs : List Bk) (w : World) (hl : bs.length = n) (hr : DRow w w.heap.size A bs) (hn : n ≤ 1048576) (hp : ∀ b, b ∈ bs → b.ps.length ≤ 1048576) :
    Calls Try.prog 29 #[.slice A n c] w (KeptV (.int .i64 (spreadV bs)) w) := by
  have HL := Lib.hid (And.intro hl hp)
  have HS : RowKit.Hid (VD w A bs w) := Lib.hid ⟨hr, grown_refl _ _⟩
  clear hl hp hr
  cases hd : devB bs
  · have HV := Lib.hid hd
    clear hd
    go_enter Try.func29, Try.ntmps29
    go_wp2_with fail
    refine (deviceValid_val HL.out.1 HV.out _ HS.out.row hn HL.out.2).mono ?_
    rintro e w1 ⟨rfl, hk⟩
    replace HS := Lib.hid (HS.out.keep hk)
    clear hk
    go_wp2
    go_ret
    exact ⟨retI (spread_no HV.out).symm, HS.out.2⟩
  · have HV := Lib.hid hd
    obtain ⟨lo, hlo⟩ : ∃ lo, lowTo bs n = lo := ⟨_, rfl⟩
    obtain ⟨hi, hhi⟩ : ∃ hi, topTo bs n = hi := ⟨_, rfl⟩
    have lob := low_in hd n
    have hib := top_in hd n
    have hsp := spread_of hd
    rw [HL.out.1, hlo, hhi] at hsp
    rw [hlo] at lob
    rw [hhi] at hib
    have HM := Lib.hid (And.intro hlo (And.intro hhi hsp))
    clear hd hlo hhi hsp
    go_enter Try.func29, Try.ntmps29
    go_wp2_with fail
    refine (deviceValid_val HL.out.1 HV.out _ HS.out.row hn HL.out.2).mono ?_
    rintro e w1 ⟨rfl, hk⟩
    replace HS := Lib.hid (HS.out.keep hk)
    clear hk
    go_wp2_with fail
    refine (leastMost_val HM.out.1 HM.out.2.1 HL.out.1 HS.out.row hn).mono ?_
    rintro e w2 ⟨rfl, hk⟩
    replace HS := Lib.hid (HS.out.keep hk)
    clear hk
    go_wp2
    go_ret
    exact ⟨retI HM.out.2.2.symm, HS.out.2⟩
theorem spread_val {A : Option Addr} {n c : Nat} {bs : List Bk} {V : Int} {w : World} (hV : spreadV bs = V) (hl : bs.length = n) (hr : DRow w w.heap.size A bs) (hn : n ≤ 1048576) (hp : ∀ b, b ∈ bs → b.ps.length ≤ 1048576) :
    Calls Try.prog 29 #[.slice A n c] w (KeptV (.int .i64 V) w) := hV ▸ spreadImp_any A n c bs w hl hr hn hp
theorem totalImp_any (A : Option Addr) (n c : Nat) (bs : List Bk) (w : World) (hl : bs.length = n) (hr : DRow w w.heap.size A bs) (hn : n ≤ 1048576) (hp : ∀ b, b ∈ bs → b.ps.length ≤ 1048576) :
    Calls Try.prog 32 #[.slice A n c] w (KeptV (.int .i64 (totalV bs)) w) := by
  have HL := Lib.hid (And.intro hl hp)
  have HS : RowKit.Hid (VD w A bs w) := Lib.hid ⟨hr, grown_refl _ _⟩
  clear hl hp hr
  cases hd : devB bs
  · have HV := Lib.hid hd
    clear hd
    go_enter Try.func32, Try.ntmps32
    go_wp2_with fail
    refine (deviceValid_val HL.out.1 HV.out _ HS.out.row hn HL.out.2).mono ?_
    rintro e w1 ⟨rfl, hk⟩
    replace HS := Lib.hid (HS.out.keep hk)
    clear hk
    go_wp2
    go_ret
    exact ⟨retI (total_no HV.out).symm, HS.out.2⟩
  · have HV := Lib.hid hd
    obtain ⟨⟨hn1, hn12⟩, _⟩ := dev_parts hd
    rw [HL.out.1] at hn1 hn12
    clear hd
    go_enter Try.func32, Try.ntmps32
    go_wp2_with fail
    refine (deviceValid_val HL.out.1 HV.out _ HS.out.row hn HL.out.2).mono ?_
    rintro e w1 ⟨rfl, hk⟩
    replace HS := Lib.hid (HS.out.keep hk)
    clear hk
    go_wp2_with fail
    go_loopw [3, 11] (fun a i wr => ∃ k : Nat, i = .int .i64 k ∧ a = .int .i64 (wsTo bs k) ∧ k ≤ n ∧ VD w A bs wr) (fun _ i _ => n - (intOf i).toNat)
    case atStart => exact ⟨0, rfl, rfl, Nat.zero_le _, HS.out⟩
    case round =>
      obtain ⟨k, rfl, rfl, hkn, hS⟩ := hrel
      clear HS
      have HS := Lib.hid hS
      clear hS
      obtain ⟨u, hu⟩ : ∃ u, wsTo bs k = u := ⟨_, rfl⟩
      have hub := ws_in HV.out k
      rw [hu] at hub ⊢
      by_cases hlt : k < n
      · obtain ⟨g, off, m, Ab, cb, ps, rfl, hgw, hgr, hbk, c0, c1, hrk⟩ := HS.out.1.at_ (show k < bs.length by have := HL.out.1; omega)
        have hmk := wear_in HV.out k
        rw [wear_at hbk] at hmk
        dsimp only at hmk
        have HK := Lib.hid (ws_step hbk)
        rw [hu] at HK
        have n1 : g ≠ wr.heap.size := by omega
        have n2 : wr.heap.size ≠ g := by omega
        have HB := Lib.hid (Blk.new wr 34 #[.int .i64 m, .slice Ab ps.length cb])
        replace HS := Lib.hid (HS.out.keep (grown_alloc (grown_refl wr none) (.cells #[.int .i64 m, .slice Ab ps.length cb] 34)))
        obtain ⟨v0, _⟩ : (wr.alloc (.cells #[.int .i64 m, .slice Ab ps.length cb] 34)).cell? ⟨wr.heap.size, 0, none⟩ = some (.int .i64 m) ∧ True := ⟨HB.out.cell 0, trivial⟩
        have k3 : (k : Int) < n := by omega
        clear hbk hrk hu
        go_wp2
        go_roundw
        case rel => exact ⟨k + 1, by go_num, by rw [HK.out], by omega, HS.out⟩
        case measure => simp [intOf]; omega
      · obtain rfl : k = n := by omega
        have HE := Lib.hid (total_of HV.out)
        rw [HL.out.1, hu] at HE
        clear hu
        go_wp2
        go_ret
        exact ⟨retI HE.out.symm, HS.out.2⟩
theorem total_val {A : Option Addr} {n c : Nat} {bs : List Bk} {V : Int} {w : World} (hV : totalV bs = V) (hl : bs.length = n) (hr : DRow w w.heap.size A bs) (hn : n ≤ 1048576) (hp : ∀ b, b ∈ bs → b.ps.length ≤ 1048576) :
    Calls Try.prog 32 #[.slice A n c] w (KeptV (.int .i64 V) w) := hV ▸ totalImp_any A n c bs w hl hr hn hp
theorem rest_val {A : Option Addr} {n c : Nat} {bs : List Bk} {a b h V : Int} {w : World} (hV : restV n bs a b h = V) (hl : bs.length = n) (hr : DRow w w.heap.size A bs) (hn : n ≤ 1048576) (hp : ∀ b, b ∈ bs → b.ps.length ≤ 1048576) :
    Calls Try.prog 35 #[.slice A n c, .agg #[.int .i64 a, .int .i64 b, .int .i64 h]] w (KeptV (.int .i64 V) w) := by
  subst hV
  have HD := Lib.hid (And.intro hl hp)
  have HF := Lib.hid (FIn.start (a := a) (b := b) (h := h) hr)
  clear hl hr hp
  cases hv : (headsB n a b h && devB bs)
  · have HV := Lib.hid hv
    clear hv
    go_enter Try.func35, Try.ntmps35
    obtain ⟨p0, p1, p2⟩ := cells3 HF.out.1
    go_wp2_with fail
    refine (headsValid_val HV.out HD.out.1 HF.out.2.1.here hn HD.out.2).mono ?_
    rintro e w1 ⟨rfl, hk⟩
    replace HF := Lib.hid (HF.out.keep hk)
    clear hk p0 p1 p2
    go_wp2
    go_ret
    exact ⟨retI (rest_no HV.out).symm, HF.out.2.2⟩
  · have hdv : devB bs = true := by simp only [Bool.and_eq_true] at hv; exact hv.2
    have HV := Lib.hid (And.intro hv hdv)
    clear hv hdv
    by_cases hs : 5 < spreadV bs
    · have HW := Lib.hid hs
      have tw : decide (spreadV bs ≤ 5) = false := decide_eq_false (by omega)
      clear hs
      go_enter Try.func35, Try.ntmps35
      obtain ⟨p0, p1, p2⟩ := cells3 HF.out.1
      go_wp2_with fail
      refine (headsValid_val HV.out.1 HD.out.1 HF.out.2.1.here hn HD.out.2).mono ?_
      rintro e w1 ⟨rfl, hk⟩
      replace HF := Lib.hid (HF.out.keep hk)
      clear hk p0 p1 p2
      go_wp2_with fail
      refine (spread_val rfl HD.out.1 HF.out.2.1.here hn HD.out.2).mono ?_
      rintro e w2 ⟨rfl, hk⟩
      replace HF := Lib.hid (HF.out.keep hk)
      clear hk
      obtain ⟨p0, p1, p2⟩ := cells3 HF.out.1
      go_wp2_with fail
      refine (leastWorn_val rfl HV.out.2 HD.out.1 HF.out.2.1.here hn HD.out.2).mono ?_
      rintro e w3 ⟨rfl, hk⟩
      replace HF := Lib.hid (HF.out.keep hk)
      clear hk p0 p1 p2
      go_wp2
      go_ret
      exact ⟨retI (rest_of HV.out.1 HW.out).symm, HF.out.2.2⟩
    · have HW := Lib.hid hs
      have tw : decide (spreadV bs ≤ 5) = true := decide_eq_true (by omega)
      clear hs
      go_enter Try.func35, Try.ntmps35
      obtain ⟨p0, p1, p2⟩ := cells3 HF.out.1
      go_wp2_with fail
      refine (headsValid_val HV.out.1 HD.out.1 HF.out.2.1.here hn HD.out.2).mono ?_
      rintro e w1 ⟨rfl, hk⟩
      replace HF := Lib.hid (HF.out.keep hk)
      clear hk p0 p1 p2
      go_wp2_with fail
      refine (spread_val rfl HD.out.1 HF.out.2.1.here hn HD.out.2).mono ?_
      rintro e w2 ⟨rfl, hk⟩
      replace HF := Lib.hid (HF.out.keep hk)
      clear hk
      go_wp2
      go_ret
      exact ⟨retI (rest_low (by have := HW.out; omega)).symm, HF.out.2.2⟩
end Go.Proofs.Ytpdkfgihpchkiaa
