/- The last stamp of a device: plain facts.
   What LastStamp answers: the program's and the model's. -/
import Derived.Test.YteniikfgellhfaaRolls
import Derived.Test.YteniikfgellhfaaVicts
namespace Go.Proofs.Yteniikfgellhfaa
open Go.ChangeShapes Go.WideShapes Go.ChangeAt Go.RowKit
set_option linter.unusedVariables false

/-- What LastStamp answers. -/
def lastD (bs : List Bk) : Int := if devB bs then lastV (allP bs) else -1
theorem lastD_no {bs : List Bk} (h : devB bs = false) : lastD bs = -1 := by simp [lastD, h]
theorem lastD_yes {bs : List Bk} (h : devB bs = true) : lastD bs = lastV (allP bs) := by simp [lastD, h]
theorem lastV_from (ps : List Pg) (m : Int) : ps.foldl (fun m p => max m p.d) m = max m (ps.foldl (fun m p => max m p.d) m) := by
  induction ps generalizing m with
  | nil => simp
  | cons p r ih =>
    rw [List.foldl_cons, ih]
    omega
theorem lastV_base (ps : List Pg) (m : Int) (h : 0 ≤ m) : ps.foldl (fun m p => max m p.d) m = max m (lastV ps) := by
  unfold lastV
  induction ps generalizing m with
  | nil => simp; omega
  | cons p r ih =>
    rw [List.foldl_cons, List.foldl_cons, ih (max m p.d) (by omega), ih (max 0 p.d) (by omega)]
    omega
theorem lastV_pos (ps : List Pg) : 0 ≤ lastV ps := by
  have h := lastV_from ps 0
  unfold lastV
  omega
theorem lastV_append (a b : List Pg) : lastV (a ++ b) = max (lastV a) (lastV b) := by
  have h : lastV (a ++ b) = b.foldl (fun m p => max m p.d) (lastV a) := by simp only [lastV, List.foldl_append]
  rw [h, lastV_base _ _ (lastV_pos a)]
/-- The stamps of the first k blocks. -/
theorem lastB_step {bs : List Bk} {k : Nat} {b : Bk} (h : bs[k]? = some b) : lastV (allP (bs.take (k + 1))) = max (lastV (allP (bs.take k))) (lastV b.ps) := by
  have e : allP (bs.take (k + 1)) = allP (bs.take k) ++ b.ps := by
    unfold allP
    rw [List.take_add_one, h, List.flatMap_append]
    simp
  rw [e, lastV_append]
theorem last_mem (ps : List Pg) {p : Pg} (h : p ∈ ps) : p.d ≤ lastV ps := by
  obtain ⟨a, b, rfl⟩ := List.append_of_mem h
  have h1 : lastV (p :: b) = max p.d (lastV b) ∨ lastV (p :: b) = max 0 (lastV b) := by
    have := lastV_base b (max 0 p.d) (by omega)
    have e : lastV (p :: b) = b.foldl (fun m p => max m p.d) (max 0 p.d) := rfl
    have hb := lastV_pos b
    omega
  rw [lastV_append]
  have e : lastV (p :: b) = b.foldl (fun m p => max m p.d) (max 0 p.d) := rfl
  have := lastV_base b (max 0 p.d) (by omega)
  omega
theorem last_of (ps : List Pg) : lastV ps = 0 ∨ ∃ (i : Nat) (p : Pg), ps[i]? = some p ∧ lastV ps = p.d := by
  have key : ∀ k, lastV (ps.take k) = 0 ∨ ∃ (i : Nat) (p : Pg), ps[i]? = some p ∧ lastV (ps.take k) = p.d := by
    intro k
    induction k with
    | zero => exact .inl rfl
    | succ k ih =>
      cases hp : ps[k]? with
      | none =>
        have e : ps.take (k + 1) = ps.take k := by rw [List.take_add_one, hp]; simp
        rw [e]; exact ih
      | some p =>
        rw [last_step hp]
        rcases Int.le_total p.d (lastV (ps.take k)) with h1 | h1
        · rw [Int.max_eq_left h1]; exact ih
        · rw [Int.max_eq_right h1]; exact .inr ⟨k, p, hp, rfl⟩
  have := key ps.length
  rw [List.take_length] at this
  exact this
theorem lastD_ge {bs : List Bk} (hd : devB bs = true) {k : Nat} {p : Pg} (hp : pageAt bs k = some p) : p.d ≤ lastD bs := by
  obtain ⟨_, hall⟩ := dev_parts hd
  have h4 : ∀ b, b ∈ bs → b.ps.length = 4 := fun b hm => (block_parts (hall b hm)).2.1
  rw [lastD_yes hd]
  rw [← allP_at h4] at hp
  exact last_mem _ (List.mem_of_getElem? hp)
theorem lastD_at {bs : List Bk} (hd : devB bs = true) : lastD bs = 0 ∨ ∃ (a : Nat) (p : Pg), a < 4 * bs.length ∧ pageAt bs a = some p ∧ lastD bs = p.d := by
  obtain ⟨_, hall⟩ := dev_parts hd
  have h4 : ∀ b, b ∈ bs → b.ps.length = 4 := fun b hm => (block_parts (hall b hm)).2.1
  rw [lastD_yes hd]
  rcases last_of (allP bs) with h | ⟨i, p, hi, h⟩
  · exact .inl h
  · refine .inr ⟨i, p, ?_, by rw [← allP_at h4]; exact hi, h⟩
    have := (List.getElem?_eq_some_iff.1 hi).1
    rw [allP_length h4] at this
    exact this
theorem lastD_in {bs : List Bk} : -1 ≤ lastD bs ∧ lastD bs ≤ 1000000 := by
  cases hd : devB bs
  · rw [lastD_no hd]; omega
  · rcases lastD_at hd with h | ⟨a, p, _, hp, h⟩
    · omega
    · have := roll_stamp hd hp
      omega
theorem lastD_is {bs cs : List Bk} (h : cs.map Bk.is = bs.map Bk.is) : lastD cs = lastD bs := by
  have e : ∀ l : List Bk, allP l = (l.map Bk.is).flatMap fun q => q.2 := fun l => by
    unfold allP
    rw [List.flatMap_map]
    rfl
  simp only [lastD, devB_is h]
  rw [e cs, e bs, h]
end Go.Proofs.Yteniikfgellhfaa
namespace Go.Proofs.Yteniikfgellhfaa
open Go.ChangeShapes Go.WideShapes Go.ChangeAt Go.RowKit
set_option linter.unusedVariables false
set_option linter.unusedSimpArgs false

theorem lastImp_any (A : Option Addr) (n c : Nat) (bs : List Bk) (w : World) (hl : bs.length = n) (hr : DRow w w.heap.size A bs) (hn : n ≤ 1048576) (hp : ∀ b, b ∈ bs → b.ps.length ≤ 1048576) :
    Calls Try.prog 27 #[.slice A n c] w (KeptV (.int .i64 (lastD bs)) w) := by
  have HL := Lib.hid (And.intro hl hp)
  have HS : RowKit.Hid (VD w A bs w) := Lib.hid ⟨hr, grown_refl _ _⟩
  clear hl hp hr
  cases hd : devB bs
  · have HV := Lib.hid hd
    clear hd
    go_enter Try.func27, Try.ntmps27
    go_wp2_with fail
    refine (deviceValid_val HL.out.1 HV.out _ HS.out.row hn HL.out.2).mono ?_
    rintro e w1 ⟨rfl, hk⟩
    replace HS := Lib.hid (HS.out.keep hk)
    clear hk
    go_wp2
    go_ret
    exact ⟨retI (lastD_no HV.out).symm, HS.out.2⟩
  · have HV := Lib.hid hd
    clear hd
    go_enter Try.func27, Try.ntmps27
    go_wp2_with fail
    refine (deviceValid_val HL.out.1 HV.out _ HS.out.row hn HL.out.2).mono ?_
    rintro e w1 ⟨rfl, hk⟩
    replace HS := Lib.hid (HS.out.keep hk)
    clear hk
    go_wp2_with fail
    go_loopw [3, 12] (fun a i wr => ∃ k : Nat, i = .int .i64 k ∧ a = .int .i64 (lastV (allP (bs.take k))) ∧ k ≤ n ∧ VD w A bs wr) (fun _ i _ => n - (intOf i).toNat)
    case atStart => exact ⟨0, rfl, rfl, Nat.zero_le _, HS.out⟩
    case round =>
      obtain ⟨k, rfl, rfl, hkn, hS⟩ := hrel
      clear HS
      have HS := Lib.hid hS
      clear hS
      obtain ⟨u, hu⟩ : ∃ u, lastV (allP (bs.take k)) = u := ⟨_, rfl⟩
      rw [hu]
      by_cases hlt : k < n
      · obtain ⟨g, off, m, Ab, cb, ps, rfl, hgw, hgr, hbk, c0, c1, hrk⟩ := HS.out.1.at_ (show k < bs.length by have := HL.out.1; omega)
        have hK := lastB_step hbk
        rw [hu] at hK
        obtain ⟨v, hv⟩ : ∃ v, lastV ps = v := ⟨_, rfl⟩
        dsimp only at hK
        rw [hv] at hK
        have hp4 : ps.length ≤ 1048576 := HL.out.2 _ (List.mem_of_getElem? hbk)
        have n1 : g ≠ wr.heap.size := by omega
        have n2 : wr.heap.size ≠ g := by omega
        have K1 := grown_alloc (grown_refl wr none) (.cells #[.int .i64 m, .slice Ab ps.length cb] 87)
        have HB := Lib.hid (Blk.new wr 87 #[.int .i64 m, .slice Ab ps.length cb])
        replace HS := Lib.hid (HS.out.keep K1)
        have HK := Lib.hid (And.intro hK (And.intro hv (hrk.kept K1)))
        obtain ⟨v0, v1⟩ : (wr.alloc (.cells #[.int .i64 m, .slice Ab ps.length cb] 87)).cell? ⟨wr.heap.size, 0, none⟩ = some (.int .i64 m) ∧ (wr.alloc (.cells #[.int .i64 m, .slice Ab ps.length cb] 87)).cell? ⟨wr.heap.size, 1, none⟩ = some (.slice Ab ps.length cb) := ⟨HB.out.cell 0, HB.out.cell 1⟩
        have k3 : (k : Int) < n := by omega
        clear hbk hrk hu hv hK K1
        go_wp2_with fail
        refine (lastStamp_any rfl HK.out.2.2.here hp4).mono ?_
        rw [HK.out.2.1]
        rintro e w2 ⟨rfl, hk⟩
        replace HS := Lib.hid (HS.out.keep hk)
        clear hk v0 v1
        by_cases huv : u < v
        · have t1 := decide_eq_true huv
          have HM := Lib.hid (show lastV (allP (bs.take (k + 1))) = v by rw [HK.out.1]; omega)
          clear huv
          go_wp2
          go_roundw
          case rel => exact ⟨k + 1, by go_num, by rw [HM.out], by omega, HS.out⟩
          case measure => simp [intOf]; omega
        · have t1 := decide_eq_false huv
          have HM := Lib.hid (show lastV (allP (bs.take (k + 1))) = u by rw [HK.out.1]; omega)
          clear huv
          go_wp2
          go_roundw
          case rel => exact ⟨k + 1, by go_num, by rw [HM.out], by omega, HS.out⟩
          case measure => simp [intOf]; omega
      · obtain rfl : k = n := by omega
        have HE := Lib.hid (lastD_yes HV.out)
        rw [List.take_of_length_le (by have := HL.out.1; omega)] at hu
        rw [hu] at HE
        clear hu
        go_wp2
        go_ret
        exact ⟨retI HE.out.symm, HS.out.2⟩
theorem last_val {A : Option Addr} {n c : Nat} {bs : List Bk} {V : Int} {w : World} (hV : lastD bs = V) (hl : bs.length = n) (hr : DRow w w.heap.size A bs) (hn : n ≤ 1048576) (hp : ∀ b, b ∈ bs → b.ps.length ≤ 1048576) :
    Calls Try.prog 27 #[.slice A n c] w (KeptV (.int .i64 V) w) := hV ▸ lastImp_any A n c bs w hl hr hn hp
theorem specLast_any (A : Option Addr) (n c : Nat) (bs : List Bk) (w : World) (hl : bs.length = n) (hr : DRow w w.heap.size A bs) (hn : n ≤ 1048576) (hp : ∀ b, b ∈ bs → b.ps.length ≤ 1048576) :
    Calls Try.prog 28 #[.slice A n c] w (KeptV (.int .i64 (lastD bs)) w) := by
  have HL := Lib.hid (And.intro hl hp)
  have HS : RowKit.Hid (VD w A bs w) := Lib.hid ⟨hr, grown_refl _ _⟩
  clear hl hp hr
  cases hd : devB bs
  · have HV := Lib.hid hd
    clear hd
    go_enter Try.func28, Try.ntmps28
    go_wp2_with fail
    refine (specDeviceValid_val HL.out.1 HV.out _ HS.out.row hn HL.out.2).mono ?_
    rintro e w1 ⟨rfl, hk⟩
    replace HS := Lib.hid (HS.out.keep hk)
    clear hk
    go_wp2
    go_ret
    exact ⟨retI (lastD_no HV.out).symm, HS.out.2⟩
  · obtain ⟨⟨_, h12⟩, hall⟩ := dev_parts hd
    have hn12 : n ≤ 12 := by have := HL.out.1; omega
    have HV := Lib.hid (And.intro hd (fun (b : Bk) (hm : b ∈ bs) => (block_parts (hall b hm)).2.1))
    clear hd h12 hall
    go_enter Try.func28, Try.ntmps28
    go_wp2_with fail
    refine (specDeviceValid_val HL.out.1 HV.out.1 _ HS.out.row hn HL.out.2).mono ?_
    rintro e w1 ⟨rfl, hk⟩
    replace HS := Lib.hid (HS.out.keep hk)
    clear hk
    go_wp2_with fail
    go_loopw [3, 4] (fun a i wr => ∃ k : Nat, i = .int .i64 k ∧ a = .int .i64 (lastV ((allP bs).take k)) ∧ k ≤ 4 * n ∧ VD w A bs wr) (fun _ i _ => 4 * n - (intOf i).toNat)
    case atStart => exact ⟨0, rfl, rfl, Nat.zero_le _, HS.out⟩
    case round =>
      obtain ⟨k, rfl, rfl, hkn, hS⟩ := hrel
      clear HS
      have HS := Lib.hid hS
      clear hS
      by_cases hlt : k < 4 * n
      · obtain ⟨⟨pf, pa, pb, pv, d⟩, hp, hr⟩ := roll_read HV.out.1 (k := k) (by have := HL.out.1; omega)
        have hst := last_step (k := k) (by rw [allP_at HV.out.2]; exact hp)
        dsimp only at hst
        have HK := Lib.hid (And.intro hst hr)
        have k3 : (k : Int) < 4 * (n : Int) := by omega
        clear hp hr hst
        go_wp2_with fail
        refine (specRead_val HK.out.2 HL.out.1 HS.out.row hn HL.out.2).mono ?_
        rintro e w2 ⟨rfl, hk⟩
        have p4 := (Blk.new w2 30 #[.bool pf, .int .i64 pa, .int .i64 pb, .int .i64 pv, .int .i64 d]).cell 4
        replace HS := Lib.hid (HS.out.keep (grown_alloc hk (.cells #[.bool pf, .int .i64 pa, .int .i64 pb, .int .i64 pv, .int .i64 d] 30)))
        clear hk
        generalize lastV ((allP bs).take k) = z at HK
        go_wp2
        all_goals
          go_roundw
          case rel => exact ⟨k + 1, by go_num, by rw [HK.out.1]; congr 1; (try dsimp only); omega, by omega, HS.out⟩
          case measure => simp [intOf]; omega
      · obtain rfl : k = 4 * n := by omega
        have e : (allP bs).take (4 * n) = allP bs := List.take_of_length_le (by rw [allP_length HV.out.2, HL.out.1]; omega)
        rw [e]
        have HE := Lib.hid (lastD_yes HV.out.1)
        clear e
        generalize lastV (allP bs) = z at HE
        go_wp2
        go_ret
        exact ⟨retI HE.out.symm, HS.out.2⟩
theorem specLast_val {A : Option Addr} {n c : Nat} {bs : List Bk} {V : Int} {w : World} (hV : lastD bs = V) (hl : bs.length = n) (hr : DRow w w.heap.size A bs) (hn : n ≤ 1048576) (hp : ∀ b, b ∈ bs → b.ps.length ≤ 1048576) :
    Calls Try.prog 28 #[.slice A n c] w (KeptV (.int .i64 V) w) := hV ▸ specLast_any A n c bs w hl hr hn hp
end Go.Proofs.Yteniikfgellhfaa
