/- The exact laws' helpers for devices, further (under way): toBlockS. -/
import Derived.Test.YtbdpnmejkchjpaaExactDev
namespace Go.Proofs.Ytbdpnmejkchjpaa
open Go.ChangeShapes Go.WideShapes Go.ChangeAt Go.RowKit

/-- A block that is not laid yet. -/
def bz : Bk := ⟨0, none, 0, []⟩
theorem bv_zero (n : Nat) : bv (List.replicate n bz) = (List.replicate n [Value.int .i64 0, .slice none 0 0]).flatten := by
  induction n with
  | zero => rfl
  | succ n ih => simp only [List.replicate_succ, bv, ih, List.flatten_cons]; rfl
theorem bv_made (n : Nat) : (madeCells #[.int .i64 0, .slice none 0 0] (n * 2)).toList = bv (List.replicate n bz) := by
  apply List.ext_getElem?
  intro j
  by_cases hj : j < n * 2
  · have hi : (List.replicate n bz)[j / 2]? = some bz := by rw [List.getElem?_replicate]; simp; omega
    obtain ⟨h0, h1⟩ := bv_at _ _ _ hi
    have hm : j % 2 < 2 := Nat.mod_lt _ (by omega)
    have hd : j / 2 * 2 + j % 2 = j := by omega
    have hL : (madeCells #[.int .i64 0, .slice none 0 0] (n * 2)).toList[j]? = (#[Value.int .i64 0, .slice none 0 0] : Array Value)[j % 2]? := by
      simp only [madeCells, Array.toList_map, Array.toList_range, List.getElem?_map]
      rw [List.getElem?_range hj]
      have hs : (#[Value.int .i64 0, .slice none 0 0] : Array Value).size = 2 := rfl
      rw [hs, Option.map_some]
      revert hm
      generalize j % 2 = r
      intro hm
      match r, hm with
      | 0, _ => rfl
      | 1, _ => rfl
    rw [hL]
    match hr : j % 2, hm with
    | 0, _ => rw [hr] at hd; rw [← hd, Nat.add_zero, h0]; simp [bz]
    | 1, _ => rw [hr] at hd; rw [← hd, h1]; simp [bz, Bk.row]
  · rw [List.getElem?_eq_none (by simp [madeCells]; omega), List.getElem?_eq_none (by rw [bv_length]; simp; omega)]
theorem dev_made (w : World) (base n : Nat) (hb : base ≤ w.heap.size) (hn : n ≤ maxLen) :
    DOwn (w.alloc (.cells (madeCells #[.int .i64 0, .slice none 0 0] (n * 2)) 58)) base (.slice (some ⟨w.heap.size, 0, none⟩) n n) (List.replicate n bz) := by
  refine ⟨?_, fun b hm => ?_, fun i j b b' a a' _ hi _ ha => ?_⟩
  · have h := World.ownsRow_lit (e := 58) (size := 2) w (madeCells #[.int .i64 0, .slice none 0 0] (n * 2)) n hb hn (by simp [madeCells])
    rw [bv_made] at h
    simpa using h
  · rw [List.eq_of_mem_replicate hm]
    exact World.ownsRow_nil _ _ _ _
  · rw [List.eq_of_mem_replicate (List.mem_of_getElem? hi)] at ha
    cases ha
theorem make_blocks (w : World) (n : Nat) (hn : n ≤ 1048576) :
    (Instr.makeSlice 23 (.int .i64 (n : Int)) (.int .i64 (n : Int))).run Try.prog w =
      .ok (.slice (some ⟨w.heap.size, 0, none⟩) n n) (w.alloc (.cells (madeCells #[.int .i64 0, .slice none 0 0] (n * 2)) 58)) := by
  obtain ⟨i, hi, hz, hs, hb⟩ := info_parts block_info
  have hr := run_make (P := Try.prog) w 23 58 i _ Try.underlying23 hi hz .i64 .i64 n n (by omega) (by omega) (by rw [hb]; omega) (by omega)
  simp only [Int.toNat_natCast, hs] at hr
  exact hr
theorem to_step {bs cs : List Bk} {n k : Nat} {m : Int} {Ab A1 : Option Addr} {cb d1 : Nat} {ps : List Pg} (hl : cs.length = n) (hk : k < n) (hcs : (cs.take k).map Bk.is = (bs.take k).map Bk.is) (hcz : ∀ (j : Nat) (b : Bk), k ≤ j → cs[j]? = some b → b = bz) (hb : bs[k]? = some ⟨m, Ab, cb, ps⟩) :
    (cs.set k ⟨m, A1, d1, ps⟩).length = n ∧ ((cs.set k ⟨m, A1, d1, ps⟩).take (k + 1)).map Bk.is = (bs.take (k + 1)).map Bk.is ∧ ∀ (j : Nat) (b : Bk), k + 1 ≤ j → (cs.set k ⟨m, A1, d1, ps⟩)[j]? = some b → b = bz := by
  refine ⟨by simpa using hl, ?_, fun j b hj h => ?_⟩
  · rw [List.take_add_one, List.take_add_one, List.take_set_of_le (Nat.le_refl _), List.getElem?_set_self (by omega), hb, List.map_append, List.map_append, hcs]
    rfl
  · rw [List.getElem?_set_ne (by omega)] at h
    exact hcz j b (by omega) h
/-- The loop that takes blocks over, at block k. -/
def ToRel (w : World) (bs : List Bk) (n k : Nat) (wr : World) : Prop :=
  k ≤ n ∧ w.grownBy wr none ∧ ∃ cs : List Bk, cs.length = n ∧ (cs.take k).map Bk.is = (bs.take k).map Bk.is ∧ (∀ (j : Nat) (b : Bk), k ≤ j → cs[j]? = some b → b = bz) ∧ DOwn wr w.heap.size (.slice (some ⟨w.heap.size, 0, none⟩) n n) cs
theorem toBlockS_any (A : Option Addr) (n c : Nat) (bs : List Bk) (w : World) (hl : bs.length = n) (hr : DRow w w.heap.size A bs) (hn : n ≤ 1048576) (hp : ∀ b, b ∈ bs → b.ps.length ≤ 1048576) :
    Calls Try.prog 17 #[.slice A n c] w (DevMade bs n w) := by
  have HR := Lib.hid (And.intro hl (And.intro hr hp))
  have hmk := fun W => make_blocks W n hn
  have HO := Lib.hid (dev_made w w.heap.size n (Nat.le_refl _) (by simp only [maxLen]; omega))
  clear hl hr hp
  go_enter Try.func17, Try.ntmps17
  go_wp2
  clear hmk
  go_loopw [4] (fun i wr => ∃ k : Nat, i = .int .i64 k ∧ ToRel w bs n k wr) (fun i _ => n - (intOf i).toNat)
  case atStart => exact ⟨0, rfl, Nat.zero_le _, grown_alloc (grown_refl _ _) _, List.replicate n bz, by simp, rfl, fun j b _ hj => List.eq_of_mem_replicate (List.mem_of_getElem? hj), HO.out⟩
  case round =>
    obtain ⟨k, rfl, hk, hg, cs, hcl, hcs, hcz, ho⟩ := hrel
    clear HO
    by_cases hlt : k < n
    · obtain ⟨g, off, m, Ab, cb, ps, rfl, _, hgw, hb, c0, c1, hrow⟩ := (HR.out.2.1.kept hg).at_ (show k < bs.length by have := HR.out.1; omega)
      have HX := Lib.hid (And.intro hg (And.intro ho (And.intro hb (And.intro hrow (And.intro (HR.out.2.2 _ (List.mem_of_getElem? hb)) (And.intro hcs (And.intro hcl hcz)))))))
      clear hb hg ho hrow hcs hcl hcz
      go_wp2_with fail
      refine (toBlock_any _ _ _ _ _ _ rfl HX.out.2.2.2.1.here HX.out.2.2.2.2.1).mono ?_
      rintro e w1 ⟨A1, d1, rfl, _, ho1, hk1⟩
      have hD := HX.out.2.1.keep hk1
      obtain ⟨q, hq⟩ : ∃ q, cs[k]? = some q := ⟨_, List.getElem?_eq_getElem (by have := HX.out.2.2.2.2.2.2.1; omega)⟩
      obtain ⟨x0, x1⟩ := hD.at_ HX.out.2.2.2.2.2.2.1 hq
      have f0 := hD.frozen HX.out.2.2.2.2.2.2.1 (k * 2)
      have f1 := hD.frozen HX.out.2.2.2.2.2.2.1 (k * 2 + 1)
      have hP := hD.put HX.out.2.2.2.2.2.2.1 k ⟨m, A1, d1, ps⟩ (ho1.base_le HX.out.1.size) (fun j b' a a' hj hb' ha ha' => by
        have h1 := (World.ownsRow.lt ho1 a.block (by show (Value.slice A1 _ _).ownBlock = _; rw [show A1 = some a from ha]; rfl)).1
        have h2 := (World.ownsRow.lt (HX.out.2.1.2.1 b' (List.mem_of_getElem? hb')) a'.block (by simp [Bk.row, ha', Value.ownBlock])).2
        omega)
      have HY := Lib.hid (And.intro hP (grown_trans HX.out.1 hk1))
      clear hD hq hP ho1 hk1 c0 c1
      go_wp2
      go_roundw
      case rel => exact ⟨k + 1, by go_num, by omega, grown_put (grown_put HY.out.2 (Nat.le_refl _) _) (Nat.le_refl _) _, _, (to_step HX.out.2.2.2.2.2.2.1 hlt HX.out.2.2.2.2.2.1 HX.out.2.2.2.2.2.2.2 HX.out.2.2.1).1, (to_step HX.out.2.2.2.2.2.2.1 hlt HX.out.2.2.2.2.2.1 HX.out.2.2.2.2.2.2.2 HX.out.2.2.1).2.1, (to_step HX.out.2.2.2.2.2.2.1 hlt HX.out.2.2.2.2.2.1 HX.out.2.2.2.2.2.2.2 HX.out.2.2.1).2.2, HY.out.1⟩
      case measure => simp [intOf]; omega
    · obtain rfl : k = n := by omega
      have HX := Lib.hid (And.intro hg (And.intro ho (And.intro hcs hcl)))
      clear hg ho hcs hcl hcz
      go_wp2
      go_ret
      exact ⟨_, _, cs, rfl, HX.out.2.2.2, by have h := HX.out.2.2.1; rw [List.take_of_length_le (by have := HX.out.2.2.2; omega), List.take_of_length_le (by have := HR.out.1; omega)] at h; exact h, HX.out.2.1, HX.out.1⟩
end Go.Proofs.Ytbdpnmejkchjpaa
