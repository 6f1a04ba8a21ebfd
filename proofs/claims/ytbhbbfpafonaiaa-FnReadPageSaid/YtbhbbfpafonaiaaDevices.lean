/- What the model's functions of chapter 5 answer (under way). -/
import Derived.Test.YtbhbbfpafonaiaaRows2
namespace Go.Proofs.Ytbhbbfpafonaiaa
open Go.ChangeShapes Go.WideShapes Go.ChangeAt Go.RowKit

/-- A valid device. -/
def devB (bs : List Bk) : Bool := inB bs.length 1 12 && bs.all (fun b => blockB b.m b.ps)
theorem dev_no {bs : List Bk} {k : Nat} {b : Bk} (hp : bs[k]? = some b) (h : blockB b.m b.ps = false) : devB bs = false := by
  have : bs.all (fun b => blockB b.m b.ps) = false := by
    rw [List.all_eq_false]
    exact ⟨b, List.mem_of_getElem? hp, by simp [h]⟩
  simp [devB, this]
theorem dev_yes {bs : List Bk} (h : ∀ (j : Nat) (b : Bk), bs[j]? = some b → blockB b.m b.ps = true) : devB bs = inB bs.length 1 12 := by
  have : bs.all (fun b => blockB b.m b.ps) = true := by
    rw [List.all_eq_true]
    intro b hb
    obtain ⟨j, hj⟩ := List.getElem?_of_mem hb
    exact h j b hj
  simp [devB, this]
/-- The loop over the blocks, at block k: all before are valid. -/
def DevRel (w : World) (bs : List Bk) (k : Nat) (wr : World) : Prop := k ≤ bs.length ∧ (∀ (j : Nat) (b : Bk), j < k → bs[j]? = some b → blockB b.m b.ps = true) ∧ w.grownBy wr none
theorem dev_step {bs : List Bk} {k : Nat} {p : Bk} (h : ∀ (j : Nat) (b : Bk), j < k → bs[j]? = some b → blockB b.m b.ps = true) (hp : bs[k]? = some p) (hf : blockB p.m p.ps = true) : ∀ (j : Nat) (b : Bk), j < k + 1 → bs[j]? = some b → blockB b.m b.ps = true := fun j q hj hq => by
  rcases Nat.lt_or_ge j k with h1 | h1
  · exact h j q h1 hq
  · obtain rfl : j = k := by omega
    rw [hp] at hq
    injection hq with hq
    rw [← hq]; exact hf
theorem specDeviceValid_any (A : Option Addr) (n c : Nat) (bs : List Bk) (w : World) (hl : bs.length = n) (hr : DRow w w.heap.size A bs) (hn : n ≤ 1048576) (hp : ∀ b, b ∈ bs → b.ps.length ≤ 1048576) :
    Calls Try.prog 8 #[.slice A n c] w (KeptV (.bool (devB bs)) w) := by
  subst hl
  have HR := Lib.hid (And.intro hr hp)
  clear hr hp
  go_enter Try.func8, Try.ntmps8
  go_wp2
  go_loopw [3] (fun i wr => ∃ k : Nat, i = .int .i64 k ∧ DevRel w bs k wr) (fun i _ => bs.length - (intOf i).toNat)
  case atStart => exact ⟨0, rfl, Nat.zero_le _, fun j _ hj => absurd hj (by omega), grown_refl _ _⟩
  case round =>
    obtain ⟨k, rfl, hk, hj, hg⟩ := hrel
    by_cases hlt : k < bs.length
    · obtain ⟨g, off, m, Ab, cb, ps, rfl, _, hgw, hb, c0, c1, hrow⟩ := (HR.out.1.kept hg).at_ hlt
      have hpl := HR.out.2 _ (List.mem_of_getElem? hb)
      cases hv : blockB m ps
      · have HX := Lib.hid (And.intro hg (And.intro (dev_no hb hv) (And.intro hv (And.intro hrow hpl))))
        clear hv hb hg hj hrow hpl
        go_wp2_with (go_at_call 22; refine (specBlockValid_val rfl HX.out.2.2.1 _ HX.out.2.2.2.1.here HX.out.2.2.2.2).mono ?_; rintro e w' ⟨rfl, hkp⟩)
        go_ret
        exact ⟨retB HX.out.2.1.symm, grown_trans HX.out.1 hkp⟩
      · have HX := Lib.hid (And.intro hg (And.intro (dev_step hj hb hv) (And.intro hv (And.intro hrow hpl))))
        clear hv hb hg hj hrow hpl
        go_wp2_with (go_at_call 22; refine (specBlockValid_val rfl HX.out.2.2.1 _ HX.out.2.2.2.1.here HX.out.2.2.2.2).mono ?_; rintro e w' ⟨rfl, hkp⟩)
        go_roundw
        case rel => exact ⟨k + 1, by go_num, by omega, HX.out.2.1, grown_trans HX.out.1 hkp⟩
        case measure => simp [intOf]; omega
    · have HX := Lib.hid (And.intro hg (dev_yes (bs := bs) (fun j b hb => hj j b (by have := (List.getElem?_eq_some_iff.1 hb).1; omega) hb)))
      clear hg hj
      go_wp2_with (go_at_call 23; refine (in_any _ _ _ _).mono ?_; rintro e w' ⟨rfl, rfl⟩)
      go_ret
      exact ⟨retB HX.out.2.symm, HX.out.1⟩

/-- append(d, b): one block more, onto a row of the call's own. -/
theorem block_info : (Try.prog.info? 28).map (fun i => (i.zero, i.size, i.bytes)) = some (some (.agg #[.int .i64 0, .slice none 0 0]), 2, 32) := by kernel_rfl
theorem append_block (w : World) (base : Nat) (v : Value) (n : Nat) (m : Int) (A : Option Addr) (k c : Nat) (xs : List Value) (g : Nat) (hown : w.ownsRow base 28 2 v n xs) (hb : Blk w g 28 #[.int .i64 m, .slice A k c])
    (hn : n ≤ 1048576) (hbase : base ≤ w.heap.size) :
    ∃ v' w', (∀ ty, (Builtin.append_ #[23, 23] ty #[v, .slice (some ⟨g, 0, none⟩) 1 1]).run Try.prog w = .ok v' w') ∧ w'.ownsRow base 28 2 v' (n + 1) (xs ++ [.int .i64 m, .slice A k c]) ∧ w.grownBy w' v.ownBlock ∧
      (v'.ownBlock = v.ownBlock ∨ v'.ownBlock = some w.heap.size) := by
  obtain ⟨i, hi, hzz, hs, hby⟩ := info_parts block_info
  have hsrc : ∀ j u, [Value.int .i64 m, .slice A k c][j]? = some u → w.cell? ((⟨g, 0, none⟩ : Addr).add j) = some u := by
    intro j u hu
    match j, hu with
    | 0, hu => simp at hu; subst hu; exact hb.cell 0
    | 1, hu => simp at hu; subst hu; exact hb.cell 1
    | j + 2, hu => simp at hu
  obtain ⟨v', w', hrun, h2, h3, _, h5⟩ := run_append_own_at (P := Try.prog) w base 23 0 28 i _ 2 32 Try.underlying23 hi hzz hs hby rfl (by omega) v n xs hown ⟨g, 0, none⟩ 1 1 [.int .i64 m, .slice A k c] rfl hsrc
    (by intro u hu; simp at hu; rcases hu with rfl | rfl <;> rfl) (by simp only [maxLen]; omega) (by omega) hbase
  exact ⟨v', w', fun _ => hrun, h2, h3, h5⟩
end Go.Proofs.Ytbhbbfpafonaiaa
