/- For every code, FreePages answers of the drawn device as its model: -1 if it is not valid; else the pages that are free and those that ReadPage tells to be written are together all pages: proved.
   Conditions: none beyond the row's own reading of the input. The frame was written by the guide's proof-skeleton; the walk is ours. -/
import Derived.Test.YtbdpnmejkchjpaaDrawDev4
import Derived.Test.YtbdpnmejkchjpaaRows
import Derived.WalkKit
import Derived.ProofKit
import Derived.OpenShut
import Derived.ShutString
import Derived.ChangeOld
import Derived.Below
namespace Go.Proofs.Ytbdpnmejkchjpaa.fnFreePages
open Go.ChangeShapes Go.WideShapes Go.ChangeAt Go.RowKit
open Go.ChangeMaps (open_string shut_string)
set_option linter.unusedVariables false

theorem own : ownKnob Try.prog.godebug = none := by kernel_rfl
theorem laidOut : laidOutB Try.prog = true := by kernel_rfl

/-- WHAT THE WALK IS TOLD OF A SLICE OF INTEGERS THAT CAME IN: it is nil; or it leads to a row of 'cap' cells, the numbers 'zs' (the first 'len' are its elements, the rest its spare room), each fitting its kind. -/
def IsRow (k : IntKind) (w : World) (a : Option Addr) (len cap : Nat) (zs : List Int) : Prop :=
  (a = none ∧ len = 0 ∧ cap = 0 ∧ zs = []) ∨
  ∃ x, a = some x ∧ len ≤ cap ∧ cap ≤ maxLen ∧ zs.length = cap ∧ (∀ i, i < zs.length → w.cell? (x.add i) = some (.int k (zs.getD i 0))) ∧ ∀ n ∈ zs, (Lit.int k n).wf = true

/-! ### STEP 1: THE WALK: the Go text returns true, AND WRITES NOTHING THAT WAS THERE: 'Below w.heap.size w w'' (Derived/Below.lean: '.refl', '.alloc', '.drew', '.setCell' at a new block, '.trans'). Open each 'IsRow' by 'rcases' AHEAD of 'go_enter'; part every test ahead of the walk. -/
set_option maxHeartbeats 2000000 in
theorem walk (a0 : Option Addr) (len0 cap0 : Nat) (z0 : List Int) (w : World) (w0 : IsRow .u8 w a0 len0 cap0 z0) :
    Calls Try.prog 3 #[.slice a0 len0 cap0] w fun e w' => e = .returned (.bool true) ∧ Below w.heap.size w w' := by
  obtain ⟨hl, hc, hb⟩ := bytes_of w0
  by_cases hbig : 1048576 < len0
  · go_enter Try.func3, Try.ntmps3
    go_wp2
    go_ret
    exact ⟨rfl, Below.refl _ _⟩
  · go_enter Try.func3, Try.ntmps3
    go_wp2_with fail
    refine (drawFree_any w a0 len0 cap0 hl hc hb).mono ?_
    rintro e wa ⟨A, n, c, bs, rfl, hln, h13, hsm, hrow, hbl⟩
    have HS : RowKit.Hid (LD w A bs wa) := Lib.hid ⟨hrow, hbl⟩
    have HL := Lib.hid (And.intro hln (fun (q : Bk) (hq : q ∈ bs) => show q.ps.length ≤ 1048576 by have := hsm q hq; omega))
    clear hb w0 hrow hbl hln hsm
    cases hd : devB bs
    · have HV := Lib.hid hd
      clear hd
      go_wp2_with fail
      refine (freePages_no _ _ _ _ _ HL.out.1 HS.out.1 (by omega) HL.out.2 HV.out).mono ?_
      rintro e w1 ⟨rfl, hk⟩
      replace HS := Lib.hid (HS.out.keep hk)
      clear hk
      go_wp2_with fail
      refine (specFreePages_no _ _ _ _ _ HL.out.1 HS.out.1 (by omega) HL.out.2 HV.out).mono ?_
      rintro e w2 ⟨rfl, hk⟩
      replace HS := Lib.hid (HS.out.keep hk)
      clear hk
      go_wp2_with (go_at_call 13; refine (alive_any _).mono ?_; rintro e w' ⟨rfl, rfl⟩)
      go_ret
      exact ⟨rfl, HS.out.2⟩
    · obtain ⟨fv, hfv⟩ : ∃ fv, freeV bs = fv := ⟨_, rfl⟩
      obtain ⟨_, hall⟩ := dev_parts hd
      have hall4 : ∀ b, b ∈ bs → b.ps.length = 4 := fun b hm => (block_parts (hall b hm)).2.1
      have hbe := both_end hall4
      have hfle := free_le bs
      rw [hfv, HL.out.1] at hbe
      rw [hfv, HL.out.1] at hfle
      have HV := Lib.hid (And.intro hd (And.intro hfv (And.intro hall4 hbe)))
      clear hd hfv hall hall4 hbe
      go_wp2_with fail
      refine (free_val HL.out.1 HS.out.1 HV.out.1 HV.out.2.1).mono ?_
      rintro e w1 ⟨rfl, hk⟩
      replace HS := Lib.hid (HS.out.keep hk)
      clear hk
      go_wp2_with fail
      refine (specFree_val HL.out.1 HS.out.1 HV.out.1 HV.out.2.1).mono ?_
      rintro e w2 ⟨rfl, hk⟩
      replace HS := Lib.hid (HS.out.keep hk)
      clear hk
      have tf : decide ((fv : Int) < 0) = false := decide_eq_false (by omega)
      go_wp2_with fail
      clear tf
      go_loopw [5, 6] (fun s i wr => ∃ k : Nat, k ≤ 4 * n ∧ i = .int .i64 k ∧ s = .int .i64 (fullTo bs k : Nat) ∧ LD w A bs wr) (fun _ i _ => 4 * n - (intOf i).toNat)
      case atStart => exact ⟨0, Nat.zero_le _, rfl, rfl, HS.out⟩
      case round =>
        obtain ⟨k, hk, rfl, rfl, hS⟩ := hrel
        clear HS
        have HS := Lib.hid hS
        clear hS
        by_cases hlt : k < 4 * n
        · obtain ⟨⟨f, x1, x2, x3, x4⟩, hp⟩ := page_some HV.out.2.2.1 (show k < 4 * bs.length by have := HL.out.1; omega)
          have hfl := fullTo_le bs k
          have hi : (k : Int) < 4 * (n : Int) := by omega
          have HX := Lib.hid (And.intro (fullTo_step HV.out.2.2.1 hp) hp)
          clear hp
          cases f
          all_goals
            go_wp2_with fail
            refine (readPage_at _ _ _ _ _ _ _ HL.out.1 HS.out.1 HV.out.1 HX.out.2).mono ?_
            rintro e w3 ⟨rfl, hk3⟩
            replace HS := Lib.hid (HS.out.keep hk3)
            clear hk3
            go_wp2
            go_roundw
            case rel => exact ⟨k + 1, by omega, by go_num, by rw [HX.out.1]; simp, HS.out.alloc _⟩
            case measure => simp [intOf]; omega
        · obtain rfl : k = 4 * n := by omega
          have hfl := fullTo_le bs (4 * n)
          have te : ((fv : Int) + ((fullTo bs (4 * n) : Nat) : Int) == 4 * (n : Int)) = true := by
            have := HV.out.2.2.2
            simp only [beq_iff_eq]
            omega
          go_wp2
          go_ret
          exact ⟨rfl, HS.out.2⟩

/-! ### THE ROW's STEP: WRITTEN OUT: LEAVE IT -/
set_option maxRecDepth 100000 in
theorem lifted (os : Os) (started : os.Started) (H : Type) (enc : TypeId × Value → H) :
    ReturnsInHanded {} Try.checked os 3 .any (Rows.fnFreePagesSpec.pre6 enc Try.prog Try.f3 Rows.fnFreePagesRow.domain false) (Rows.fnFreePagesSpec.post enc Try.prog Try.f3 false true false false) := by
  refine returnsInHanded_of_change (C := Try.checked) own started (by kernel_rfl) Try.func3
    (ChangeSpec.witness6 (enc := enc) (C := Try.checked) false ⟨#[], #[.slice none 0 0], []⟩ 8 (by kernel_rfl) (by kernel_rfl) (by kernel_rfl) (by kernel_rfl)) ?_
  intro W base args ds gs before hval0 hW hcnd _
  have hval : ∀ (j : Nat) t v, Try.f3.params[j]? = some t → args[j]? = some v → Value.okWide Try.prog W .any base t v := hval0
  have hW' := hW
  obtain ⟨p, q, hA0, hV, rfl, hfz, hnd⟩ := hW
  have hA : DataW.TrodAll enc Try.prog W 0 (fun _ => true) true Try.f3.params.toList args.toList ds p := hA0
  rw [Try.params3] at hA hval
  obtain ⟨v0, vs0, d0, ds0, p0, q0, hargs, rfl, rfl, h0, r0⟩ := trodAll_cons hA
  obtain ⟨rfl, rfl, rfl⟩ := trodAll_nil r0
  obtain rfl : args = #[v0] := by cases args; simp_all
  obtain ⟨rfl, rfl⟩ := trodVars_none hV
  obtain ⟨a0, len0, cap0, rfl⟩ := okWide_slice Try.underlying22 (hval 0 22 v0 rfl rfl)
  have k0 := h0
  have lt0 : ∀ x ∈ p0, x.block < W.heap.size := by obtain ⟨m, hm⟩ := k0; exact DataW.trod_lt m _ _ _ hm
  obtain ⟨z0, w0⟩ : ∃ zs, IsRow .u8 W a0 len0 cap0 zs := by
    obtain ⟨fuel, hf⟩ := h0
    rcases open_ints Try.underlying22 Try.underlying5 (by kernel_rfl) hf with ⟨hcs, _⟩ | ⟨x, l, c, zs, hcs, _, hl, hm, hz, _, hcell, hwz⟩
    · simp [Value.cells] at hcs
      obtain ⟨rfl, rfl, rfl⟩ := hcs
      exact ⟨[], .inl ⟨rfl, rfl, rfl, rfl⟩⟩
    · simp [Value.cells] at hcs
      obtain ⟨rfl, rfl, rfl⟩ := hcs
      exact ⟨zs, .inr ⟨_, rfl, hl, hm, by simpa using hz, hcell, hwz⟩⟩
  clear hA0 hval0
  refine (walk a0 len0 cap0 z0 W w0).mono fun e W' ⟨he, bel⟩ => ?_
  subst he
  exact ⟨_, rfl, _, _, _, [], _, [], hW', trodAll_mk1 (shut_bool Try.underlying4 _), (trodAll_cons_mk (Below.trod laidOut (by kernel_rfl) (of_decide_eq_true (by kernel_rfl)) k0 bel lt0) trodAll_mk0), rfl, bel.frame _, fun h => by cases h⟩

theorem over : Rows.fnFreePagesRow.holds Try.pinned (OpenSpec.ofChange Rows.fnFreePagesSpec) :=
  OpenClaim.holds_of_wide 3 Try.f3 rfl rfl rfl rfl rfl rfl rfl ⟨rfl, rfl, rfl, rfl, rfl⟩ rfl rfl rfl rfl rfl (by kernel_rfl) Try.func3 (by kernel_rfl)
    (of_decide_eq_true (by kernel_rfl)) (by unfold Func.isWrapper; first | (rw [if_pos (by decide +kernel)]; kernel_rfl) | (rw [if_neg (by decide +kernel)]; exact ⟨rfl, rfl⟩))
    (fun os started H enc _ => lifted os started H enc)

/-- ████ THE STATEMENT ████ -/
theorem proved : Rows.FnFreePagesSaid := over
#print axioms proved
end Go.Proofs.Ytbdpnmejkchjpaa.fnFreePages
