/- For every code, FindName answers of the drawn names and text as the model does: the file of the name among valid names, else -1.
   Conditions: none beyond the row's own reading of the input. The frame was written by the guide's proof-skeleton; the walk is ours. -/
import Derived.Test.YtengcjglkcmkbaaNameFacts
import Derived.Test.YtengcjglkcmkbaaRows
import Derived.WalkKit
import Derived.ProofKit
import Derived.OpenShut
import Derived.ShutString
import Derived.ChangeOld
import Derived.Below
namespace Go.Proofs.Ytengcjglkcmkbaa.fnFindName
open Go.ChangeShapes Go.WideShapes Go.ChangeAt Go.RowKit
open Go.ChangeMaps (open_string shut_string)
set_option linter.unusedVariables false

theorem own : ownKnob Try.prog.godebug = none := by kernel_rfl
theorem laidOut : laidOutB Try.prog = true := by kernel_rfl

/-- WHAT THE WALK IS TOLD OF A SLICE OF INTEGERS THAT CAME IN: it is nil; or it leads to a row of 'cap' cells, the numbers 'zs' (the first 'len' are its elements, the rest its spare room), each fitting its kind. -/
def IsRow (k : IntKind) (w : World) (a : Option Addr) (len cap : Nat) (zs : List Int) : Prop :=
  (a = none ∧ len = 0 ∧ cap = 0 ∧ zs = []) ∨
  ∃ x, a = some x ∧ len ≤ cap ∧ cap ≤ maxLen ∧ zs.length = cap ∧ (∀ i, i < zs.length → w.cell? (x.add i) = some (.int k (zs.getD i 0))) ∧ ∀ n ∈ zs, (Lit.int k n).wf = true

/-! ### STEP 1: THE WALK: the Go text returns true, AND WRITES NOTHING THAT WAS THERE: 'Below w.heap.size w w'' (Derived/Below.lean: '.refl', '.alloc', '.drew', '.setCell' at a new block, '.trans'). Open each 'IsRow' by 'rcases' AHEAD of 'go_enter'; part every test ahead of the walk. -/
set_option maxHeartbeats 2000000 in
set_option maxRecDepth 100000 in
theorem walk (a0 : Option Addr) (len0 cap0 : Nat) (z0 : List Int) (w : World) (w0 : IsRow .u8 w a0 len0 cap0 z0) :
    Calls Try.prog 6 #[.slice a0 len0 cap0] w fun e w' => e = .returned (.bool true) ∧ Below w.heap.size w w' := by
  obtain ⟨hl, hc, hb⟩ := bytes_of w0
  by_cases hbig : 1048576 < len0
  · go_enter Try.func6, Try.ntmps6
    go_wp2
    go_ret
    exact ⟨rfl, Below.refl _ _⟩
  · go_enter Try.func6, Try.ntmps6
    go_wp2_with fail
    refine (drawFindName_any w a0 len0 cap0 hl hc hb).mono ?_
    rintro e wa ⟨A, n, c, ps, s, rfl, hpl, h9, hnc, hcm, hs9, hsh, hle⟩
    have HS := Lib.hid hle
    have HL := Lib.hid hpl
    have HH := Lib.hid hsh
    have hn : n ≤ 1048576 := by omega
    clear hle hpl hsh
    clear hb w0
    obtain ⟨V, hV⟩ : ∃ V, findV ps s = V := ⟨_, rfl⟩
    obtain ⟨B, hB⟩ : ∃ B, nmB ps = B := ⟨_, rfl⟩
    have HV := Lib.hid (And.intro hV hB)
    have tVV : (V != V) = false := by simp
    clear hV hB
    go_wp2_with fail
    refine (findName_val HV.out.1 HL.out HS.out.1 hn HH.out.big).mono ?_
    rintro e w1 ⟨rfl, hk⟩
    replace HS := Lib.hid (HS.out.keep hk)
    clear hk
    go_wp2_with fail
    refine (specFind_val HV.out.1 HL.out HS.out.1 hn HH.out.big).mono ?_
    rintro e w2 ⟨rfl, hk⟩
    replace HS := Lib.hid (HS.out.keep hk)
    clear hk
    go_wp2
    go_loopw [6] (fun i wr => ∃ k : Nat, k ≤ n ∧ i = .int .i64 k ∧ (∀ (j : Nat) q, j < k → ps[j]? = some q → q.a.toList ≠ s.toList) ∧ LNm w A ps wr) (fun i _ => n - (intOf i).toNat)
    case atStart => exact ⟨0, Nat.zero_le _, rfl, fun j q hj => absurd hj (by omega), HS.out⟩
    case round =>
      rename World => wq
      obtain ⟨k, hk, rfl, hall, hg⟩ := hrel
      clear HS
      have HS := Lib.hid hg
      have HAL := Lib.hid hall
      clear hg hall
      by_cases hlt : k < n
      · have hk0 : decide ((0 : Int) ≤ k) = true := decide_eq_true (by omega)
        have hk1 : (k : Int) < n := by omega
        go_wp2_with fail
        refine (namesValid_val HV.out.2 HL.out HS.out.1 (by omega) HH.out.big).mono ?_
        rintro e w9 ⟨rfl, hk9⟩
        replace HS := Lib.hid (HS.out.keep hk9)
        clear hk9
        cases B
        · have e1 : (V == -1) = true := by have h := HV.out.1; simp [findV, HV.out.2] at h; simp [← h]
          go_wp2_with (go_at_call 18; refine (alive_any _).mono ?_; rintro e w' ⟨rfl, rfl⟩)
          go_ret
          exact ⟨rfl, HS.out.2⟩
        obtain ⟨g, off, eA, _⟩ := NRow.pos HS.out.1 (by have := HL.out; omega)
        subst eA
        obtain ⟨⟨a, b⟩, hp⟩ : ∃ p, ps[k]? = some p := ⟨_, List.getElem?_eq_getElem (by have := HL.out; omega)⟩
        obtain ⟨c0, c1⟩ := NRow.cellf HS.out.1 hp
        dsimp only at c0 c1
        have HP := Lib.hid hp
        clear hp
        cases he : (a.toList == s.toList)
        · go_wp2
          go_roundw
          case rel => exact ⟨k + 1, by omega, by go_num, fun j q hj hq => by
            rcases Nat.lt_or_ge j k with h | h
            · exact HAL.out j q h hq
            · obtain rfl : j = k := by omega
              have := HP.out
              rw [hq] at this
              injection this with this
              subst this
              simpa using he, HS.out⟩
          case measure => simp [intOf]; omega
        · have e1 : (V == b) = true := by have h := HV.out.1; simp only [findV, HV.out.2, if_true] at h; rw [nmFind_at HP.out (by simpa using he) HAL.out] at h; simp [← h]
          go_wp2
          go_ret
          exact ⟨rfl, HS.out.2⟩
      · obtain rfl : k = n := by omega
        have e1 : (V == -1) = true := by
          have h := HV.out.1
          have h2 := nmFind_none (s := s) (ps := ps) fun j q hq => HAL.out j q (by have := (List.getElem?_eq_some_iff.1 hq).1; have := HL.out; omega) hq
          unfold findV at h
          rw [h2] at h
          split at h <;> simp [← h]
        go_wp2_with (go_at_call 18; refine (alive_any _).mono ?_; rintro e w' ⟨rfl, rfl⟩)
        go_ret
        exact ⟨rfl, HS.out.2⟩

/-! ### THE ROW's STEP: WRITTEN OUT: LEAVE IT -/
set_option maxRecDepth 100000 in
theorem lifted (os : Os) (started : os.Started) (H : Type) (enc : TypeId × Value → H) :
    ReturnsInHanded {} Try.checked os 6 .any (Rows.fnFindNameSpec.pre6 enc Try.prog Try.f6 Rows.fnFindNameRow.domain false) (Rows.fnFindNameSpec.post enc Try.prog Try.f6 false true false false) := by
  refine returnsInHanded_of_change (C := Try.checked) own started (by kernel_rfl) Try.func6
    (ChangeSpec.witness6 (enc := enc) (C := Try.checked) false ⟨#[], #[.slice none 0 0], []⟩ 8 (by kernel_rfl) (by kernel_rfl) (by kernel_rfl) (by kernel_rfl)) ?_
  intro W base args ds gs before hval0 hW hcnd _
  have hval : ∀ (j : Nat) t v, Try.f6.params[j]? = some t → args[j]? = some v → Value.okWide Try.prog W .any base t v := hval0
  have hW' := hW
  obtain ⟨p, q, hA0, hV, rfl, hfz, hnd⟩ := hW
  have hA : DataW.TrodAll enc Try.prog W 0 (fun _ => true) true Try.f6.params.toList args.toList ds p := hA0
  rw [Try.params6] at hA hval
  obtain ⟨v0, vs0, d0, ds0, p0, q0, hargs, rfl, rfl, h0, r0⟩ := trodAll_cons hA
  obtain ⟨rfl, rfl, rfl⟩ := trodAll_nil r0
  obtain rfl : args = #[v0] := by cases args; simp_all
  obtain ⟨rfl, rfl⟩ := trodVars_none hV
  obtain ⟨a0, len0, cap0, rfl⟩ := okWide_slice Try.underlying22 (hval 0 22 v0 rfl rfl)
  have k0 := h0
  have lt0 : ∀ x ∈ p0, x.block < W.heap.size := by obtain ⟨m, hm⟩ := k0; exact DataW.trod_lt m _ _ _ hm
  obtain ⟨z0, w0⟩ : ∃ zs, IsRow .u8 W a0 len0 cap0 zs := by
    obtain ⟨fuel, hf⟩ := h0
    rcases open_ints Try.underlying22 Try.underlying5 (by kernel_rfl) hf with ⟨hcs, _⟩ | ⟨x, l, c, zs, hcs, _, hl, hm, hz, _, hcell, hwz⟩
    · simp [Value.cells] at hcs
      obtain ⟨rfl, rfl, rfl⟩ := hcs
      exact ⟨[], .inl ⟨rfl, rfl, rfl, rfl⟩⟩
    · simp [Value.cells] at hcs
      obtain ⟨rfl, rfl, rfl⟩ := hcs
      exact ⟨zs, .inr ⟨_, rfl, hl, hm, by simpa using hz, hcell, hwz⟩⟩
  clear hA0 hval0
  refine (walk a0 len0 cap0 z0 W w0).mono fun e W' ⟨he, bel⟩ => ?_
  subst he
  exact ⟨_, rfl, _, _, _, [], _, [], hW', trodAll_mk1 (shut_bool Try.underlying4 _), (trodAll_cons_mk (Below.trod laidOut (by kernel_rfl) (of_decide_eq_true (by kernel_rfl)) k0 bel lt0) trodAll_mk0), rfl, bel.frame _, fun h => by cases h⟩

theorem over : Rows.fnFindNameRow.holds Try.pinned (OpenSpec.ofChange Rows.fnFindNameSpec) :=
  OpenClaim.holds_of_wide 6 Try.f6 rfl rfl rfl rfl rfl rfl rfl ⟨rfl, rfl, rfl, rfl, rfl⟩ rfl rfl rfl rfl rfl (by kernel_rfl) Try.func6 (by kernel_rfl)
    (of_decide_eq_true (by kernel_rfl)) (by unfold Func.isWrapper; first | (rw [if_pos (by decide +kernel)]; kernel_rfl) | (rw [if_neg (by decide +kernel)]; exact ⟨rfl, rfl⟩))
    (fun os started H enc _ => lifted os started H enc)

/-- ████ THE STATEMENT ████ -/
theorem proved : Rows.FnFindNameSaid := over
#print axioms proved
end Go.Proofs.Ytengcjglkcmkbaa.fnFindName
