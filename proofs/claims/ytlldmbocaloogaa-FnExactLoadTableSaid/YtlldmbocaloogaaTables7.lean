/- Rows of numbers and tables that are made: make, copy, a list put at its place.
   What the program's TableValid answers.
   What the program's emptyTable, copyTable, isNamedElsewhere, TableGet and TableChanges answer.
   What the program's TablePut answers.
   Plain facts on the table of a device.
   What the program's TableOf answers.
   What the model's TableOf answers. -/
import Derived.Test.YtlldmbocaloogaaTables2
import Derived.Test.YtlldmbocaloogaaExactDev3
import Derived.Test.YtlldmbocaloogaaHand
import Derived.Laws.OwnMore
namespace Go.Proofs.Ytlldmbocaloogaa
open Go.ChangeShapes Go.WideShapes Go.ChangeAt Go.RowKit

theorem make_ints (w : World) (n : Nat) (hn : n ≤ 1048576) :
    (Instr.makeSlice 23 (.int .i64 (n : Int)) (.int .i64 (n : Int))).run Try.prog w = .ok (.slice (some ⟨w.heap.size, 0, none⟩) n n) (w.alloc (.cells (madeCells #[.int .i64 0] n) 3)) := by
  obtain ⟨i, hi, hz, hs, hb⟩ := info_parts int_info
  have hr := run_make (P := Try.prog) w 23 3 i _ Try.underlying23 hi hz .i64 .i64 n n (by omega) (by omega) (by rw [hb]; omega) (by omega)
  simp only [Int.toNat_natCast, hs, Nat.mul_one] at hr
  exact hr
theorem make_lists (w : World) (n : Nat) (hn : n ≤ 1048576) :
    (Instr.makeSlice 29 (.int .i64 (n : Int)) (.int .i64 (n : Int))).run Try.prog w = .ok (.slice (some ⟨w.heap.size, 0, none⟩) n n) (w.alloc (.cells (madeCells #[.slice none 0 0] n) 23)) := by
  obtain ⟨i, hi, hz, hs, hb⟩ := info_parts list_info
  have hr := run_make (P := Try.prog) w 29 23 i _ Try.underlying29 hi hz .i64 .i64 n n (by omega) (by omega) (by rw [hb]; omega) (by omega)
  simp only [Int.toNat_natCast, hs, Nat.mul_one] at hr
  exact hr
theorem iown_made (w : World) (base n : Nat) (hb : base ≤ w.heap.size) (hn : n ≤ maxLen) :
    IOwn (w.alloc (.cells (madeCells #[.int .i64 0] n) 3)) base (.slice (some ⟨w.heap.size, 0, none⟩) n n) (List.replicate n 0) := by
  have h := World.ownsRow_lit (e := 3) (size := 1) w (madeCells #[.int .i64 0] n) n hb hn (by simp [madeCells])
  rw [toList_madeCells_one] at h
  unfold IOwn VOwn
  simpa [iv] using h
/-- A list that was not put yet. -/
def lz : Li := ⟨none, 0, []⟩
theorem town_made (w : World) (base n : Nat) (hb : base ≤ w.heap.size) (hn : n ≤ maxLen) :
    TOwn (w.alloc (.cells (madeCells #[.slice none 0 0] n) 23)) base (.slice (some ⟨w.heap.size, 0, none⟩) n n) (List.replicate n lz) := by
  refine ⟨?_, fun l hm => ?_, fun i j l l' a a' _ hi _ ha _ => ?_⟩
  · have h := World.ownsRow_lit (e := 23) (size := 1) w (madeCells #[.slice none 0 0] n) n hb hn (by simp [madeCells])
    rw [toList_madeCells_one] at h
    unfold VOwn
    simpa [lv, lz, Li.row] using h
  · rw [List.eq_of_mem_replicate hm]
    exact World.ownsRow_nil _ _ _ _
  · rw [List.eq_of_mem_replicate (List.mem_of_getElem? hi)] at ha
    cases ha
/-- copy(d, s) where both have as many numbers. -/
theorem copy_ints (w : World) (base g dCap sCap : Nat) (A : Option Addr) (B n : Nat) (qs ps : List Int) (hp : ps.length = n) (hpos : 0 < n)
    (ho : IOwn w base (.slice (some ⟨g, 0, none⟩) n dCap) qs) (hq : qs.length = n) (hr : IRow w B A ps) :
    ∃ w', (∀ ty, (Builtin.copy_ #[23, 23] ty #[.slice (some ⟨g, 0, none⟩) n dCap, .slice A n sCap]).run Try.prog w = .ok (.int .i64 (n : Int)) w') ∧ IOwn w' base (.slice (some ⟨g, 0, none⟩) n dCap) ps ∧ w.grownBy w' (some g) := by
  obtain ⟨ga, off, rfl, _, hz, hc⟩ := hr (by rw [iv_length]; omega)
  have ho' : VOwn w base 3 (.slice (some ⟨g, 0, none⟩) n dCap) (iv qs) := ho
  rcases ho'.2 with ⟨e, hn0⟩ | ⟨g', cap, cur, e, hb, hg, hcap, hm, hsz, htk⟩
  · cases e
  · injection e with e1 e2 e3
    injection e1 with e1
    injection e1 with e1
    subst e1; subst e3
    obtain ⟨i, hi, hzz, hs, hby⟩ := info_parts int_info
    have hlen : (iv ps).length = n * 1 := by rw [iv_length, hp, Nat.mul_one]
    have hsrc : ∀ j v, (iv ps)[j]? = some v → w.cell? ((⟨ga, off, none⟩ : Addr).add j) = some v := by
      intro j v hv
      have hadd : (⟨ga, off, none⟩ : Addr).add j = ⟨ga, off + j, none⟩ := by unfold Addr.add; split <;> simp_all
      rw [hadd]
      exact hc _ _ hv
    have hrun := fun ty => run_copy_rowN (P := Try.prog) w 23 23 ty 3 1 g 0 n dCap ⟨ga, off, none⟩ sCap cur 3 (iv ps) Try.underlying23 (by rw [hi]; simp [hs]) hg hlen hsrc (by rw [hlen, hsz]; rw [iv_length] at *; omega) (iv_one ps)
    refine ⟨_, hrun, ⟨by omega, .inr ⟨g, dCap, _, by rw [iv_length, hp], hb, setRow_heap w g cur _ _ _ hg, by rw [iv_length] at *; omega, hm, ?_, ?_⟩⟩, ⟨rfl, rfl, rfl, by simp [World.setRow], fun k _ hk => setRow_other w g k _ (by intro e; exact hk (by rw [e]))⟩⟩
    · rw [iv_length] at *
      simp [iv_length, hp, hsz]; omega
    · simp [iv_length, hp]
/-- A list of its own, made since, is put at its place in a table of the call's own. -/
theorem TOwn.putl {wr w1 : World} {base g cap n : Nat} {cs : List Li} {A : Option Addr} {c m : Nat} {xs : List Int} (h : TOwn wr base (.slice (some ⟨g, 0, none⟩) n cap) cs) (hn : cs.length = n) (hk : wr.grownBy w1 none) (hp : IOwn w1 wr.heap.size (.slice A m c) xs) (hl : xs.length = m)
    (hb : base ≤ wr.heap.size) (k : Nat) : TOwn (w1.setCell ⟨g, k, none⟩ (.slice A m c)) base (.slice (some ⟨g, 0, none⟩) n cap) (cs.set k ⟨A, c, xs⟩) := by
  subst hl
  have h1 := h.keep hk
  have hgr : g < wr.heap.size ∧ base ≤ g := by
    have := VOwn.lt h.1 g (by simp [Value.ownBlock])
    omega
  refine ⟨?_, fun b hm => ?_, fun i j b b' a a' hij hi hj ha ha' => ?_⟩
  · rw [lv_set]
    exact VOwn.set h1.1 (by rw [lv_length]; exact hn) k _
  · rcases List.mem_or_eq_of_mem_set hm with hm | rfl
    · refine VOwn.to_put (h1.2.1 b hm) ?_ _
      rcases h1.inner_ne hm with e | e
      · simp [e]
      · exact fun e' => e (e'.trans (by simp [Value.ownBlock]))
    · refine VOwn.to_put (VOwn.base_le hp hb) ?_ _
      intro e
      have := (VOwn.lt hp g e).1
      omega
  · have lt : ∀ {b : Li} {a : Addr}, b ∈ cs → b.A = some a → a.block < wr.heap.size := fun {b a} hm e => (VOwn.lt (h.2.1 b hm) a.block (by simp [Li.row, e, Value.ownBlock])).2
    have ge : ∀ {a : Addr}, A = some a → wr.heap.size ≤ a.block := fun {a} e => (VOwn.lt hp a.block (by simp [e, Value.ownBlock])).1
    rw [List.getElem?_set] at hi hj
    by_cases hik : k = i
    · by_cases hjk : k = j
      · omega
      · rw [if_pos hik] at hi
        rw [if_neg hjk] at hj
        split at hi
        · injection hi with hi
          subst hi
          have := lt (List.mem_of_getElem? hj) ha'
          have := ge ha
          omega
        · cases hi
    · rw [if_neg hik] at hi
      by_cases hjk : k = j
      · rw [if_pos hjk] at hj
        split at hj
        · injection hj with hj
          subst hj
          have := lt (List.mem_of_getElem? hi) ha
          have := ge ha'
          omega
        · cases hj
      · rw [if_neg hjk] at hj
        exact h.2.2 i j b b' a a' hij hi hj ha ha'
/-- The lists that were put so far. -/
def Filled (xss : List (List Int)) (n k : Nat) (cs : List Li) : Prop := cs.length = n ∧ (ll cs).take k = xss.take k
theorem filled_step {xss : List (List Int)} {n k : Nat} {cs : List Li} {A : Option Addr} {c : Nat} {xs : List Int} (h : Filled xss n k cs) (hk : k < n) (hx : xss[k]? = some xs) : Filled xss n (k + 1) (cs.set k ⟨A, c, xs⟩) := by
  obtain ⟨h1, h2⟩ := h
  refine ⟨by simpa using h1, ?_⟩
  rw [ll_set, List.take_add_one, List.take_add_one, List.take_set_of_le (Nat.le_refl _), List.getElem?_set_self (by rw [ll_length]; omega), hx, h2]
theorem filled_all {xss : List (List Int)} {n : Nat} {cs : List Li} (h : Filled xss n n cs) (hl : xss.length = n) : ll cs = xss := by
  have := h.2
  rwa [List.take_of_length_le (by rw [ll_length, h.1]; exact Nat.le_refl _), List.take_of_length_le (by omega)] at this
end Go.Proofs.Ytlldmbocaloogaa
namespace Go.Proofs.Ytlldmbocaloogaa
open Go.ChangeShapes Go.WideShapes Go.ChangeAt Go.RowKit
set_option linter.unusedVariables false

theorem isPage_any (x : Int) (w : World) : Calls Try.prog 43 #[.int .i64 x] w fun e w' => e = .returned (.bool (inB x (-1) 47)) ∧ w = w' := by
  go_enter Try.func43, Try.ntmps43
  go_wp2
  all_goals (go_ret; refine ⟨retB ?_, rfl⟩; rw [Bool.eq_iff_iff]; simp [inB]; omega)
/-- Every file has a list with a number for every place. -/
def sixB (xss : List (List Int)) : Bool := decide (xss.length = 8) && xss.all (fun l => decide (l.length = 6))
theorem six_no {xss : List (List Int)} (h : xss.length ≠ 8) : sixB xss = false := by simp [sixB, h]
theorem six_len {xss : List (List Int)} {f : Nat} {xs : List Int} (h : xss[f]? = some xs) (h6 : xs.length ≠ 6) : sixB xss = false := by
  have : xss.all (fun l => decide (l.length = 6)) = false := by
    rw [List.all_eq_false]
    exact ⟨xs, List.mem_of_getElem? h, by simp [h6]⟩
  simp [sixB, this]
theorem six_yes {xss : List (List Int)} (h8 : xss.length = 8) (h : ∀ (j : Nat) (xs : List Int), xss[j]? = some xs → xs.length = 6) : sixB xss = true := by
  simp only [sixB, h8, decide_true, Bool.true_and, List.all_eq_true]
  intro xs hx
  obtain ⟨j, hj⟩ := List.getElem?_of_mem hx
  simp [h j xs hj]
theorem allPlaces_any (A : Option Addr) (n c : Nat) (ls : List Li) (w : World) (hl : ls.length = n) (hr : TRow w w.heap.size A ls) (hn : n ≤ 1048576) :
    Calls Try.prog 52 #[.agg #[.slice A n c]] w (KeptV (.bool (sixB (ll ls))) w) := by
  have HT := Lib.hid (And.intro (TIn.start hr n c) hl)
  clear hr hl
  go_enter Try.func52, Try.ntmps52
  by_cases h8 : n = 8
  · subst h8
    go_wp2
    go_loopw [12] (fun i wr => ∃ f : Nat, i = .int .i64 f ∧ f ≤ 8 ∧ (∀ (j : Nat) (l : Li), j < f → ls[j]? = some l → l.xs.length = 6) ∧ TIn w A 8 c ls wr) (fun i _ => 8 - (intOf i).toNat)
    case atStart => exact ⟨0, rfl, Nat.zero_le _, fun j _ hj => absurd hj (by omega), HT.out.1⟩
    case round =>
      obtain ⟨f, rfl, hf, hj, hT⟩ := hrel
      by_cases hlt : f < 8
      · have hf8 : (f : Int) < 8 := by omega
        have hf0 : decide ((0 : Int) ≤ f) = true := decide_eq_true (by omega)
        obtain ⟨g, off, rfl⟩ := hT.2.1.pos (by have := HT.out.2; omega)
        obtain ⟨⟨Al, cl, xs⟩, hll⟩ : ∃ l, ls[f]? = some l := ⟨_, List.getElem?_eq_getElem (by have := HT.out.2; omega)⟩
        have c0 := hT.2.1.cellf hll rfl
        have HX := Lib.hid (And.intro hj (And.intro hT hll))
        clear hj hT hll
        by_cases h6 : xs.length = 6
        · have t6 : ((xs.length : Int) != 6) = false := by simp; omega
          have H6 := Lib.hid h6
          clear h6
          go_wp2
          go_roundw
          case rel =>
            refine ⟨f + 1, by go_num, by omega, fun j l hj hl => ?_, HX.out.2.1⟩
            rcases Nat.lt_or_ge j f with h1 | h1
            · exact HX.out.1 j l h1 hl
            · obtain rfl : j = f := by omega
              rw [HX.out.2.2] at hl
              injection hl with hl
              subst hl
              exact H6.out
          case measure => simp [intOf]; omega
        · have t6 : ((xs.length : Int) != 6) = true := by simp; omega
          have HZ := Lib.hid (six_len (ll_at HX.out.2.2) h6)
          clear h6
          go_wp2
          go_ret
          exact ⟨retB HZ.out.symm, HX.out.2.1.2.2⟩
      · obtain rfl : f = 8 := by omega
        have HZ := Lib.hid (And.intro (six_yes (xss := ll ls) (by rw [ll_length]; exact HT.out.2) (fun j xs hx => by
          obtain ⟨Al, cl, hl⟩ := ll_get hx
          exact hj j _ (by have := (List.getElem?_eq_some_iff.1 hl).1; have := HT.out.2; omega) hl)) hT.2.2)
        clear hj hT
        go_wp2
        go_ret
        exact ⟨retB HZ.out.1.symm, HZ.out.2⟩
  · have t8 : ((n : Int) != 8) = true := by simp; omega
    have HZ := Lib.hid (And.intro (six_no (xss := ll ls) (by rw [ll_length, HT.out.2]; exact h8)) HT.out.1.2.2)
    clear h8
    go_wp2
    go_ret
    exact ⟨retB HZ.out.1.symm, HZ.out.2⟩
/-- The loop over the lists, at list f. -/
def OnceRel (w : World) (A : Option Addr) (c : Nat) (ls : List Li) (f : Nat) (wr : World) : Prop :=
  f ≤ ls.length ∧ (∃ P, flatB [] (ll ls).flatten = flatB P ((ll ls).drop f).flatten ∧ Seen wr (w.heap.size + 1) P) ∧ TRow wr w.heap.size A ls ∧ w.grownBy wr none
/-- The loop over the numbers of list f, at number k. -/
def OnceRel2 (w : World) (A : Option Addr) (c : Nat) (ls : List Li) (f : Nat) (xs : List Int) (k : Nat) (wr : World) : Prop :=
  k ≤ xs.length ∧ (∃ P, flatB [] (ll ls).flatten = flatB P (xs.drop k ++ ((ll ls).drop (f + 1)).flatten) ∧ Seen wr (w.heap.size + 1) P) ∧ TRow wr w.heap.size A ls ∧ w.grownBy wr none
theorem pagesOnce_any (A : Option Addr) (n c : Nat) (ls : List Li) (w : World) (hl : ls.length = n) (hr : TRow w w.heap.size A ls) (hn : n ≤ 1048576) (hp : ∀ l, l ∈ ls → l.xs.length ≤ 1048576) :
    Calls Try.prog 53 #[.agg #[.slice A n c]] w (KeptV (.bool (flatB [] (ll ls).flatten)) w) := by
  subst hl
  have hmk := make_seen (w.alloc (.cells #[.slice A ls.length c] 31))
  have hs0 := Seen.new (w.alloc (.cells #[.slice A ls.length c] 31))
  have hb0 := (Blk.new w 31 #[.slice A ls.length c]).alloc (.cells (madeCells #[.bool false] 48) 4)
  have b0 := hb0.cell 0
  simp only [size_alloc1] at hs0 hmk
  have HR := Lib.hid hp
  have HS := Lib.hid (And.intro hs0 (hr.alloc (.cells #[.slice A ls.length c] 31)).alloc)
  clear hr hp hs0 hb0
  go_enter Try.func53, Try.ntmps53
  go_wp2
  go_loopw [12] (fun i wr => ∃ f : Nat, i = .int .i64 f ∧ OnceRel w A c ls f wr) (fun i _ => ls.length - (intOf i).toNat)
  case atStart => exact ⟨0, rfl, Nat.zero_le _, ⟨[], rfl, HS.out.1⟩, HS.out.2 _, grown_alloc (grown_alloc (grown_refl _ _) _) _⟩
  case round =>
    clear HS hmk b0
    obtain ⟨f, rfl, hf, ⟨P, hP, hs⟩, hT, hg⟩ := hrel
    by_cases hlt : f < ls.length
    · have hf8 : (f : Int) < ls.length := by omega
      have hf0 : decide ((0 : Int) ≤ f) = true := decide_eq_true (by omega)
      obtain ⟨g, off, rfl⟩ := hT.pos (by omega)
      obtain ⟨⟨Al, cl, xs⟩, hll⟩ : ∃ l, ls[f]? = some l := ⟨_, List.getElem?_eq_getElem hlt⟩
      have c0 := hT.cellf hll rfl
      have hpl := HR.out _ (List.mem_of_getElem? hll)
      dsimp only at hpl
      rw [flatten_at (ll_at hll)] at hP
      have HX := Lib.hid hll
      have HS := Lib.hid (show OnceRel2 w (some ⟨g, off, none⟩) c ls f xs 0 wr from ⟨Nat.zero_le _, ⟨P, hP, hs⟩, hT, hg⟩)
      clear hll hP hs hT hg
      go_wp2
      go_loopw [18] (fun i wr => ∃ k : Nat, i = .int .i64 k ∧ OnceRel2 w (some ⟨g, off, none⟩) c ls f xs k wr) (fun i _ => xs.length - (intOf i).toNat)
      case atStart => exact ⟨0, rfl, HS.out⟩
      case round =>
        clear HS c0
        obtain ⟨k, rfl, hk, ⟨Q, hQ, hs⟩, hT, hg⟩ := hrel
        by_cases hkl : k < xs.length
        · have hk8 : (k : Int) < xs.length := by omega
          have hk0 : decide ((0 : Int) ≤ k) = true := decide_eq_true (by omega)
          obtain ⟨gx, ox, e⟩ := IRow.pos (hT.inner HX.out) (by show 0 < xs.length; omega)
          dsimp only at e
          subst e
          obtain ⟨x, hx⟩ : ∃ x, xs[k]? = some x := ⟨_, List.getElem?_eq_getElem hkl⟩
          have d0 := (hT.inner HX.out).cellf hx
          rw [drop_cons hx ((ll ls).drop (f + 1)).flatten] at hQ
          clear hx
          cases hin : inB x (-1) 47
          · have HZ := Lib.hid (And.intro (hQ.trans (flat_out hin)) (And.intro hg hin))
            clear hQ hg hs hT hin
            go_wp2_with (go_at_call 43; refine (isPage_any _ _).mono ?_; rintro e w' ⟨rfl, rfl⟩; rw [HZ.out.2.2])
            go_ret
            exact ⟨retB HZ.out.1.symm, HZ.out.2.1⟩
          · by_cases hx0 : 0 ≤ x
            · obtain ⟨v, rfl⟩ := Int.eq_ofNat_of_zero_le hx0
              have hv : v < 48 := by have := inB_iff.1 hin; omega
              have s0 : wr.cell? ⟨w.heap.size + 1, v, none⟩ = some (.bool (Q.contains (v : Int))) := World.rowIs.cell hs hv
              have v1 : ((v : Int) == -1) = false := by rw [beq_eq_false_iff_ne]; omega
              have v2 : decide ((0 : Int) ≤ v) = true := decide_eq_true (by omega)
              have v3 : (v : Int) < 48 := by omega
              cases hc : Q.contains (v : Int)
              · rw [hc] at s0
                have f0 : wr.frozen? ⟨w.heap.size + 1, v, none⟩ = false := World.rowIs.frozen hs v
                have HZ := Lib.hid (And.intro (hQ.trans (flat_new hin hc)) (And.intro (hs.put (v := v)) (And.intro (hT.put (p := ⟨w.heap.size + 1, v, none⟩) (by dsimp only; omega) (.bool true)) (And.intro (grown_put hg (p := ⟨w.heap.size + 1, v, none⟩) (by dsimp only; omega) (.bool true)) hin))))
                clear hQ hg hs hT hc hin
                go_wp2_with (go_at_call 43; refine (isPage_any _ _).mono ?_; rintro e w' ⟨rfl, rfl⟩; rw [HZ.out.2.2.2.2])
                go_roundw
                case rel => exact ⟨k + 1, by go_num, by omega, ⟨_, HZ.out.1, HZ.out.2.1⟩, HZ.out.2.2.1, HZ.out.2.2.2.1⟩
                case measure => simp [intOf]; omega
              · rw [hc] at s0
                have HZ := Lib.hid (And.intro (hQ.trans (flat_twice hc hx0)) (And.intro hg hin))
                clear hQ hg hs hT hc hin
                go_wp2_with (go_at_call 43; refine (isPage_any _ _).mono ?_; rintro e w' ⟨rfl, rfl⟩; rw [HZ.out.2.2])
                go_ret
                exact ⟨retB HZ.out.1.symm, HZ.out.2.1⟩
            · have ex : x = -1 := by have := inB_iff.1 hin; omega
              subst ex
              have HZ := Lib.hid (And.intro (hQ.trans (flat_neg hin hx0)) (And.intro (hs.neg hx0) (And.intro hT (And.intro hg hin))))
              clear hQ hg hs hT hin
              go_wp2_with (go_at_call 43; refine (isPage_any _ _).mono ?_; rintro e w' ⟨rfl, rfl⟩; rw [HZ.out.2.2.2.2])
              go_roundw
              case rel => exact ⟨k + 1, by go_num, by omega, ⟨_, HZ.out.1, HZ.out.2.1⟩, HZ.out.2.2.1, HZ.out.2.2.2.1⟩
              case measure => simp [intOf]; omega
        · obtain rfl : k = xs.length := by omega
          rw [List.drop_length, List.nil_append] at hQ
          have HZ := Lib.hid (And.intro hQ (And.intro hs (And.intro hT hg)))
          clear hQ hs hT hg
          go_wp2
          go_roundw
          case rel => exact ⟨f + 1, by go_num, by omega, ⟨_, HZ.out.1, HZ.out.2.1⟩, HZ.out.2.2.1, HZ.out.2.2.2⟩
          case measure => simp [intOf]; omega
    · obtain rfl : f = ls.length := by omega
      have e : (ll ls).drop ls.length = [] := by rw [← ll_length, List.drop_length]
      rw [e] at hP
      have HZ := Lib.hid (And.intro hP hg)
      clear hP hs hT hg e
      go_wp2
      go_ret
      exact ⟨retB (by rw [HZ.out.1]; rfl), HZ.out.2⟩
theorem tabB_parts (xss : List (List Int)) : tabB xss = (sixB xss && flatB [] xss.flatten) := by simp [tabB, sixB]
theorem tabValid_any (A : Option Addr) (n c : Nat) (ls : List Li) (w : World) (hl : ls.length = n) (hr : TRow w w.heap.size A ls) (hn : n ≤ 1048576) (hp : ∀ l, l ∈ ls → l.xs.length ≤ 1048576) :
    Calls Try.prog 26 #[.agg #[.slice A n c]] w (KeptV (.bool (tabB (ll ls))) w) := by
  have HT := Lib.hid (TIn.start hr n c)
  have HP := Lib.hid (And.intro hl hp)
  clear hr hl hp
  cases ha : sixB (ll ls)
  · have HV := Lib.hid (And.intro ha (show tabB (ll ls) = false by rw [tabB_parts, ha]; rfl))
    clear ha
    rw [HV.out.2]
    go_enter Try.func26, Try.ntmps26
    go_wp2_with fail
    refine (allPlaces_any _ _ _ ls _ HP.out.1 HT.out.2.1.here hn).mono ?_
    rw [HV.out.1]
    rintro e w1 ⟨rfl, hk⟩
    have HK := Lib.hid (HT.out.keep hk)
    clear hk
    go_wp2
    go_ret
    exact ⟨rfl, HK.out.2.2⟩
  · have HV := Lib.hid (And.intro ha (show tabB (ll ls) = flatB [] (ll ls).flatten by rw [tabB_parts, ha]; rfl))
    clear ha
    rw [HV.out.2]
    go_enter Try.func26, Try.ntmps26
    go_wp2_with fail
    refine (allPlaces_any _ _ _ ls _ HP.out.1 HT.out.2.1.here hn).mono ?_
    rw [HV.out.1]
    rintro e w1 ⟨rfl, hk⟩
    have HK := Lib.hid (HT.out.keep hk)
    have b0 : w1.cell? ⟨w.heap.size, 0, none⟩ = some (.slice A n c) := HK.out.1.cell 0
    clear hk
    go_wp2_with fail
    refine (pagesOnce_any _ _ _ ls _ HP.out.1 HK.out.2.1.here hn HP.out.2).mono ?_
    rintro e w2 ⟨rfl, hk⟩
    have HF := Lib.hid (HK.out.keep hk)
    clear hk
    go_wp2
    go_ret
    exact ⟨rfl, HF.out.2.2⟩
theorem tabValid_val {A : Option Addr} {n c : Nat} {ls : List Li} {w : World} {V : Bool} (hv : tabB (ll ls) = V) (hl : ls.length = n) (hr : TRow w w.heap.size A ls) (hn : n ≤ 1048576) (hp : ∀ l, l ∈ ls → l.xs.length ≤ 1048576) :
    Calls Try.prog 26 #[.agg #[.slice A n c]] w (KeptV (.bool V) w) := hv ▸ tabValid_any A n c ls w hl hr hn hp
end Go.Proofs.Ytlldmbocaloogaa
namespace Go.Proofs.Ytlldmbocaloogaa
open Go.ChangeShapes Go.WideShapes Go.ChangeAt Go.RowKit
set_option linter.unusedVariables false

theorem make_ints6 (w : World) : (Instr.makeSlice 23 (.int .i64 6) (.int .i64 6)).run Try.prog w = .ok (.slice (some ⟨w.heap.size, 0, none⟩) 6 6) (w.alloc (.cells (madeCells #[.int .i64 0] 6) 3)) := make_ints w 6 (by omega)
theorem make_lists8 (w : World) : (Instr.makeSlice 29 (.int .i64 8) (.int .i64 8)).run Try.prog w = .ok (.slice (some ⟨w.heap.size, 0, none⟩) 8 8) (w.alloc (.cells (madeCells #[.slice none 0 0] 8) 23)) := make_lists w 8 (by omega)
theorem listNo_any (w : World) : Calls Try.prog 70 #[] w fun e w' => ∃ g, e = .returned (.slice (some ⟨g, 0, none⟩) 6 6) ∧ IOwn w' w.heap.size (.slice (some ⟨g, 0, none⟩) 6 6) m6 ∧ w.grownBy w' none := by
  have hmk := fun W => make_ints6 W
  have HO := Lib.hid (And.intro (iown_made w w.heap.size 6 (Nat.le_refl _) (by simp [maxLen])) (grown_alloc (grown_refl w none) (.cells (madeCells #[.int .i64 0] 6) 3)))
  go_enter Try.func70, Try.ntmps70
  go_wp2
  go_loopw [2] (fun i wr => ∃ k : Nat, i = .int .i64 k ∧ k ≤ 6 ∧ (∃ xs, xs.length = 6 ∧ xs.take k = List.replicate k (-1) ∧ IOwn wr w.heap.size (.slice (some ⟨w.heap.size, 0, none⟩) 6 6) xs) ∧ w.grownBy wr none) (fun i _ => 6 - (intOf i).toNat)
  case atStart => exact ⟨0, rfl, Nat.zero_le _, ⟨_, by simp, rfl, HO.out.1⟩, HO.out.2⟩
  case round =>
    clear HO hmk
    obtain ⟨k, rfl, hk, ⟨xs, h6, ht, ho⟩, hg⟩ := hrel
    by_cases hlt : k < 6
    · have hk5 : (k : Int) ≤ 5 := by omega
      have hk7 : (k : Int) < 6 := by omega
      have hk0 : decide ((0 : Int) ≤ k) = true := decide_eq_true (by omega)
      obtain ⟨x, hx⟩ : ∃ x, xs[k]? = some x := ⟨_, List.getElem?_eq_getElem (by omega)⟩
      have c0 : wr.cell? ⟨w.heap.size, k, none⟩ = some (.int .i64 x) := VOwn.at_ ho (by rw [iv_length]; exact h6) (iv_at hx)
      have f0 : wr.frozen? ⟨w.heap.size, k, none⟩ = false := VOwn.frozen ho (by rw [iv_length]; exact h6) k
      have hs := VOwn.set ho (by rw [iv_length]; exact h6) k (.int .i64 (-1))
      rw [← iv_set] at hs
      have HZ := Lib.hid (And.intro (show (xs.set k (-1)).take (k + 1) = List.replicate (k + 1) (-1) by rw [List.take_add_one, List.take_set_of_le (Nat.le_refl _), List.getElem?_set_self (by omega), ht, List.replicate_succ']; rfl) (And.intro hs (And.intro (grown_put hg (p := ⟨w.heap.size, k, none⟩) (Nat.le_refl _) (.int .i64 (-1))) h6)))
      clear h6 ht ho hg hs hx
      go_wp2
      go_roundw
      case rel => exact ⟨k + 1, by go_num, by omega, ⟨_, by rw [List.length_set]; exact HZ.out.2.2.2, HZ.out.1, HZ.out.2.1⟩, HZ.out.2.2.1⟩
      case measure => simp [intOf]; omega
    · obtain rfl : k = 6 := by omega
      rw [List.take_of_length_le (by omega)] at ht
      have HZ := Lib.hid (And.intro ht (And.intro ho hg))
      clear h6 ht ho hg
      go_wp2
      go_ret
      exact ⟨_, rfl, by have h := HZ.out.2.1; rw [HZ.out.1] at h; exact h, HZ.out.2.2⟩
theorem noTab_at {k : Nat} (h : k < 8) : noTab[k]? = some m6 := by rw [noTab, List.getElem?_replicate, if_pos h]
/-- The loop that puts lists, at list k: the row lies in block G. -/
def FillR (w : World) (xss : List (List Int)) (G k : Nat) (wr : World) : Prop := k ≤ 8 ∧ (∃ cs, Filled xss 8 k cs ∧ TOwn wr w.heap.size (.slice (some ⟨G, 0, none⟩) 8 8) cs) ∧ w.grownBy wr none
theorem emptyTable_any (w : World) : Calls Try.prog 66 #[] w (TabMade noTab 8 w) := by
  have hmk := fun W => make_lists8 W
  have h1 := (Blk.new w 31 #[.slice none 0 0]).alloc (.cells (madeCells #[.slice none 0 0] 8) 23)
  have h2 := town_made (w.alloc (.cells #[.slice none 0 0] 31)) w.heap.size 8 (by simp) (by simp [maxLen])
  simp only [size_alloc1] at h2
  have HO := Lib.hid (And.intro h1 (And.intro h2 (grown_alloc (grown_alloc (grown_refl w none) (.cells #[.slice none 0 0] 31)) (.cells (madeCells #[.slice none 0 0] 8) 23))))
  clear h1 h2
  go_enter Try.func66, Try.ntmps66
  go_wp2
  go_loopw [2] (fun i wr => ∃ k : Nat, i = .int .i64 k ∧ FillR w noTab (w.heap.size + 1) k wr ∧ Blk wr w.heap.size 31 #[.slice none 0 0]) (fun i _ => 8 - (intOf i).toNat)
  case atStart => exact ⟨0, rfl, ⟨Nat.zero_le _, ⟨_, ⟨by simp, rfl⟩, HO.out.2.1⟩, HO.out.2.2⟩, HO.out.1⟩
  case round =>
    clear HO hmk
    obtain ⟨k, rfl, ⟨hk, ⟨cs, hF, ho⟩, hg⟩, hb⟩ := hrel
    by_cases hlt : k < 8
    · have hk8 : (k : Int) < 8 := by omega
      have hk0 : decide ((0 : Int) ≤ k) = true := decide_eq_true (by omega)
      have HX := Lib.hid (And.intro hF (And.intro ho (And.intro hg hb)))
      clear hF ho hg hb
      go_wp2_with fail
      refine (listNo_any wr).mono ?_
      rintro e w1 ⟨gl, rfl, ho1, hk1⟩
      have hD := HX.out.2.1.keep hk1
      obtain ⟨⟨A0, c0, x0⟩, hq⟩ : ∃ q, cs[k]? = some q := ⟨_, List.getElem?_eq_getElem (by have := HX.out.1.1; omega)⟩
      have d0 := hD.at_ HX.out.1.1 hq
      have d1 := hD.frozen HX.out.1.1 k
      have hP := HX.out.2.1.putl HX.out.1.1 hk1 ho1 rfl HX.out.2.2.1.size k
      have HZ := Lib.hid (And.intro (filled_step (A := some ⟨gl, 0, none⟩) (c := 6) HX.out.1 hlt (noTab_at hlt)) (And.intro hP (And.intro (grown_put (grown_trans HX.out.2.2.1 hk1) (p := ⟨w.heap.size + 1, k, none⟩) (by dsimp only; omega) (.slice (some ⟨gl, 0, none⟩) 6 6)) ((HX.out.2.2.2.keep hk1).far (p := ⟨w.heap.size + 1, k, none⟩) (by dsimp only; omega) (.slice (some ⟨gl, 0, none⟩) 6 6)))))
      clear hD hq hP ho1 hk1
      go_wp2
      go_roundw
      case rel => exact ⟨k + 1, by go_num, ⟨by omega, ⟨_, HZ.out.1, HZ.out.2.1⟩, HZ.out.2.2.1⟩, HZ.out.2.2.2⟩
      case measure => simp [intOf]; omega
    · obtain rfl : k = 8 := by omega
      have z0 : wr.cell? ⟨w.heap.size, 0, none⟩ = some (.slice none 0 0) := hb.cell 0
      have z1 : wr.frozen? ⟨w.heap.size, 0, none⟩ = false := hb.frozen 0
      have HZ := Lib.hid (And.intro hF.1 (And.intro (filled_all hF (by simp [noTab])) (And.intro (ho.put hb 0 (.slice (some ⟨w.heap.size + 1, 0, none⟩) 8 8)) (grown_put hg (p := ⟨w.heap.size, 0, none⟩) (Nat.le_refl _) (.slice (some ⟨w.heap.size + 1, 0, none⟩) 8 8)))))
      clear hF ho hg hb
      go_wp2
      exact bodyPost_ret (v := .agg #[.slice (some ⟨w.heap.size + 1, 0, none⟩) 8 8]) (by simp [results, Try.results66, go_sem, *]) rfl ⟨_, _, cs, rfl, HZ.out.1, HZ.out.2.1, HZ.out.2.2.1, HZ.out.2.2.2⟩
/-- No cell before (f, k) but the one of the arguments has the number. -/
def NotYet (xss : List (List Int)) (f0 k0 : Nat) (x : Int) (f k : Nat) : Prop := ∀ f' k', cellO xss f' k' = some x → (f' < f ∨ (f' = f ∧ k' < k)) → f' = f0 ∧ k' = k0
end Go.Proofs.Ytlldmbocaloogaa
namespace Go.Proofs.Ytlldmbocaloogaa
open Go.ChangeShapes Go.WideShapes Go.ChangeAt Go.RowKit
set_option linter.unusedVariables false

end Go.Proofs.Ytlldmbocaloogaa
namespace Go.Proofs.Ytlldmbocaloogaa

theorem full_in {bs : List Bk} (hd : devB bs = true) {k : Nat} {p : Pg} (hp : pageAt bs k = some p) (hf : p.f = true) : ∃ f j : Nat, p.a = (f : Int) ∧ p.b = (j : Int) ∧ f < 8 ∧ j < 6 := by
  obtain ⟨_, hall⟩ := dev_parts hd
  unfold pageAt at hp
  rw [Option.bind_eq_some_iff] at hp
  obtain ⟨b, hb, hq⟩ := hp
  obtain ⟨_, h4, ho⟩ := block_parts (hall b (List.mem_of_getElem? hb))
  have hlt := (List.getElem?_eq_some_iff.1 hq).1
  unfold ordB at ho
  rw [List.all_eq_true] at ho
  have h1 := ho (k % 4) (by simpa using hlt)
  unfold okAt at h1
  rw [Bool.and_eq_true] at h1
  have h2 := h1.1
  have e : b.ps.getD (k % 4) pz = p := by simp [List.getD_eq_getElem?_getD, hq]
  rw [e] at h2
  unfold pgB at h2
  rw [hf] at h2
  simp only [pageB, if_true, Bool.and_eq_true] at h2
  obtain ⟨⟨⟨ha, hb'⟩, _⟩, _⟩ := h2
  have ha' := inB_iff.1 ha
  have hb2 := inB_iff.1 hb'
  exact ⟨p.a.toNat, p.b.toNat, by omega, by omega, by omega, by omega⟩
/-- The table names no page for the file and the place of page p, or one with a lesser stamp. -/
def newerB (bs : List Bk) (xss : List (List Int)) (p : Pg) : Bool :=
  match cellO xss p.a.toNat p.b.toNat with
  | some x => if x = -1 then true else (match pageAt bs x.toNat with
    | some q => decide (q.d < p.d)
    | none => true)
  | none => false
/-- Page k taken into account. -/
def ofStep (bs : List Bk) (xss : List (List Int)) (k : Nat) : List (List Int) :=
  match pageAt bs k with
  | some p => if p.f && newerB bs xss p then tset xss p.a.toNat p.b.toNat k else xss
  | none => xss
/-- The table of the first k pages. -/
def tabTo (bs : List Bk) : Nat → List (List Int)
  | 0 => noTab
  | k + 1 => ofStep bs (tabTo bs k) k
/-- What TableOf answers. -/
def tabOf (bs : List Bk) : List (List Int) := if devB bs then tabTo bs (4 * bs.length) else []
/-- What holds of the table of the first k pages. -/
structure OfInv (bs : List Bk) (k : Nat) (xss : List (List Int)) : Prop where
  tv : TV xss
  ent : ∀ (f j : Nat) (x : Int), cellO xss f j = some x → x = -1 ∨ ∃ (a : Nat) (q : Pg), x = (a : Int) ∧ a < k ∧ pageAt bs a = some q ∧ q.f = true
theorem noTab_cell {f j : Nat} {x : Int} (h : cellO noTab f j = some x) : x = -1 := by
  obtain ⟨xs, h1, h2⟩ := cellO_some h
  have e := List.eq_of_mem_replicate (List.mem_of_getElem? h1)
  subst e
  exact List.eq_of_mem_replicate (List.mem_of_getElem? h2)
theorem noTab_tv : TV noTab := by
  refine ⟨by simp [noTab], fun xs hx => ?_, fun f j x h => ?_, fun f j f' j' x h _ h0 => ?_⟩
  · rw [List.eq_of_mem_replicate hx]; simp [m6]
  · have := noTab_cell h; omega
  · have := noTab_cell h; omega
theorem of_inv {bs : List Bk} (hd : devB bs = true) : ∀ k : Nat, k ≤ 48 → OfInv bs k (tabTo bs k)
  | 0, _ => ⟨noTab_tv, fun f j x h => .inl (noTab_cell h)⟩
  | k + 1, hk => by
    have ih := of_inv hd k (by omega)
    have up : OfInv bs (k + 1) (tabTo bs k) := ⟨ih.tv, fun f j x h => by
      rcases ih.ent f j x h with h1 | ⟨a, q, h1, h2, h3⟩
      · exact .inl h1
      · exact .inr ⟨a, q, h1, by omega, h3⟩⟩
    show OfInv bs (k + 1) (ofStep bs (tabTo bs k) k)
    unfold ofStep
    split
    · rename_i p hp
      split
      · rename_i h
        rw [Bool.and_eq_true] at h
        obtain ⟨f, j, ea, eb, hf8, hj6⟩ := full_in hd hp h.1
        rw [ea, eb]
        simp only [Int.toNat_natCast]
        refine ⟨tset_valid ih.tv hf8 hj6 (by omega) ?_, fun f' j' x hx => ?_⟩
        · rintro ⟨_, f', j', hc, _⟩
          rcases ih.ent f' j' _ hc with h1 | ⟨a, q, h1, h2, _⟩ <;> omega
        · rw [tset_cell ih.tv hf8 hj6] at hx
          split at hx
          · injection hx with hx
            exact .inr ⟨k, p, hx.symm, by omega, hp, h.1⟩
          · exact up.ent f' j' x hx
      · exact up
    · exact up
/-- The step, case by case. -/
theorem of_old {bs : List Bk} {xss : List (List Int)} {k : Nat} {p : Pg} (hp : pageAt bs k = some p) (hf : p.f = false) : ofStep bs xss k = xss := by simp [ofStep, hp, hf]
theorem of_new {bs : List Bk} {xss : List (List Int)} {k f j : Nat} {p : Pg} (hp : pageAt bs k = some p) (hf : p.f = true) (ha : p.a = (f : Int)) (hb : p.b = (j : Int)) (hn : newerB bs xss p = true) : ofStep bs xss k = tset xss f j k := by
  simp [ofStep, hp, hf, hn, ha, hb]
theorem of_less {bs : List Bk} {xss : List (List Int)} {k : Nat} {p : Pg} (hp : pageAt bs k = some p) (hn : newerB bs xss p = false) : ofStep bs xss k = xss := by simp [ofStep, hp, hn]
theorem newer_none {bs : List Bk} {xss : List (List Int)} {p : Pg} {f j : Nat} (ha : p.a = (f : Int)) (hb : p.b = (j : Int)) (hc : cellO xss f j = some (-1)) : newerB bs xss p = true := by simp [newerB, ha, hb, hc]
theorem newer_some {bs : List Bk} {xss : List (List Int)} {p q : Pg} {f j a : Nat} (ha : p.a = (f : Int)) (hb : p.b = (j : Int)) (hc : cellO xss f j = some (a : Int)) (hq : pageAt bs a = some q) : newerB bs xss p = decide (q.d < p.d) := by
  have : ¬ ((a : Int) = -1) := by omega
  simp [newerB, ha, hb, hc, hq, this]
theorem of_yes {bs : List Bk} (h : devB bs = true) : tabOf bs = tabTo bs (4 * bs.length) := by simp [tabOf, h]
theorem of_no {bs : List Bk} (h : devB bs = false) : tabOf bs = [] := by simp [tabOf, h]
theorem of_len {bs : List Bk} {k : Nat} (hd : devB bs = true) (hk : k ≤ 48) : (tabTo bs k).length = 8 := (of_inv hd k hk).tv.len
/-- A device that is equal has the same table. -/
theorem of_is {bs cs : List Bk} (h : cs.map Bk.is = bs.map Bk.is) : tabOf cs = tabOf bs := by
  have hp : ∀ a, pageAt cs a = pageAt bs a := fun a => page_is h a
  have hs : ∀ k, tabTo cs k = tabTo bs k := by
    intro k
    induction k with
    | zero => rfl
    | succ k ih =>
      simp only [tabTo, ofStep, newerB, ih, hp]
      rfl
  unfold tabOf
  rw [devB_is h, hs, is_length h]
end Go.Proofs.Ytlldmbocaloogaa
namespace Go.Proofs.Ytlldmbocaloogaa
open Go.ChangeShapes Go.WideShapes Go.ChangeAt Go.RowKit
set_option linter.unusedVariables false
set_option linter.unusedSimpArgs false

/-- The loop over the pages, at page k: the table lies in variable V, its row in block g. -/
def OfR (w : World) (A : Option Addr) (bs : List Bk) (V g ct k : Nat) (wr : World) : Prop :=
  (∃ cs, cs.length = 8 ∧ ll cs = tabTo bs k ∧ TOwn wr w.heap.size (.slice (some ⟨g, 0, none⟩) 8 ct) cs) ∧ Blk wr V 31 #[.slice (some ⟨g, 0, none⟩) 8 ct] ∧ Blk wr w.heap.size 31 #[.slice none 0 0] ∧ DRow wr w.heap.size A bs ∧ w.grownBy wr none
theorem OfR.keep {w wr w' : World} {A : Option Addr} {bs : List Bk} {V g ct k : Nat} (H : OfR w A bs V g ct k wr) (q : wr.grownBy w' none) : OfR w A bs V g ct k w' := by
  obtain ⟨⟨cs, h1, h2, h3⟩, h4, h5, h6, h7⟩ := H
  exact ⟨⟨cs, h1, h2, h3.keep q⟩, h4.keep q, h5.keep q, h6.kept q, grown_trans h7 q⟩
theorem OfR.next {w wr : World} {A : Option Addr} {bs : List Bk} {V g ct k : Nat} (H : OfR w A bs V g ct k wr) (h : ofStep bs (tabTo bs k) k = tabTo bs k) : OfR w A bs V g ct (k + 1) wr := by
  obtain ⟨⟨cs, h1, h2, h3⟩, h4⟩ := H
  exact ⟨⟨cs, h1, by rw [h2]; exact h.symm, h3⟩, h4⟩
/-- What is needed of the table to read or write the cell of file f and place j. -/
theorem OfR.open_ {w wr : World} {A : Option Addr} {bs : List Bk} {V g ct k : Nat} (H : OfR w A bs V g ct k wr) (hd : devB bs = true) (hk : k ≤ 48) {f j : Nat} (hf : f < 8) (hj : j < 6) :
    ∃ (gl cl : Nat) (x : Int), wr.cell? ⟨g, f, none⟩ = some (.slice (some ⟨gl, 0, none⟩) 6 cl) ∧ wr.cell? ⟨gl, j, none⟩ = some (.int .i64 x) ∧ wr.frozen? ⟨gl, j, none⟩ = false ∧ cellO (tabTo bs k) f j = some x ∧ w.heap.size ≤ gl ∧ gl ≠ g ∧
      (∀ {t : TypeId} {V' : Nat} {cc : Array Value}, Blk wr V' t cc → (3 : TypeId) ≠ t → gl ≠ V') ∧
      ∀ y : Int, ofStep bs (tabTo bs k) k = tset (tabTo bs k) f j y → OfR w A bs V g ct (k + 1) (wr.setCell ⟨gl, j, none⟩ (.int .i64 y)) := by
  obtain ⟨⟨cs, h1, h2, h3⟩, h4, h5, h6, h7⟩ := H
  obtain ⟨xs, x, e1, e6, e2, e3⟩ := (of_inv hd k hk).tv.cell hf hj
  obtain ⟨gl, cl, hli, hio, hgl, hglz⟩ := h3.inner (f := f) (xs := xs) (by rw [h2]; exact e1) (by omega)
  have c0 := h3.at_ h1 hli
  dsimp only at c0
  rw [e6] at c0
  have hVg : gl ≠ g := by
    rcases VOwn.ne hio h3.1 int_ne with e | e
    · simp [Value.ownBlock] at e
    · simpa [Value.ownBlock] using e
  have n4 : gl ≠ V := VOwn.ne_blk hio h4 (by decide)
  have n5 : gl ≠ w.heap.size := VOwn.ne_blk hio h5 (by decide)
  refine ⟨gl, cl, x, c0, VOwn.at_ hio (iv_length xs) (iv_at e2), VOwn.frozen hio (iv_length xs) j, e3, hgl, hVg, fun hb ht => VOwn.ne_blk hio hb ht, fun y hy => ?_⟩
  refine ⟨⟨_, by rw [List.length_set]; exact h1, ?_, h3.set hli j y⟩, h4.far (p := ⟨gl, j, none⟩) (fun e => n4 e.symm) _, h5.far (p := ⟨gl, j, none⟩) (fun e => n5 e.symm) _, ?_, grown_put h7 (p := ⟨gl, j, none⟩) hgl _⟩
  · rw [ll_set, h2, show tabTo bs (k + 1) = ofStep bs (tabTo bs k) k from rfl, hy, tset_row e1]
  · exact h6.keep (by simp [World.setCell]) fun q hq _ => World.cell?_setCell_other wr ⟨gl, j, none⟩ q _ (fun e => by subst e; dsimp only at hq; omega)
theorem OfR.tab {w wr : World} {A : Option Addr} {bs : List Bk} {V g ct k : Nat} (H : OfR w A bs V g ct k wr) (hd : devB bs = true) (hk : k ≤ 48) : ∃ cs, ll cs = tabTo bs k ∧ tabB (ll cs) = true ∧ TRow wr wr.heap.size (some ⟨g, 0, none⟩) cs := by
  obtain ⟨⟨cs, h1, h2, h3⟩, _⟩ := H
  exact ⟨cs, h2, by rw [h2]; exact (tabB_iff _).2 (of_inv hd k hk).tv, h3.row⟩
end Go.Proofs.Ytlldmbocaloogaa
namespace Go.Proofs.Ytlldmbocaloogaa
open Go.ChangeShapes Go.WideShapes Go.ChangeAt Go.RowKit
set_option linter.unusedVariables false
set_option linter.unusedSimpArgs false

/-- What TableOf answers, by letters. -/
def TOfIs (bs : List Bk) (l : List (List Int)) (m : Nat) : Prop := tabOf bs = l ∧ l.length = m
theorem tof_is {n : Nat} {bs : List Bk} (hl : bs.length = n) : ∃ l m, TOfIs bs l m ∧ m ≤ 8 ∧ ∀ xs, xs ∈ l → xs.length = 6 := by
  refine ⟨tabOf bs, (tabOf bs).length, ⟨rfl, rfl⟩, ?_⟩
  cases hd : devB bs
  · rw [of_no hd]; simp
  · obtain ⟨⟨h1, h12⟩, _⟩ := dev_parts hd
    rw [of_yes hd]
    exact ⟨by rw [of_len hd (by omega)]; exact Nat.le_refl _, (of_inv hd _ (by omega)).tv.six⟩
theorem TOfIs.of {bs cs : List Bk} {l : List (List Int)} {m : Nat} (h : TOfIs bs l m) (e : cs.map Bk.is = bs.map Bk.is) : TOfIs cs l m := ⟨(of_is e).trans h.1, h.2⟩
end Go.Proofs.Ytlldmbocaloogaa
