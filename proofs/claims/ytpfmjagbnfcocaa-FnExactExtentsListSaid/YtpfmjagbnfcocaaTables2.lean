/- What the model's l7New and l7Copy answer: tables in memory of their own.
   What the model's l7Copy answers: a table in memory of its own. -/
import Derived.Test.YtpfmjagbnfcocaaInts
import Derived.Test.YtpfmjagbnfcocaaHand
namespace Go.Proofs.Ytpfmjagbnfcocaa
open Go.ChangeShapes Go.WideShapes Go.ChangeAt Go.RowKit

theorem list_info : (Try.prog.info? 30).map (fun i => (i.zero, i.size, i.bytes)) = some (some (.slice none 0 0), 1, 24) := by kernel_rfl
/-- append([]int{}, s...): the numbers of a row that is read, in memory of the call's own. -/
theorem clone_ints {U : World} {A : Option Addr} {B c m : Nat} {xs : List Int} (hr : IRow U B A xs) (hl : xs.length = m) (hm : m ≤ 1048576) :
    ∃ A' c' w', (∀ ty, (Builtin.append_ #[30, 30] ty #[.slice (some ⟨U.heap.size, 0, none⟩) 0 0, .slice A m c]).run Try.prog (U.alloc (.cells #[] 3)) = .ok (.slice A' m c') w') ∧ IOwn w' U.heap.size (.slice A' m c') xs ∧ U.grownBy w' none := by
  have h0 : (U.alloc (.cells #[] 3)).ownsRow U.heap.size 3 1 (.slice (some ⟨U.heap.size, 0, none⟩) 0 0) 0 [] := vown_lit U U.heap.size 3 [] (Nat.le_refl _) (by simp)
  rcases Nat.eq_zero_or_pos m with rfl | hpos
  · obtain rfl := List.eq_nil_of_length_eq_zero hl
    exact ⟨_, 0, _, appendInts_none _ U.heap.size _ 0 A c [] h0, h0, grown_alloc (grown_refl _ _) _⟩
  · obtain ⟨v', w', hrun, h2, h3, _⟩ := append_ints _ U.heap.size _ 0 A B m c xs [] h0 (VRow.alloc hr _) hl hpos (by omega) (by simp only [size_alloc1]; omega)
    have h4 : IOwn w' U.heap.size v' xs := by
      unfold IOwn VOwn
      rw [iv_length, hl]
      simpa using h2
    have h5 : U.grownBy w' none := grown_join (grown_alloc (grown_refl U none) (.cells #[] 3)) h3 (Nat.le_refl _)
    rcases VOwn.form h4 with ⟨_, e⟩ | ⟨g, cap, rfl, _⟩
    · have := congrArg List.length e
      rw [iv_length, List.length_nil] at this
      omega
    · rw [iv_length, hl] at h4 hrun
      exact ⟨_, cap, w', hrun, h4, h5⟩
/-- A table in memory of its own is returned: its lists are xss. -/
def TabMade (xss : List (List Int)) (n : Nat) (w : World) (e : Ending) (w' : World) : Prop :=
  ∃ (A : Option Addr) (c : Nat) (cs : List Li), e = .returned (.agg #[.slice A n c]) ∧ cs.length = n ∧ ll cs = xss ∧ TOwn w' w.heap.size (.slice A n c) cs ∧ w.grownBy w' none
theorem town_nil (w : World) (base : Nat) : TOwn w base (.slice none 0 0) [] := ⟨World.ownsRow_nil w base _ 1, fun l hl => by simp at hl, fun i j l l' a a' _ hi => by simp at hi⟩
theorem take_at {xss : List (List Int)} {k : Nat} {xs : List Int} (h : xss[k]? = some xs) : xss.take (k + 1) = xss.take k ++ [xs] := by rw [List.take_add_one, h]; rfl
theorem TOwn.head {w : World} {base n : Nat} {v : Value} {ls : List Li} (h : TOwn w base v ls) (hl : ls.length = n) (hpos : 0 < n) : ∃ g cap, v = .slice (some ⟨g, 0, none⟩) n cap ∧ base ≤ g ∧ g < w.heap.size ∧ n ≤ cap ∧ cap ≤ maxLen := by
  subst hl
  rcases h.form with ⟨_, rfl⟩ | ⟨g, cap, e, hb⟩
  · simp at hpos
  · exact ⟨g, cap, e, hb⟩
theorem VOwn.head {w : World} {base n : Nat} {ty : TypeId} {v : Value} {cs : List Value} (h : VOwn w base ty v cs) (hl : cs.length = n) (hpos : 0 < n) : ∃ g cap, v = .slice (some ⟨g, 0, none⟩) n cap ∧ base ≤ g ∧ g < w.heap.size ∧ n ≤ cap ∧ cap ≤ maxLen := by
  subst hl
  rcases h.form with ⟨_, rfl⟩ | ⟨g, cap, e, hb⟩
  · simp at hpos
  · exact ⟨g, cap, e, hb⟩
theorem irow_one (w : World) (x : Int) : IRow (w.alloc (.cells #[.int .i64 x] 3)) (w.heap.size + 1) (some ⟨w.heap.size, 0, none⟩) [x] := fun _ => by
  refine ⟨w.heap.size, 0, rfl, Nat.lt_succ_self _, by simp, fun i u hu => ?_⟩
  match i, hu with
  | 0, hu => simp [iv] at hu; subst hu; exact (Blk.new w 3 #[.int .i64 x]).cell 0
  | i + 1, hu => simp [iv] at hu
/-- append(u, x): one number more. -/
theorem push_int {wr wq : World} {u : Value} {xs : List Int} (x : Int) (h : IOwn wq wr.heap.size u xs) (hb : wr.heap.size ≤ wq.heap.size) (hn : xs.length ≤ 1000000) :
    ∃ u' w', (∀ ty, (Builtin.append_ #[30, 30] ty #[u, .slice (some ⟨wq.heap.size, 0, none⟩) 1 1]).run Try.prog (wq.alloc (.cells #[.int .i64 x] 3)) = .ok u' w') ∧ IOwn w' wr.heap.size u' (xs ++ [x]) ∧ (wq.alloc (.cells #[.int .i64 x] 3)).grownBy w' u.ownBlock := by
  have h1 := VOwn.keep h (grown_alloc (grown_refl wq none) (.cells #[.int .i64 x] 3))
  unfold VOwn at h1
  rw [iv_length] at h1
  obtain ⟨u', w', hrun, h2, h3, _⟩ := append_ints _ wr.heap.size u xs.length _ _ 1 1 [x] (iv xs) h1 (irow_one wq x) rfl (by omega) (by omega) (by simp only [size_alloc1]; omega)
  refine ⟨u', w', hrun, ?_, h3⟩
  unfold IOwn VOwn
  rw [iv_length, List.length_append, iv_append]
  exact h2
/-- A list without pages. -/
def m6 : List Int := List.replicate 6 (-1)
/-- A table without pages. -/
def noTab : List (List Int) := List.replicate 8 m6
end Go.Proofs.Ytpfmjagbnfcocaa
namespace Go.Proofs.Ytpfmjagbnfcocaa
open Go.ChangeShapes Go.WideShapes Go.ChangeAt Go.RowKit
set_option linter.unusedSimpArgs false

theorem TOwn.any {w : World} {base n : Nat} {v : Value} {ls : List Li} (h : TOwn w base v ls) (hl : ls.length = n) : ∃ A c, v = .slice A n c := by
  subst hl
  rcases h.form with ⟨rfl, rfl⟩ | ⟨g, cap, e, _⟩
  · exact ⟨none, 0, rfl⟩
  · exact ⟨_, _, e⟩
end Go.Proofs.Ytpfmjagbnfcocaa
