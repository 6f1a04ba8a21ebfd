/- What the model's functions of chapter 5 answer, further: the copy of a device (under way). -/
import Derived.Test.YtbhbbfpafonaiaaDevices
namespace Go.Proofs.Ytbhbbfpafonaiaa
open Go.ChangeShapes Go.WideShapes Go.ChangeAt Go.RowKit

theorem wpList_append_run {P : Program} (w : World) {ops : Array Oper} {rest : List Oper} {o : Oper} {a : Act} {Q : Exit → Act → World → Prop} (hgd : o.guard = none) (d s : Operand) (t t' : TypeId)
    (ho : o.op = .call { callee := .builtin .append, args := #[d, s], argTypes := #[t, t'] }) (v u : Value) (hd : a.eval d = v) (hs : a.eval s = u) {v' : Value} {w' : World}
    (hr : ∀ ty, (Builtin.append_ #[t, t'] ty #[v, u]).run P w = .ok v' w') (h : wpList P ops Q rest (a.put o.dst v') w') : wpList P ops Q (o :: rest) a w :=
  wpList_plain hgd fun _ hK => wp_append_run w d s t t' ho v u hd hs hr (hK _ _ h)
/-- Rows of pages and rows of blocks never share a block of memory. -/
theorem own_ne_dev {w : World} {base base' n : Nat} {v v' : Value} {ps : List Pg} {xs : List Value} (h : Own w base v ps) (h' : w.ownsRow base' 28 2 v' n xs) : v.ownBlock = none ∨ v.ownBlock ≠ v'.ownBlock := by
  rcases h.2 with ⟨rfl, _⟩ | ⟨g, cap, cur, rfl, _, hh, _⟩
  · exact .inl rfl
  · refine .inr fun e => ?_
    rcases h'.2 with ⟨rfl, _⟩ | ⟨g', cap', cur', rfl, _, hh', _⟩
    · simp [Value.ownBlock] at e
    · simp only [Value.ownBlock, Option.some.injEq] at e
      rw [e, hh'] at hh
      injection hh with hh
      injection hh with _ ht
      exact absurd ht (by decide)
theorem grown_joinR {a b c : World} {row : Option Nat} (h : a.grownBy b none) (k : b.grownBy c row) (hg : ∀ g, row = some g → a.heap.size ≤ g) : a.grownBy c none :=
  ⟨k.os.trans h.os, k.tape.trans h.tape, k.output.trans h.output, Nat.le_trans h.size k.size, fun i hi _ => (k.block i (Nat.lt_of_lt_of_le hi h.size) (by intro e; have := hg i e.symm; omega)).trans (h.block i hi (by simp))⟩
/-- One block more in a device of the call's own. -/
theorem DOwn.push {wr w1 w3 : World} {base : Nat} {v v' : Value} {cs : List Bk} {m : Int} {A : Option Addr} {c : Nat} {ps : List Pg} (h : DOwn wr base v cs) (hk : wr.grownBy w1 none) (hp : Own w1 wr.heap.size (.slice A ps.length c) ps) (hb : base ≤ wr.heap.size)
    (ho : w3.ownsRow base 28 2 v' (cs.length + 1) (bv cs ++ [.int .i64 m, .slice A ps.length c])) (hg : w1.grownBy w3 v.ownBlock) : DOwn w3 base v' (cs ++ [⟨m, A, c, ps⟩]) := by
  have h1 := h.keep hk
  refine ⟨?_, fun b hm => ?_, fun i j b b' a a' hij hi hj ha ha' => ?_⟩
  · rw [bv_append, List.length_append]
    exact ho
  · rcases List.mem_append.1 hm with hm | hm
    · exact (h1.2.1 b hm).kept hg (own_ne_dev (h1.2.1 b hm) h1.1)
    · simp at hm
      subst hm
      exact (hp.kept hg (own_ne_dev hp h1.1)).base_le hb
  · have lt : ∀ {b : Bk} {a : Addr}, b ∈ cs → b.A = some a → a.block < wr.heap.size := fun {b a} hm e => by
      have := (World.ownsRow.lt (h.2.1 b hm) a.block (by simp [Bk.row, e, Value.ownBlock])).2
      exact this
    have ge : ∀ {a : Addr}, A = some a → wr.heap.size ≤ a.block := fun {a} e => by
      have := (World.ownsRow.lt hp a.block (by simp [e, Value.ownBlock])).1
      exact this
    rcases Nat.lt_or_ge i cs.length with hi1 | hi1 <;> rcases Nat.lt_or_ge j cs.length with hj1 | hj1
    · rw [List.getElem?_append_left hi1] at hi
      rw [List.getElem?_append_left hj1] at hj
      exact h.2.2 i j b b' a a' hij hi hj ha ha'
    · rw [List.getElem?_append_left hi1] at hi
      rw [List.getElem?_append_right hj1] at hj
      have hj0 : j - cs.length = 0 := by have := (List.getElem?_eq_some_iff.1 hj).1; simp at this; omega
      rw [hj0] at hj
      simp at hj
      subst hj
      have := lt (List.mem_of_getElem? hi) ha
      have := ge ha'
      omega
    · rw [List.getElem?_append_right hi1] at hi
      rw [List.getElem?_append_left hj1] at hj
      have hi0 : i - cs.length = 0 := by have := (List.getElem?_eq_some_iff.1 hi).1; simp at this; omega
      rw [hi0] at hi
      simp at hi
      subst hi
      have := lt (List.mem_of_getElem? hj) ha'
      have := ge ha
      omega
    · have hi0 : i < cs.length + 1 := by have := (List.getElem?_eq_some_iff.1 hi).1; simpa using this
      have hj0 : j < cs.length + 1 := by have := (List.getElem?_eq_some_iff.1 hj).1; simpa using this
      omega
/-- The loop that copies, at block k. -/
def CopyRel (w : World) (bs : List Bk) (k : Nat) (v : Value) (wr : World) : Prop := k ≤ bs.length ∧ ∃ cs : List Bk, cs.length = k ∧ cs.map Bk.is = (bs.take k).map Bk.is ∧ DOwn wr w.heap.size v cs ∧ w.grownBy wr none
/-- A device in memory of its own is returned, block by block the same. -/
def DevMade (bs : List Bk) (n : Nat) (w : World) (e : Ending) (w' : World) : Prop :=
  ∃ (A : Option Addr) (c : Nat) (cs : List Bk), e = .returned (.slice A n c) ∧ cs.length = n ∧ cs.map Bk.is = bs.map Bk.is ∧ DOwn w' w.heap.size (.slice A n c) cs ∧ w.grownBy w' none
theorem specCopyDev_any (A : Option Addr) (n c : Nat) (bs : List Bk) (w : World) (hl : bs.length = n) (hr : DRow w w.heap.size A bs) (hn : n ≤ 1000000) (hp : ∀ b, b ∈ bs → b.ps.length = 4) :
    Calls Try.prog 33 #[.slice A n c] w (DevMade bs n w) := by
  subst hl
  have HR := Lib.hid (And.intro hr hp)
  have hO : DOwn (w.alloc (.cells #[] 28)) w.heap.size (.slice (some ⟨w.heap.size, 0, none⟩) 0 0) [] :=
    ⟨World.ownsRow_lit (e := 28) (size := 2) w #[] 0 (Nat.le_refl _) (by simp) rfl, fun b hb => by simp at hb, fun i j b b' a a' _ hi => by simp at hi⟩
  have HO := Lib.hid hO
  clear hr hp hO
  go_enter Try.func33, Try.ntmps33
  go_wp2
  go_loopw [3, 4] (fun v i wr => ∃ k : Nat, i = .int .i64 k ∧ CopyRel w bs k v wr) (fun _ i _ => bs.length - (intOf i).toNat)
  case atStart => exact ⟨0, rfl, Nat.zero_le _, [], rfl, rfl, HO.out, grown_alloc (grown_refl _ _) _⟩
  case round =>
    obtain ⟨k, rfl, hk, cs, hcl, hcs, ho, hg⟩ := hrel
    clear HO
    by_cases hlt : k < bs.length
    · obtain ⟨g, off, m, Ab, cb, ps, rfl, _, hgw, hb, c0, c1, hrow⟩ := (HR.out.1.kept hg).at_ hlt
      have hpl : ps.length = 4 := HR.out.2 _ (List.mem_of_getElem? hb)
      rw [hpl] at c1
      have HX := Lib.hid (And.intro hg (And.intro ho (And.intro hb (And.intro hrow (And.intro hpl (And.intro hcs hcl))))))
      clear hb hg ho hrow hpl hcs hcl
      go_wp2_with fail
      refine (specCopy_any _ _ _ _ _ _ HX.out.2.2.2.2.1 HX.out.2.2.2.1.here (by omega) (by omega)).mono ?_
      rintro e w1 ⟨A1, d1, rfl, hl1, ho1, hk1⟩
      obtain ⟨v3, w3, hrun, ho3, hg3, _⟩ := append_block (w1.alloc (.cells #[.int .i64 m, .slice A1 4 d1] 28)) w.heap.size u3 cs.length m A1 4 d1 (bv cs) w1.heap.size ((HX.out.2.1.keep hk1).keep (grown_alloc (grown_refl _ none) _)).1 (Blk.new w1 _ _) (by have := HX.out.2.2.2.2.2.2; omega) (by have h1 := HX.out.1.size; have h2 := hk1.size; simp only [size_alloc1]; omega)
      have hk2 : wr.grownBy (w1.alloc (.cells #[.int .i64 m, .slice A1 4 d1] 28)) none := grown_trans hk1 (grown_alloc (grown_refl _ none) _)
      have hp1 : Own (w1.alloc (.cells #[.int .i64 m, .slice A1 4 d1] 28)) wr.heap.size (.slice A1 ps.length d1) ps := by rw [hl1]; exact ho1.keep (grown_alloc (grown_refl _ none) _)
      have hD := HX.out.2.1.push (m := m) hk2 hp1 HX.out.1.size (by rw [hl1]; exact ho3) hg3
      have hG := grown_joinR (grown_trans HX.out.1 hk2) hg3 (fun g' e => (World.ownsRow.lt HX.out.2.1.1 g' e).1)
      have HY := Lib.hid (And.intro hD hG)
      have HRUN := Lib.hid hrun
      clear ho1 hk1 ho3 hg3 hk2 hp1 hD hG hl1 hrun
      go_wp2_with (at_builtin; refine wpList_append_run _ rfl (.tmp 12) (.tmp 18) _ _ rfl _ _ rfl rfl HRUN.out ?_)
      go_roundw
      case rel => exact ⟨k + 1, by go_num, by omega, _, by simp [HX.out.2.2.2.2.2.2], by rw [List.map_append, HX.out.2.2.2.2.2.1, List.take_add_one, HX.out.2.2.1, List.map_append]; rfl, HY.out.1, HY.out.2⟩
      case measure => simp [intOf]; omega
    · obtain rfl : k = bs.length := by omega
      rw [List.take_length] at hcs
      rcases ho.form with ⟨rfl, e0⟩ | ⟨g, cap, rfl, _⟩
      · have hb0 : bs.length = 0 := by rw [← hcl, e0]; rfl
        have HX := Lib.hid (And.intro hg (And.intro ho (And.intro hcs (And.intro hcl hb0))))
        clear hg ho hcs hcl hb0 e0
        go_wp2
        go_ret
        exact ⟨none, 0, cs, by simp [HX.out.2.2.2.2], HX.out.2.2.2.1, HX.out.2.2.1, by rw [HX.out.2.2.2.2]; exact HX.out.2.1, HX.out.1⟩
      · rw [hcl] at ho
        have HX := Lib.hid (And.intro hg (And.intro ho (And.intro hcs hcl)))
        clear hg ho hcs hcl
        go_wp2
        go_ret
        exact ⟨some ⟨g, 0, none⟩, cap, cs, by show Ending.returned (.slice (some ⟨g, 0, none⟩) cs.length cap) = _; rw [HX.out.2.2.2], HX.out.2.2.2, HX.out.2.2.1, HX.out.2.1, HX.out.1⟩
/-- A block put at an index of a device of the call's own. -/
theorem DOwn.put {w : World} {base g cap n : Nat} {bs : List Bk} (h : DOwn w base (.slice (some ⟨g, 0, none⟩) n cap) bs) (hn : bs.length = n) (i : Nat) (b : Bk) (hb : Own w base b.row b.ps)
    (hne : ∀ (j : Nat) (b' : Bk) (a a' : Addr), j ≠ i → bs[j]? = some b' → b.A = some a → b'.A = some a' → a.block ≠ a'.block) :
    DOwn ((w.setCell ⟨g, i * 2, none⟩ (.int .i64 b.m)).setCell ⟨g, i * 2 + 1, none⟩ b.row) base (.slice (some ⟨g, 0, none⟩) n cap) (bs.set i b) := by
  subst hn
  have far : ∀ {v : Value} {ps : List Pg}, Own w base v ps → Own ((w.setCell ⟨g, i * 2, none⟩ (.int .i64 b.m)).setCell ⟨g, i * 2 + 1, none⟩ b.row) base v ps := fun {v ps} ho => by
    have hv : v.ownBlock ≠ some g := by
      rcases own_ne_dev ho h.1 with e | e
      · rw [e]; simp
      · simpa [Value.ownBlock] using e
    exact (ho.to_put hv _).to_put hv _
  refine ⟨?_, fun b' hm => ?_, fun j k b1 b2 a1 a2 hjk hj hk h1 h2 => ?_⟩
  · rw [List.length_set, bv_set]
    have h0 := (World.ownsRow.stored h.1 (i * 2) (.int .i64 b.m)).1
    exact (World.ownsRow.stored h0 (i * 2 + 1) b.row).1
  · rcases List.mem_or_eq_of_mem_set hm with hm | rfl
    · exact far (h.2.1 b' hm)
    · exact far hb
  · rw [List.getElem?_set] at hj hk
    by_cases hji : i = j
    · by_cases hki : i = k
      · omega
      · rw [if_pos hji] at hj
        rw [if_neg hki] at hk
        split at hj
        · injection hj with hj; subst hj
          exact hne k b2 a1 a2 (by omega) hk h1 h2
        · cases hj
    · rw [if_neg hji] at hj
      by_cases hki : i = k
      · rw [if_pos hki] at hk
        split at hk
        · injection hk with hk; subst hk
          exact Ne.symm (hne j b1 a2 a1 (by omega) hj h2 h1)
        · cases hk
      · rw [if_neg hki] at hk
        exact h.2.2 j k b1 b2 a1 a2 hjk hj hk h1 h2
end Go.Proofs.Ytbhbbfpafonaiaa
