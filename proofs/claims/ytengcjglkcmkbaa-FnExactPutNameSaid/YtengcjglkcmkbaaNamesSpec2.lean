/- What the model's DropName and PutName answer.
   What the model's PutName answers. Written by mk/names_put.py. -/
import Derived.Test.YtengcjglkcmkbaaNamesSpec
import Derived.Test.YtengcjglkcmkbaaNamesImpl
import Derived.Test.YtengcjglkcmkbaaHand
namespace Go.Proofs.Ytengcjglkcmkbaa
open Go.ChangeShapes Go.WideShapes Go.ChangeAt Go.RowKit
set_option linter.unusedVariables false
set_option linter.unusedSimpArgs false

set_option maxHeartbeats 1000000 in
theorem specDrop_any (A : Option Addr) (n c : Nat) (ps : List Nm) (s : ByteArray) (w : World) (hl : ps.length = n) (hr : NRow w w.heap.size A ps) (hn : n ≤ 1048576) (hs : ∀ (k : Nat) p, ps[k]? = some p → p.a.size ≤ 9223372036854775807) :
    Calls Try.prog 34 #[.slice A n c, .string s] w (MadeName2 (dropNms ps s) (dropNok ps s) w) := by
  have HR := Lib.hid (And.intro hl hs)
  have HS0 : RowKit.Hid (OSt w A ps [] (.slice (some ⟨w.heap.size, 0, none⟩) 0 0) (w.alloc (.cells #[] 32))) := Lib.hid ⟨nown_lit0 w w.heap.size _ (Nat.le_refl _), hr.alloc _, grown_alloc (grown_refl _ _) _⟩
  obtain ⟨B, hB⟩ : ∃ B, nmB ps = B := ⟨_, rfl⟩
  have HB := Lib.hid hB
  clear hl hr hs hB
  go_enter Try.func34, Try.ntmps34
  go_wp2
  go_loopw [6, 7] (fun u i wr => ∃ k : Nat, k ≤ n ∧ i = .int .i64 k ∧ OSt w A ps (outNms (ps.take k) s) u wr ∧ (0 < k → B = true)) (fun _ i _ => n - (intOf i).toNat)
  case atStart => exact ⟨0, Nat.zero_le _, rfl, HS0.out, fun h => absurd h (by omega)⟩
  case round =>
    rename World => wq
    obtain ⟨k, hk, rfl, hS, hkB⟩ := hrel
    have HS := Lib.hid (And.intro hS hkB)
    clear hS HS0 hkB
    by_cases hlt : k < n
    · have hk0 : decide ((0 : Int) ≤ k) = true := decide_eq_true (by omega)
      have hk1 : (k : Int) < n := by omega
      go_wp2_with fail
      refine (specNames_val HB.out HR.out.1 HS.out.1.2.1.here hn HR.out.2).mono ?_
      rintro e w1 ⟨rfl, hkk⟩
      replace HS := Lib.hid (And.intro (HS.out.1.keep hkk) HS.out.2)
      clear hkk
      cases B
      · have hk00 : k = 0 := by
          rcases Nat.eq_zero_or_pos k with h | h
          · exact h
          · exact absurd (HS.out.2 h) (by simp)
        subst hk00
        obtain ⟨Au, cu, eu⟩ := HS.out.1.1.slice
        have e0 : outNms (ps.take 0) s = [] := rfl
        rw [e0] at HS eu
        subst eu
        have HX := Lib.hid (And.intro (show dropNms ps s = [] by simp [dropNms, HB.out]) (show dropNok ps s = false by simp [dropNok, HB.out]))
        go_wp2_with fail
        refine (specNames_val HB.out HR.out.1 HS.out.1.2.1.here hn HR.out.2).mono ?_
        rintro e w2 ⟨rfl, hkk⟩
        replace HS := Lib.hid (HS.out.1.keep hkk)
        clear hkk e0
        go_wp2
        rw [HX.out.1, HX.out.2]
        exact bodyPost_ret (v := .tuple #[.slice Au 0 cu, .bool false]) (by simp [results, Try.results34, go_sem, *]) rfl ⟨_, _, _, rfl, rfl, HS.out.1, HS.out.2.2⟩
      obtain ⟨g, off, rfl, hgB⟩ := HS.out.1.2.1.pos (by have := HR.out.1; omega)
      obtain ⟨⟨a', b'⟩, hp⟩ : ∃ p, ps[k]? = some p := ⟨_, List.getElem?_eq_getElem (by have := HR.out.1; omega)⟩
      obtain ⟨c0, c1⟩ := HS.out.1.2.1.cellf hp
      dsimp only at c0 c1
      have hst := out_step ps s k _ hp
      dsimp only at hst
      clear hp
      have hlen : (outNms (ps.take k) s).length ≤ 1048576 := by have := outN_length (ps.take k) s; rw [List.length_take] at this; omega
      cases he : (a'.toList == s.toList)
      · have he2 : (a'.toList != s.toList) = true := by rw [bne, he]; rfl
        rw [he, if_neg (by simp)] at hst
        obtain ⟨u', w2, hrun, hz⟩ := HS.out.1.push a' b' hlen
        rw [← hst] at hz
        have HZ := Lib.hid hz
        have HRUN := Lib.hid hrun
        clear hz hrun hst
        go_wp2_with (at_builtin; refine wpList_append_run _ rfl (.tmp 26) (.tmp 31) _ _ rfl _ _ rfl rfl HRUN.out ?_)
        go_roundw
        case rel => exact ⟨k + 1, by omega, by go_num, HZ.out, fun _ => trivial⟩
        case measure => simp [intOf]; omega
      · have he2 : (a'.toList != s.toList) = false := by rw [bne, he]; rfl
        have HZ := HS.out.1
        rw [he, if_pos rfl, List.append_nil] at hst
        rw [← hst] at HZ
        replace HZ := Lib.hid HZ
        clear hst
        go_wp2
        go_roundw
        case rel => exact ⟨k + 1, by omega, by go_num, HZ.out, fun _ => trivial⟩
        case measure => simp [intOf]; omega
    · obtain rfl : k = n := by omega
      have ht : ps.take k = ps := List.take_of_length_le (by have := HR.out.1; omega)
      rw [ht] at HS
      clear ht
      go_wp2_with fail
      refine (specNames_val HB.out HR.out.1 HS.out.1.2.1.here hn HR.out.2).mono ?_
      rintro e w2 ⟨rfl, hkk⟩
      replace HS := Lib.hid (And.intro (HS.out.1.keep hkk) HS.out.2)
      clear hkk
      obtain ⟨Au, cu, eu⟩ := HS.out.1.1.slice
      cases B
      · have hk00 : k = 0 := by
          rcases Nat.eq_zero_or_pos k with h | h
          · exact h
          · exact absurd (HS.out.2 h) (by simp)
        have e0 : ps = [] := List.eq_nil_of_length_eq_zero (by rw [HR.out.1]; exact hk00)
        have := HB.out
        rw [e0] at this
        cases this
      · obtain ⟨m, hm⟩ : ∃ m, (outNms ps s).length = m := ⟨_, rfl⟩
        rw [hm] at eu
        subst eu
        have HX := Lib.hid (And.intro hm (And.intro (show dropNms ps s = outNms ps s by simp [dropNms, HB.out]) (show dropNok ps s = decide (m < k) by simp [dropNok, HB.out, HR.out.1, hm])))
        clear hm
        go_wp2
        rw [HX.out.2.1, HX.out.2.2]
        exact bodyPost_ret (v := .tuple #[.slice Au m cu, .bool (decide (m < k))]) (by simp [results, Try.results34, go_sem, *]) rfl ⟨_, _, _, rfl, HX.out.1, HS.out.1.1, HS.out.1.2.2⟩
theorem ncut_at {ps : List Nm} {n : Nm} {k : Nat} (hk : k ≤ ps.length) (h1 : ∀ (j : Nat) p, j < k → ps[j]? = some p → befN n p = true) (h2 : ∀ p, ps[k]? = some p → befN n p = false) :
    ps.takeWhile (befN n) = ps.take k ∧ ps.dropWhile (befN n) = ps.drop k := by
  induction ps generalizing k with
  | nil => simp at hk; subst hk; exact ⟨rfl, rfl⟩
  | cons p r ih =>
    cases k with
    | zero =>
      have hp := h2 p rfl
      rw [List.takeWhile_cons_of_neg (by simp [hp]), List.dropWhile_cons_of_neg (by simp [hp])]
      exact ⟨rfl, rfl⟩
    | succ k =>
      have hp := h1 0 p (by omega) rfl
      obtain ⟨e1, e2⟩ := ih (k := k) (by simpa using hk) (fun j q hj hq => h1 (j + 1) q (by omega) (by simpa using hq)) (fun q hq => h2 q (by simpa using hq))
      rw [List.takeWhile_cons_of_pos hp, List.dropWhile_cons_of_pos hp, e1, e2]
      exact ⟨rfl, rfl⟩
theorem specBucket_val {a : ByteArray} {V : Int} (h : bkV a = V) (w : World) (ha : a.size ≤ 9223372036854775807) :
    Calls Try.prog 21 #[.string a] w fun e w' => e = .returned (.int .i64 V) ∧ w' = w := h ▸ (specBucket_any a w ha).mono fun _ _ q => ⟨q.1, q.2.symm⟩
theorem nv_drop (ps : List Nm) (m : Nat) : nv (ps.drop m) = (nv ps).drop (m * 2) := by
  induction ps generalizing m with
  | nil => simp [nv]
  | cons p r ih =>
    cases m with
    | zero => simp
    | succ m => rw [show (m + 1) * 2 = m * 2 + 1 + 1 by omega]; simp only [nv, List.drop_succ_cons, ih]
theorem nv_take (ps : List Nm) (m : Nat) : nv (ps.take m) = (nv ps).take (m * 2) := by
  induction ps generalizing m with
  | nil => simp [nv]
  | cons p r ih =>
    cases m with
    | zero => simp [nv]
    | succ m => rw [show (m + 1) * 2 = m * 2 + 1 + 1 by omega]; simp only [nv, List.take_succ_cons, ih]
theorem NRow.from {w : World} {B : Nat} {A : Option Addr} {ps : List Nm} (h : NRow w B A ps) (m : Nat) : NRow w B (Option.map (fun x => x.add (m * 2)) A) (ps.drop m) := fun hn => by
  rw [nv_length, List.length_drop] at hn
  obtain ⟨g, off, rfl, hb, hz, hc⟩ := h (by rw [nv_length]; omega)
  refine ⟨g, off + m * 2, by simp [Go.WideShapes.add_plain], hb, hz, fun i u hu => ?_⟩
  rw [nv_drop, List.getElem?_drop] at hu
  have := hc _ _ hu
  rwa [← Nat.add_assoc] at this
theorem NRow.upto {w : World} {B : Nat} {A : Option Addr} {ps : List Nm} (h : NRow w B A ps) (m : Nat) : NRow w B A (ps.take m) := fun hn => by
  rw [nv_length, List.length_take] at hn
  obtain ⟨g, off, rfl, hb, hz, hc⟩ := h (by rw [nv_length]; omega)
  refine ⟨g, off, rfl, hb, hz, fun i u hu => ?_⟩
  rw [nv_take, List.getElem?_take] at hu
  split at hu
  · exact hc _ _ hu
  · cases hu
/-- The state while the further one is put in. -/
structure NPSt (w : World) (A X : Option Addr) (ps : List Nm) (k : Nat) (n : Nm) (wr : World) : Prop where
  all : NRow wr w.heap.size A ps
  fr : NRow wr w.heap.size X (ps.drop k)
  blk : Blk wr w.heap.size 32 #[.string n.a, .int .i64 n.b]
  grown : w.grownBy wr none
section
variable {w wr w' : World} {A X : Option Addr} {ps xs : List Nm} {k : Nat} {n : Nm} {u : Value}
theorem NPSt.keep (H : NPSt w A X ps k n wr) (h : wr.grownBy w' none) : NPSt w A X ps k n w' := ⟨H.all.kept h, H.fr.kept h, H.blk.keep h, grown_trans H.grown h⟩
theorem NPSt.own (H : NPSt w A X ps k n wr) (ho : NOwn wr (w.heap.size + 1) 32 u xs) (hg : wr.grownBy w' u.ownBlock) : NPSt w A X ps k n w' :=
  ⟨H.all.grown hg fun g e => by have := (ho.lt g e).1; omega, H.fr.grown hg fun g e => by have := (ho.lt g e).1; omega, H.blk.grown hg fun e => by have := (ho.lt _ e.symm).1; omega, grown_ownK H.grown hg fun g e => by have := (ho.lt g e).1; omega⟩
theorem NPSt.base (H : NPSt w A X ps k n wr) : w.heap.size + 1 ≤ wr.heap.size := by have := H.blk.lt; omega
/-- What the last two steps leave. -/
def NPEnd (w : World) (A X : Option Addr) (ps : List Nm) (k c m cx : Nat) (n : Nm) (u1 y : Value) (w3 : World) : Prop :=
  ∃ u2 w4 A3 c3 w5, (∀ ty, (Builtin.append_ #[28, 28] ty #[u1, y]).run Try.prog w3 = .ok u2 w4) ∧ NPSt w A X ps k n w4 ∧
    (∀ ty, (Builtin.append_ #[28, 28] ty #[u2, .slice X m cx]).run Try.prog w4 = .ok (.slice A3 (ps.length + 1) c3) w5) ∧ NPSt w A X ps k n w5 ∧ NOwn w5 w.heap.size 32 (.slice A3 (ps.length + 1) c3) (ps.take k ++ n :: ps.drop k)
theorem nput_end {c m cx y : Nat} {w3 : World} {u1 : Value} (H3 : NPSt w A X ps k n w3) (o3 : NOwn w3 (w.heap.size + 1) 32 u1 (ps.take k)) (hy : NRow w3 (y + 1) (some ⟨y, 0, none⟩) [⟨n.a, n.b⟩]) (hk : k ≤ ps.length) (hm : (ps.drop k).length = m) (hn : ps.length ≤ 1048576) :
    NPEnd w A X ps k c m cx n u1 (.slice (some ⟨y, 0, none⟩) 1 1) w3 := by
  obtain ⟨u2, w4, hr4, o4, hg4, _⟩ := append_nameK w3 (w.heap.size + 1) u1 _ _ 1 1 _ _ o3 hy rfl (by rw [List.length_take]; omega) H3.base
  have H4 := H3.own o3 hg4
  obtain ⟨u3, w5, hr5, o5, hg5, _⟩ := append_nameK w4 (w.heap.size + 1) u2 X _ m cx _ _ o4 H4.fr hm (by rw [List.length_append, List.length_take]; simp at hm ⊢; omega) H4.base
  obtain ⟨A3, c3, e⟩ := o5.slice
  have hlen : (ps.take k ++ [(⟨n.a, n.b⟩ : Nm)] ++ ps.drop k).length = ps.length + 1 := by simp; omega
  rw [hlen] at e
  subst e
  refine ⟨u2, w4, A3, c3, w5, hr4, H4, hr5, H4.own o4 hg5, ?_⟩
  have := o5.base_le (base' := w.heap.size) (by omega)
  rw [List.append_assoc] at this
  exact this
/-- First the row, then the first part, then the further one. -/
theorem nput_a {c m cx : Nat} (H : NPSt w A X ps k n wr) (hk : k ≤ ps.length) (hm : (ps.drop k).length = m) (hn : ps.length ≤ 1048576) :
    NPSt w A X ps k n (wr.alloc (.cells #[] 32)) ∧ ∃ u1 w2, (∀ ty, (Builtin.append_ #[28, 28] ty #[.slice (some ⟨wr.heap.size, 0, none⟩) 0 0, .slice A k c]).run Try.prog (wr.alloc (.cells #[] 32)) = .ok u1 w2) ∧ NPSt w A X ps k n w2 ∧
      NPSt w A X ps k n (w2.alloc (.cells #[.string n.a, .int .i64 n.b] 32)) ∧ NPEnd w A X ps k c m cx n u1 (.slice (some ⟨w2.heap.size, 0, none⟩) 1 1) (w2.alloc (.cells #[.string n.a, .int .i64 n.b] 32)) := by
  have H1 := H.keep (grown_alloc (grown_refl wr none) (.cells #[] 32))
  have o1 := nown_lit0 wr (w.heap.size + 1) 32 H.base
  obtain ⟨u1, w2, hr, o2, hg, _⟩ := append_nameK _ (w.heap.size + 1) _ A _ k c [] (ps.take k) o1 (H1.all.upto k) (by rw [List.length_take]; omega) (by simp; omega) H1.base
  have H2 := H1.own o1 hg
  have H3 := H2.keep (grown_alloc (grown_refl w2 none) (.cells #[.string n.a, .int .i64 n.b] 32))
  exact ⟨H1, u1, w2, hr, H2, H3, nput_end H3 (o2.keep (grown_alloc (grown_refl w2 none) _)) (nrow_one w2 _ _ _) hk hm hn⟩
theorem nrow_blk {y : Nat} {a : ByteArray} {b : Int} (h : Blk wr y 32 #[.string a, .int .i64 b]) : NRow wr (y + 1) (some ⟨y, 0, none⟩) [⟨a, b⟩] := fun _ => by
  refine ⟨y, 0, rfl, Nat.lt_succ_self _, h.lt, fun i u hu => ?_⟩
  match i, hu with
  | 0, hu => simp [nv] at hu; subst hu; exact h.cell 0
  | 1, hu => simp [nv] at hu; subst hu; exact h.cell 1
  | i + 2, hu => simp [nv] at hu
/-- First the row, then the further one, then the first part. -/
theorem nput_b {c m cx : Nat} (H : NPSt w A X ps k n wr) (hk : k ≤ ps.length) (hm : (ps.drop k).length = m) (hn : ps.length ≤ 1048576) :
    NPSt w A X ps k n (wr.alloc (.cells #[] 32)) ∧ NPSt w A X ps k n ((wr.alloc (.cells #[] 32)).alloc (.cells #[.string n.a, .int .i64 n.b] 32)) ∧
    ∃ u1 w3, (∀ ty, (Builtin.append_ #[28, 28] ty #[.slice (some ⟨wr.heap.size, 0, none⟩) 0 0, .slice A k c]).run Try.prog ((wr.alloc (.cells #[] 32)).alloc (.cells #[.string n.a, .int .i64 n.b] 32)) = .ok u1 w3) ∧ NPSt w A X ps k n w3 ∧
      NPEnd w A X ps k c m cx n u1 (.slice (some ⟨wr.heap.size + 1, 0, none⟩) 1 1) w3 := by
  have H1 := H.keep (grown_alloc (grown_refl wr none) (.cells #[] 32))
  have K2 := grown_alloc (grown_refl (wr.alloc (.cells #[] 32)) none) (.cells #[.string n.a, .int .i64 n.b] 32)
  have H2 := H1.keep K2
  have o2 := (nown_lit0 wr (w.heap.size + 1) 32 H.base).keep K2
  obtain ⟨u1, w3, hr, o3, hg, _⟩ := append_nameK _ (w.heap.size + 1) _ A _ k c [] (ps.take k) o2 (H2.all.upto k) (by rw [List.length_take]; omega) (by simp; omega) H2.base
  have hB := (Blk.new (wr.alloc (.cells #[] 32)) 32 #[.string n.a, .int .i64 n.b]).grown hg (by simp [Value.ownBlock])
  simp only [size_alloc1] at hB
  exact ⟨H1, H2, u1, w3, hr, H2.own o2 hg, nput_end (H2.own o2 hg) o3 (nrow_blk hB) hk hm hn⟩
/-- First the further one, then the row, then the first part. -/
theorem nput_c {c m cx : Nat} (H : NPSt w A X ps k n wr) (hk : k ≤ ps.length) (hm : (ps.drop k).length = m) (hn : ps.length ≤ 1048576) :
    NPSt w A X ps k n (wr.alloc (.cells #[.string n.a, .int .i64 n.b] 32)) ∧ NPSt w A X ps k n ((wr.alloc (.cells #[.string n.a, .int .i64 n.b] 32)).alloc (.cells #[] 32)) ∧
    ∃ u1 w3, (∀ ty, (Builtin.append_ #[28, 28] ty #[.slice (some ⟨wr.heap.size + 1, 0, none⟩) 0 0, .slice A k c]).run Try.prog ((wr.alloc (.cells #[.string n.a, .int .i64 n.b] 32)).alloc (.cells #[] 32)) = .ok u1 w3) ∧ NPSt w A X ps k n w3 ∧
      NPEnd w A X ps k c m cx n u1 (.slice (some ⟨wr.heap.size, 0, none⟩) 1 1) w3 := by
  have H1 := H.keep (grown_alloc (grown_refl wr none) (.cells #[.string n.a, .int .i64 n.b] 32))
  have H2 := H1.keep (grown_alloc (grown_refl _ none) (.cells #[] 32))
  have o2 := nown_lit0 (wr.alloc (.cells #[.string n.a, .int .i64 n.b] 32)) (w.heap.size + 1) 32 H1.base
  have hB0 := (Blk.new wr 32 #[.string n.a, .int .i64 n.b]).alloc (.cells #[] 32)
  simp only [size_alloc1] at o2
  obtain ⟨u1, w3, hr, o3, hg, _⟩ := append_nameK _ (w.heap.size + 1) _ A _ k c [] (ps.take k) o2 (H2.all.upto k) (by rw [List.length_take]; omega) (by simp; omega) H2.base
  have hB := hB0.grown hg (by simp [Value.ownBlock])
  exact ⟨H1, H2, u1, w3, hr, H2.own o2 hg, nput_end (H2.own o2 hg) o3 (nrow_blk hB) hk hm hn⟩
end
end Go.Proofs.Ytengcjglkcmkbaa
namespace Go.Proofs.Ytengcjglkcmkbaa
open Go.ChangeShapes Go.WideShapes Go.ChangeAt Go.RowKit
set_option linter.unusedVariables false
set_option linter.unusedSimpArgs false

set_option maxHeartbeats 2000000 in
theorem specPut_any (A : Option Addr) (n c : Nat) (ps : List Nm) (a : ByteArray) (b : Int) (w : World) (hl : ps.length = n) (hr : NRow w w.heap.size A ps) (hn : n ≤ 1048576) (hnc : n ≤ c) (hc : c ≤ maxLen) (hs : ∀ (k : Nat) p, ps[k]? = some p → p.a.size ≤ 9223372036854775807) (hz : a.size ≤ 9223372036854775807) :
    Calls Try.prog 30 #[.slice A n c, .agg #[.string a, .int .i64 b]] w (MadeName2 (putNms ps ⟨a, b⟩) (putNok ps ⟨a, b⟩) w) := by
  subst hl
  have HR := Lib.hid (And.intro (Eq.refl ps.length) (And.intro (hr.alloc (.cells #[.string a, .int .i64 b] 32)) hs))
  have HK := Lib.hid (And.intro (grown_alloc (grown_refl w none) (.cells #[.string a, .int .i64 b] 32)) (Blk.new w 32 #[.string a, .int .i64 b]))
  clear hr hs
  cases hB : nmB ps
  · have HX := Lib.hid (And.intro hB (And.intro (show putNms ps ⟨a, b⟩ = [] by simp [putNms, hB]) (show putNok ps ⟨a, b⟩ = false by simp [putNok, hB])))
    clear hB
    go_enter Try.func30, Try.ntmps30
    go_wp2_with fail
    refine (specNames_val HX.out.1 rfl HR.out.2.1.here hn HR.out.2.2).mono ?_
    rintro e w1 ⟨rfl, hkk⟩
    have HG := Lib.hid (grown_trans HK.out.1 hkk)
    clear hkk
    go_wp2
    rw [HX.out.2.1, HX.out.2.2]
    exact bodyPost_ret (v := .tuple #[.slice (some ⟨w1.heap.size, 0, none⟩) 0 0, .bool false]) (by simp [results, Try.results30, go_sem, *]) rfl ⟨_, _, _, rfl, rfl, nown_lit0 w1 w.heap.size _ HG.out.size, grown_alloc HG.out _⟩
  have h9 : ps.length ≤ 9 := nm_le hB
  obtain ⟨V, hV⟩ : ∃ V, bkV a = V := ⟨_, rfl⟩
  have HB := Lib.hid (And.intro hB hV)
  have HSI := Lib.hid (show ∀ (k : Nat) p, (insNms ps ⟨a, b⟩)[k]? = some p → p.a.size ≤ 9223372036854775807 from fun k p hp => by
    rcases ins_mem (List.mem_of_getElem? hp) with rfl | h
    · exact hz
    · obtain ⟨j, hj⟩ := List.getElem?_of_mem h
      exact HR.out.2.2 j p hj)
  have HLI := Lib.hid ((ins_length ps ⟨a, b⟩).trans rfl)
  clear hB hV
  go_enter Try.func30, Try.ntmps30
  go_wp2_with fail
  refine (specNames_val HB.out.1 rfl HR.out.2.1.here hn HR.out.2.2).mono ?_
  rintro e w1 ⟨rfl, hkk⟩
  have HG := Lib.hid (And.intro (grown_trans HK.out.1 hkk) (And.intro (HR.out.2.1.kept hkk) (HK.out.2.keep hkk)))
  have b0 : w1.cell? ⟨w.heap.size, 0, none⟩ = some (.string a) := HG.out.2.2.cell 0
  clear hkk
  go_wp2_with fail
  with_reducible refine (specBucket_val HB.out.2 _ hz).mono ?_
  rintro e w2 ⟨rfl, rfl⟩
  clear b0
  go_wp2
  go_loopw [6] (fun i wr => ∃ k : Nat, k ≤ ps.length ∧ i = .int .i64 k ∧ (∀ (j : Nat) p, j < k → ps[j]? = some p → befN ⟨a, b⟩ p = true) ∧ NRow wr w.heap.size A ps ∧ Blk wr w.heap.size 32 #[.string a, .int .i64 b] ∧ w.grownBy wr none) (fun i _ => ps.length - (intOf i).toNat)
  case atStart => exact ⟨0, Nat.zero_le _, rfl, fun j p hj => absurd hj (by omega), HG.out.2.1, HG.out.2.2, HG.out.1⟩
  case round =>
    rename World => wq
    obtain ⟨k, hk, rfl, hall, hrow, hblk, hg⟩ := hrel
    have HS := Lib.hid (And.intro hall (And.intro hrow (And.intro hblk hg)))
    clear hall hrow hblk hg HG
    by_cases hlt : k < ps.length
    · have hk0 : decide ((0 : Int) ≤ k) = true := decide_eq_true (by omega)
      have hk1 : (k : Int) < ps.length := by omega
      have hk2 : decide (k < ps.length) = true := decide_eq_true hlt
      have hk3 : decide ((k : Int) < ps.length) = true := decide_eq_true hk1
      obtain ⟨g, off, rfl, hgB⟩ := HS.out.2.1.pos (by have := HR.out.1; omega)
      obtain ⟨⟨a', b'⟩, hp⟩ : ∃ p, ps[k]? = some p := ⟨_, List.getElem?_eq_getElem (by have := HR.out.1; omega)⟩
      obtain ⟨c0, c1⟩ := HS.out.2.1.cellf hp
      have z' := HR.out.2.2 _ _ hp
      have v0 : wq.cell? ⟨w.heap.size, 0, none⟩ = some (.string a) := HS.out.2.2.1.cell 0
      dsimp only at c0 c1 z'
      have HP := Lib.hid hp
      obtain ⟨U, hU⟩ : ∃ U, bkV a' = U := ⟨_, rfl⟩
      have HU := Lib.hid hU
      clear hp
      by_cases hUV : U < V
      · have e1 : decide (U < V) = true := decide_eq_true hUV
        have HX := Lib.hid (show befN ⟨a, b⟩ ⟨a', b'⟩ = true by simp [befN, befT, hU, HB.out.2, hUV])
        clear hU
        go_wp2_with fail
        go_quiet ((go_at_call 21; with_reducible exact Calls.quiet_of_same (specBucket_val HU.out _ z')))
        go_wp2
        go_roundw
        case rel => exact ⟨k + 1, by omega, by go_num, fun j p hj hp => by
          rcases Nat.lt_or_ge j k with h | h
          · exact HS.out.1 j p h hp
          · obtain rfl : j = k := by omega
            have h2 := HP.out
            rw [hp] at h2
            injection h2 with h2
            subst h2
            exact HX.out, HS.out.2.1.kept (grown_drewN (grown_refl _ _) _), HS.out.2.2.1.keep (grown_drewN (grown_refl _ _) _), grown_drewN HS.out.2.2.2 _⟩
        case measure => simp [intOf]; omega
      · have e1 : decide (U < V) = false := decide_eq_false hUV
        cases e2 : (U == V)
        · have HX := Lib.hid (show befN ⟨a, b⟩ ⟨a', b'⟩ = false by simp [befN, befT, hU, HB.out.2, hUV, e2])
          clear hU
          go_wp2_with fail
          go_quiet ((go_at_call 21; with_reducible exact Calls.quiet_of_same (specBucket_val HU.out _ z')))
          generalize hwz : wq.drewN nq = wz
          have hkz : wq.grownBy wz none := by rw [← hwz]; exact grown_drewN (grown_refl _ _) _
          have hcut := ncut_at (n := ⟨a, b⟩) (k := k) (by have := HR.out.1; omega) HS.out.1 (fun p hp => by
            have h2 := HP.out
            rw [hp] at h2
            injection h2 with h2
            subst h2
            exact HX.out)
          replace HS := Lib.hid (And.intro hcut (And.intro (HS.out.2.1.kept hkz) (And.intro (HS.out.2.2.1.keep hkz) (grown_trans HS.out.2.2.2 hkz))))
          clear hwz hkz hcut
          have q0 : decide ((0 : Int) ≤ k) = true := decide_eq_true (by omega)
          have q1 : (k : Int) ≤ ps.length := by omega
          have q2 : (k : Int) ≤ c := by omega
          have q3 : (ps.length : Int) ≤ c := by omega
          have hp0 : RowKit.Hid (NPSt w (some ⟨g, off, none⟩) (if c = k then (some ⟨g, off, none⟩ : Option Addr) else some ⟨g, off + k * 2, none⟩) ps k ⟨a, b⟩ wz.drew) := Lib.hid ⟨HS.out.2.1.kept (grown_drew (grown_refl _ _)), by rw [if_neg (by omega)]; have h := (HS.out.2.1.kept (grown_drew (grown_refl _ _))).from k; simpa [Go.WideShapes.add_plain] using h, HS.out.2.2.1.drew, grown_drew HS.out.2.2.2⟩
          have hins : ps.take k ++ ⟨a, b⟩ :: ps.drop k = insNms ps ⟨a, b⟩ := by rw [insNms, HS.out.1.1, HS.out.1.2]
          go_wp2_with fail
          refine wp_region_held_drew (S := (fun w' => w'.cell? ⟨w.heap.size, 0, none⟩ = some (.string a) ∧ w'.cell? ⟨w.heap.size, 1, none⟩ = some (.int .i64 b))) (by kernel_rfl) ?_ (fun hHeld => ?_)
          · exact ⟨hp0.out.blk.cell 0, hp0.out.blk.cell 1⟩
          refine heldY 1 53 ?_
          refine heldY 2 54 ?_
          refine heldY 3 55 ?_
          refine heldY 5 57 ?_
          refine heldY 8 60 ?_
          refine heldY 9 61 ?_
          refine heldY 10 62 ?_
          refine wpAnyH_ready (rs := [0, 6]) (by kernel_rfl) (by simp) ?_
          refine AllReadyH.cons rfl (fun K hK => ?_) (AllReadyH.cons rfl (fun K hK => ?_) AllReadyH.nil)
          · go_simp
            refine hK.out _ _ ?_ (fun hHeld => ?_)
            · exact ⟨(hp0.out.keep (grown_alloc (grown_refl _ none) (.cells #[] 32))).blk.cell 0, (hp0.out.keep (grown_alloc (grown_refl _ none) (.cells #[] 32))).blk.cell 1⟩
            clear hK K
            try simp only [Act.put, List.setIfInBounds_toArray, List.set_cons_zero, List.set_cons_succ]
            refine wpAnyH_ready (rs := [4, 6]) (by kernel_rfl) (by simp) ?_
            refine AllReadyH.cons rfl (fun K hK => ?_) (AllReadyH.cons rfl (fun K hK => ?_) AllReadyH.nil)
            · obtain ⟨H1, u1, w2, hr1, H2, H3, u2, w4, A3, c3, w5, hr2, H4, hr3, H5, ho5⟩ := nput_a (c := c) (cx := c - k) hp0.out (by omega) (show (ps.drop k).length = ps.length - k by simp <;> omega) (by omega)
              refine step_append_run _ rfl (.tmp 52) (.tmp 55) 28 28 rfl _ _ rfl rfl hr1 ?_
              refine hK.out _ _ ?_ (fun hHeld => ?_)
              · exact ⟨H2.blk.cell 0, H2.blk.cell 1⟩
              clear hK K
              try simp only [Act.put, List.setIfInBounds_toArray, List.set_cons_zero, List.set_cons_succ]
              refine wpAnyH_ready (rs := [6]) (by kernel_rfl) (by simp) ?_
              refine AllReadyH.cons rfl (fun K hK => ?_) AllReadyH.nil
              go_simp
              refine hK.out _ _ ?_ (fun hHeld => ?_)
              · exact ⟨H3.blk.cell 0, H3.blk.cell 1⟩
              clear hK K
              try simp only [Act.put, List.setIfInBounds_toArray, List.set_cons_zero, List.set_cons_succ]
              refine wpAnyH_ready (rs := [7]) (by kernel_rfl) (by simp) ?_
              refine AllReadyH.cons rfl (fun K hK => ?_) AllReadyH.nil
              refine step_append_run _ rfl (.tmp 56) (.tmp 58) 28 28 rfl _ _ rfl rfl hr2 ?_
              refine hK.out _ _ ?_ (fun hHeld => ?_)
              · exact ⟨H4.blk.cell 0, H4.blk.cell 1⟩
              clear hK K
              try simp only [Act.put, List.setIfInBounds_toArray, List.set_cons_zero, List.set_cons_succ]
              refine wpAnyH_ready (rs := [11]) (by kernel_rfl) (by simp) ?_
              refine AllReadyH.cons rfl (fun K hK => ?_) AllReadyH.nil
              refine step_append_run _ rfl (.tmp 59) (.tmp 62) 28 28 rfl _ _ rfl rfl hr3 ?_
              refine hK.out _ _ ?_ (fun hHeld => ?_)
              · exact ⟨H5.blk.cell 0, H5.blk.cell 1⟩
              clear hK K
              try simp only [Act.put, List.setIfInBounds_toArray, List.set_cons_zero, List.set_cons_succ]
              refine heldY 12 8 ?_
              refine wpAnyH_done (by kernel_rfl) ?_ _
              rw [hins] at ho5
              have HZ := Lib.hid (And.intro ho5 (And.intro H5.grown H5.all))
              clear hr1 H2 hr2 H4 hr3 H5 ho5 hp0 hins H1 H3 hHeld
              cases hv : nmB (insNms ps ⟨a, b⟩)
              · have HX := Lib.hid (And.intro hv (And.intro (show putNms ps ⟨a, b⟩ = ps by simp [putNms, HB.out.1, hv]) (show putNok ps ⟨a, b⟩ = false by simp [putNok, hv])))
                clear hv
                go_wp2_with fail
                refine (specNames_val HX.out.1 HLI.out HZ.out.1.row (by omega) HSI.out).mono ?_
                rintro e w6 ⟨rfl, hk6⟩
                have K7 := grown_alloc (grown_refl w6 none) (.cells #[] 32)
                have hB6 := (grown_trans HZ.out.2.1 hk6).size
                obtain ⟨u7, w7, hr7, o7, hg7, _⟩ := append_nameK (w6.alloc (.cells #[] 32)) w.heap.size _ (some ⟨g, off, none⟩) _ ps.length c [] ps (nown_lit0 w6 w.heap.size 32 hB6) ((HZ.out.2.2.kept hk6).kept K7) rfl (by simp; omega) (by simp only [size_alloc1]; omega)
                rw [List.nil_append] at o7
                obtain ⟨A7, c7, e7⟩ := o7.slice
                subst e7
                have HG7 := Lib.hid (And.intro o7 (grown_ownK (grown_trans (grown_trans HZ.out.2.1 hk6) K7) hg7 fun g e => by simp [Value.ownBlock] at e; omega))
                have HRUN := Lib.hid hr7
                clear hk6 K7 hr7 o7 hg7
                go_wp2_with (at_builtin; refine wpList_append_run _ rfl (.tmp 67) (.tmp 68) _ _ rfl _ _ rfl rfl HRUN.out ?_)
                rw [HX.out.2.1, HX.out.2.2]
                exact bodyPost_ret (v := .tuple #[.slice A7 ps.length c7, .bool false]) (by simp [results, Try.results30, go_sem, *]) rfl ⟨_, _, _, rfl, rfl, HG7.out.1, HG7.out.2⟩
              · have HX := Lib.hid (And.intro hv (And.intro (show putNms ps ⟨a, b⟩ = insNms ps ⟨a, b⟩ by simp [putNms, HB.out.1, hv]) (show putNok ps ⟨a, b⟩ = true by simp [putNok, HB.out.1, hv])))
                clear hv
                go_wp2_with fail
                refine (specNames_val HX.out.1 HLI.out HZ.out.1.row (by omega) HSI.out).mono ?_
                rintro e w6 ⟨rfl, hk6⟩
                have HG7 := Lib.hid (And.intro (HZ.out.1.keep hk6) (grown_trans HZ.out.2.1 hk6))
                clear hk6
                go_wp2
                rw [HX.out.2.1, HX.out.2.2]
                exact bodyPost_ret (v := .tuple #[.slice A3 (ps.length + 1) c3, .bool true]) (by simp [results, Try.results30, go_sem, *]) rfl ⟨_, _, _, rfl, HLI.out, HG7.out.1, HG7.out.2⟩
            · obtain ⟨H1, H3, u1, w2, hr1, H2, u2, w4, A3, c3, w5, hr2, H4, hr3, H5, ho5⟩ := nput_b (c := c) (cx := c - k) hp0.out (by omega) (show (ps.drop k).length = ps.length - k by simp <;> omega) (by omega)
              go_simp
              refine hK.out _ _ ?_ (fun hHeld => ?_)
              · exact ⟨H3.blk.cell 0, H3.blk.cell 1⟩
              clear hK K
              try simp only [Act.put, List.setIfInBounds_toArray, List.set_cons_zero, List.set_cons_succ]
              refine wpAnyH_ready (rs := [4]) (by kernel_rfl) (by simp) ?_
              refine AllReadyH.cons rfl (fun K hK => ?_) AllReadyH.nil
              refine step_append_run _ rfl (.tmp 52) (.tmp 55) 28 28 rfl _ _ rfl rfl hr1 ?_
              refine hK.out _ _ ?_ (fun hHeld => ?_)
              · exact ⟨H2.blk.cell 0, H2.blk.cell 1⟩
              clear hK K
              try simp only [Act.put, List.setIfInBounds_toArray, List.set_cons_zero, List.set_cons_succ]
              refine wpAnyH_ready (rs := [7]) (by kernel_rfl) (by simp) ?_
              refine AllReadyH.cons rfl (fun K hK => ?_) AllReadyH.nil
              refine step_append_run _ rfl (.tmp 56) (.tmp 58) 28 28 rfl _ _ rfl rfl hr2 ?_
              refine hK.out _ _ ?_ (fun hHeld => ?_)
              · exact ⟨H4.blk.cell 0, H4.blk.cell 1⟩
              clear hK K
              try simp only [Act.put, List.setIfInBounds_toArray, List.set_cons_zero, List.set_cons_succ]
              refine wpAnyH_ready (rs := [11]) (by kernel_rfl) (by simp) ?_
              refine AllReadyH.cons rfl (fun K hK => ?_) AllReadyH.nil
              refine step_append_run _ rfl (.tmp 59) (.tmp 62) 28 28 rfl _ _ rfl rfl hr3 ?_
              refine hK.out _ _ ?_ (fun hHeld => ?_)
              · exact ⟨H5.blk.cell 0, H5.blk.cell 1⟩
              clear hK K
              try simp only [Act.put, List.setIfInBounds_toArray, List.set_cons_zero, List.set_cons_succ]
              refine heldY 12 8 ?_
              refine wpAnyH_done (by kernel_rfl) ?_ _
              rw [hins] at ho5
              have HZ := Lib.hid (And.intro ho5 (And.intro H5.grown H5.all))
              clear hr1 H2 hr2 H4 hr3 H5 ho5 hp0 hins H1 H3 hHeld
              cases hv : nmB (insNms ps ⟨a, b⟩)
              · have HX := Lib.hid (And.intro hv (And.intro (show putNms ps ⟨a, b⟩ = ps by simp [putNms, HB.out.1, hv]) (show putNok ps ⟨a, b⟩ = false by simp [putNok, hv])))
                clear hv
                go_wp2_with fail
                refine (specNames_val HX.out.1 HLI.out HZ.out.1.row (by omega) HSI.out).mono ?_
                rintro e w6 ⟨rfl, hk6⟩
                have K7 := grown_alloc (grown_refl w6 none) (.cells #[] 32)
                have hB6 := (grown_trans HZ.out.2.1 hk6).size
                obtain ⟨u7, w7, hr7, o7, hg7, _⟩ := append_nameK (w6.alloc (.cells #[] 32)) w.heap.size _ (some ⟨g, off, none⟩) _ ps.length c [] ps (nown_lit0 w6 w.heap.size 32 hB6) ((HZ.out.2.2.kept hk6).kept K7) rfl (by simp; omega) (by simp only [size_alloc1]; omega)
                rw [List.nil_append] at o7
                obtain ⟨A7, c7, e7⟩ := o7.slice
                subst e7
                have HG7 := Lib.hid (And.intro o7 (grown_ownK (grown_trans (grown_trans HZ.out.2.1 hk6) K7) hg7 fun g e => by simp [Value.ownBlock] at e; omega))
                have HRUN := Lib.hid hr7
                clear hk6 K7 hr7 o7 hg7
                go_wp2_with (at_builtin; refine wpList_append_run _ rfl (.tmp 67) (.tmp 68) _ _ rfl _ _ rfl rfl HRUN.out ?_)
                rw [HX.out.2.1, HX.out.2.2]
                exact bodyPost_ret (v := .tuple #[.slice A7 ps.length c7, .bool false]) (by simp [results, Try.results30, go_sem, *]) rfl ⟨_, _, _, rfl, rfl, HG7.out.1, HG7.out.2⟩
              · have HX := Lib.hid (And.intro hv (And.intro (show putNms ps ⟨a, b⟩ = insNms ps ⟨a, b⟩ by simp [putNms, HB.out.1, hv]) (show putNok ps ⟨a, b⟩ = true by simp [putNok, HB.out.1, hv])))
                clear hv
                go_wp2_with fail
                refine (specNames_val HX.out.1 HLI.out HZ.out.1.row (by omega) HSI.out).mono ?_
                rintro e w6 ⟨rfl, hk6⟩
                have HG7 := Lib.hid (And.intro (HZ.out.1.keep hk6) (grown_trans HZ.out.2.1 hk6))
                clear hk6
                go_wp2
                rw [HX.out.2.1, HX.out.2.2]
                exact bodyPost_ret (v := .tuple #[.slice A3 (ps.length + 1) c3, .bool true]) (by simp [results, Try.results30, go_sem, *]) rfl ⟨_, _, _, rfl, HLI.out, HG7.out.1, HG7.out.2⟩
          · obtain ⟨H1, H3, u1, w2, hr1, H2, u2, w4, A3, c3, w5, hr2, H4, hr3, H5, ho5⟩ := nput_c (c := c) (cx := c - k) hp0.out (by omega) (show (ps.drop k).length = ps.length - k by simp <;> omega) (by omega)
            go_simp
            refine hK.out _ _ ?_ (fun hHeld => ?_)
            · exact ⟨H1.blk.cell 0, H1.blk.cell 1⟩
            clear hK K
            try simp only [Act.put, List.setIfInBounds_toArray, List.set_cons_zero, List.set_cons_succ]
            refine wpAnyH_ready (rs := [0]) (by kernel_rfl) (by simp) ?_
            refine AllReadyH.cons rfl (fun K hK => ?_) AllReadyH.nil
            go_simp
            refine hK.out _ _ ?_ (fun hHeld => ?_)
            · exact ⟨H3.blk.cell 0, H3.blk.cell 1⟩
            clear hK K
            try simp only [Act.put, List.setIfInBounds_toArray, List.set_cons_zero, List.set_cons_succ]
            refine wpAnyH_ready (rs := [4]) (by kernel_rfl) (by simp) ?_
            refine AllReadyH.cons rfl (fun K hK => ?_) AllReadyH.nil
            refine step_append_run _ rfl (.tmp 52) (.tmp 55) 28 28 rfl _ _ rfl rfl hr1 ?_
            refine hK.out _ _ ?_ (fun hHeld => ?_)
            · exact ⟨H2.blk.cell 0, H2.blk.cell 1⟩
            clear hK K
            try simp only [Act.put, List.setIfInBounds_toArray, List.set_cons_zero, List.set_cons_succ]
            refine wpAnyH_ready (rs := [7]) (by kernel_rfl) (by simp) ?_
            refine AllReadyH.cons rfl (fun K hK => ?_) AllReadyH.nil
            refine step_append_run _ rfl (.tmp 56) (.tmp 58) 28 28 rfl _ _ rfl rfl hr2 ?_
            refine hK.out _ _ ?_ (fun hHeld => ?_)
            · exact ⟨H4.blk.cell 0, H4.blk.cell 1⟩
            clear hK K
            try simp only [Act.put, List.setIfInBounds_toArray, List.set_cons_zero, List.set_cons_succ]
            refine wpAnyH_ready (rs := [11]) (by kernel_rfl) (by simp) ?_
            refine AllReadyH.cons rfl (fun K hK => ?_) AllReadyH.nil
            refine step_append_run _ rfl (.tmp 59) (.tmp 62) 28 28 rfl _ _ rfl rfl hr3 ?_
            refine hK.out _ _ ?_ (fun hHeld => ?_)
            · exact ⟨H5.blk.cell 0, H5.blk.cell 1⟩
            clear hK K
            try simp only [Act.put, List.setIfInBounds_toArray, List.set_cons_zero, List.set_cons_succ]
            refine heldY 12 8 ?_
            refine wpAnyH_done (by kernel_rfl) ?_ _
            rw [hins] at ho5
            have HZ := Lib.hid (And.intro ho5 (And.intro H5.grown H5.all))
            clear hr1 H2 hr2 H4 hr3 H5 ho5 hp0 hins H1 H3 hHeld
            cases hv : nmB (insNms ps ⟨a, b⟩)
            · have HX := Lib.hid (And.intro hv (And.intro (show putNms ps ⟨a, b⟩ = ps by simp [putNms, HB.out.1, hv]) (show putNok ps ⟨a, b⟩ = false by simp [putNok, hv])))
              clear hv
              go_wp2_with fail
              refine (specNames_val HX.out.1 HLI.out HZ.out.1.row (by omega) HSI.out).mono ?_
              rintro e w6 ⟨rfl, hk6⟩
              have K7 := grown_alloc (grown_refl w6 none) (.cells #[] 32)
              have hB6 := (grown_trans HZ.out.2.1 hk6).size
              obtain ⟨u7, w7, hr7, o7, hg7, _⟩ := append_nameK (w6.alloc (.cells #[] 32)) w.heap.size _ (some ⟨g, off, none⟩) _ ps.length c [] ps (nown_lit0 w6 w.heap.size 32 hB6) ((HZ.out.2.2.kept hk6).kept K7) rfl (by simp; omega) (by simp only [size_alloc1]; omega)
              rw [List.nil_append] at o7
              obtain ⟨A7, c7, e7⟩ := o7.slice
              subst e7
              have HG7 := Lib.hid (And.intro o7 (grown_ownK (grown_trans (grown_trans HZ.out.2.1 hk6) K7) hg7 fun g e => by simp [Value.ownBlock] at e; omega))
              have HRUN := Lib.hid hr7
              clear hk6 K7 hr7 o7 hg7
              go_wp2_with (at_builtin; refine wpList_append_run _ rfl (.tmp 67) (.tmp 68) _ _ rfl _ _ rfl rfl HRUN.out ?_)
              rw [HX.out.2.1, HX.out.2.2]
              exact bodyPost_ret (v := .tuple #[.slice A7 ps.length c7, .bool false]) (by simp [results, Try.results30, go_sem, *]) rfl ⟨_, _, _, rfl, rfl, HG7.out.1, HG7.out.2⟩
            · have HX := Lib.hid (And.intro hv (And.intro (show putNms ps ⟨a, b⟩ = insNms ps ⟨a, b⟩ by simp [putNms, HB.out.1, hv]) (show putNok ps ⟨a, b⟩ = true by simp [putNok, HB.out.1, hv])))
              clear hv
              go_wp2_with fail
              refine (specNames_val HX.out.1 HLI.out HZ.out.1.row (by omega) HSI.out).mono ?_
              rintro e w6 ⟨rfl, hk6⟩
              have HG7 := Lib.hid (And.intro (HZ.out.1.keep hk6) (grown_trans HZ.out.2.1 hk6))
              clear hk6
              go_wp2
              rw [HX.out.2.1, HX.out.2.2]
              exact bodyPost_ret (v := .tuple #[.slice A3 (ps.length + 1) c3, .bool true]) (by simp [results, Try.results30, go_sem, *]) rfl ⟨_, _, _, rfl, HLI.out, HG7.out.1, HG7.out.2⟩
        · cases e3 : Op.bytesLess a'.toList a.toList
          · have HX := Lib.hid (show befN ⟨a, b⟩ ⟨a', b'⟩ = false by simp [befN, befT, hU, HB.out.2, hUV, e2, e3])
            clear hU
            go_wp2_with fail
            go_quiet ((go_at_call 21; with_reducible exact Calls.quiet_of_same (specBucket_val HU.out _ z')))
            generalize hwz : wq.drewN nq = wz
            have hkz : wq.grownBy wz none := by rw [← hwz]; exact grown_drewN (grown_refl _ _) _
            have hcut := ncut_at (n := ⟨a, b⟩) (k := k) (by have := HR.out.1; omega) HS.out.1 (fun p hp => by
              have h2 := HP.out
              rw [hp] at h2
              injection h2 with h2
              subst h2
              exact HX.out)
            replace HS := Lib.hid (And.intro hcut (And.intro (HS.out.2.1.kept hkz) (And.intro (HS.out.2.2.1.keep hkz) (grown_trans HS.out.2.2.2 hkz))))
            clear hwz hkz hcut
            have q0 : decide ((0 : Int) ≤ k) = true := decide_eq_true (by omega)
            have q1 : (k : Int) ≤ ps.length := by omega
            have q2 : (k : Int) ≤ c := by omega
            have q3 : (ps.length : Int) ≤ c := by omega
            have hp0 : RowKit.Hid (NPSt w (some ⟨g, off, none⟩) (if c = k then (some ⟨g, off, none⟩ : Option Addr) else some ⟨g, off + k * 2, none⟩) ps k ⟨a, b⟩ wz.drew) := Lib.hid ⟨HS.out.2.1.kept (grown_drew (grown_refl _ _)), by rw [if_neg (by omega)]; have h := (HS.out.2.1.kept (grown_drew (grown_refl _ _))).from k; simpa [Go.WideShapes.add_plain] using h, HS.out.2.2.1.drew, grown_drew HS.out.2.2.2⟩
            have hins : ps.take k ++ ⟨a, b⟩ :: ps.drop k = insNms ps ⟨a, b⟩ := by rw [insNms, HS.out.1.1, HS.out.1.2]
            go_wp2_with fail
            refine wp_region_held_drew (S := (fun w' => w'.cell? ⟨w.heap.size, 0, none⟩ = some (.string a) ∧ w'.cell? ⟨w.heap.size, 1, none⟩ = some (.int .i64 b))) (by kernel_rfl) ?_ (fun hHeld => ?_)
            · exact ⟨hp0.out.blk.cell 0, hp0.out.blk.cell 1⟩
            refine heldY 1 53 ?_
            refine heldY 2 54 ?_
            refine heldY 3 55 ?_
            refine heldY 5 57 ?_
            refine heldY 8 60 ?_
            refine heldY 9 61 ?_
            refine heldY 10 62 ?_
            refine wpAnyH_ready (rs := [0, 6]) (by kernel_rfl) (by simp) ?_
            refine AllReadyH.cons rfl (fun K hK => ?_) (AllReadyH.cons rfl (fun K hK => ?_) AllReadyH.nil)
            · go_simp
              refine hK.out _ _ ?_ (fun hHeld => ?_)
              · exact ⟨(hp0.out.keep (grown_alloc (grown_refl _ none) (.cells #[] 32))).blk.cell 0, (hp0.out.keep (grown_alloc (grown_refl _ none) (.cells #[] 32))).blk.cell 1⟩
              clear hK K
              try simp only [Act.put, List.setIfInBounds_toArray, List.set_cons_zero, List.set_cons_succ]
              refine wpAnyH_ready (rs := [4, 6]) (by kernel_rfl) (by simp) ?_
              refine AllReadyH.cons rfl (fun K hK => ?_) (AllReadyH.cons rfl (fun K hK => ?_) AllReadyH.nil)
              · obtain ⟨H1, u1, w2, hr1, H2, H3, u2, w4, A3, c3, w5, hr2, H4, hr3, H5, ho5⟩ := nput_a (c := c) (cx := c - k) hp0.out (by omega) (show (ps.drop k).length = ps.length - k by simp <;> omega) (by omega)
                refine step_append_run _ rfl (.tmp 52) (.tmp 55) 28 28 rfl _ _ rfl rfl hr1 ?_
                refine hK.out _ _ ?_ (fun hHeld => ?_)
                · exact ⟨H2.blk.cell 0, H2.blk.cell 1⟩
                clear hK K
                try simp only [Act.put, List.setIfInBounds_toArray, List.set_cons_zero, List.set_cons_succ]
                refine wpAnyH_ready (rs := [6]) (by kernel_rfl) (by simp) ?_
                refine AllReadyH.cons rfl (fun K hK => ?_) AllReadyH.nil
                go_simp
                refine hK.out _ _ ?_ (fun hHeld => ?_)
                · exact ⟨H3.blk.cell 0, H3.blk.cell 1⟩
                clear hK K
                try simp only [Act.put, List.setIfInBounds_toArray, List.set_cons_zero, List.set_cons_succ]
                refine wpAnyH_ready (rs := [7]) (by kernel_rfl) (by simp) ?_
                refine AllReadyH.cons rfl (fun K hK => ?_) AllReadyH.nil
                refine step_append_run _ rfl (.tmp 56) (.tmp 58) 28 28 rfl _ _ rfl rfl hr2 ?_
                refine hK.out _ _ ?_ (fun hHeld => ?_)
                · exact ⟨H4.blk.cell 0, H4.blk.cell 1⟩
                clear hK K
                try simp only [Act.put, List.setIfInBounds_toArray, List.set_cons_zero, List.set_cons_succ]
                refine wpAnyH_ready (rs := [11]) (by kernel_rfl) (by simp) ?_
                refine AllReadyH.cons rfl (fun K hK => ?_) AllReadyH.nil
                refine step_append_run _ rfl (.tmp 59) (.tmp 62) 28 28 rfl _ _ rfl rfl hr3 ?_
                refine hK.out _ _ ?_ (fun hHeld => ?_)
                · exact ⟨H5.blk.cell 0, H5.blk.cell 1⟩
                clear hK K
                try simp only [Act.put, List.setIfInBounds_toArray, List.set_cons_zero, List.set_cons_succ]
                refine heldY 12 8 ?_
                refine wpAnyH_done (by kernel_rfl) ?_ _
                rw [hins] at ho5
                have HZ := Lib.hid (And.intro ho5 (And.intro H5.grown H5.all))
                clear hr1 H2 hr2 H4 hr3 H5 ho5 hp0 hins H1 H3 hHeld
                cases hv : nmB (insNms ps ⟨a, b⟩)
                · have HX := Lib.hid (And.intro hv (And.intro (show putNms ps ⟨a, b⟩ = ps by simp [putNms, HB.out.1, hv]) (show putNok ps ⟨a, b⟩ = false by simp [putNok, hv])))
                  clear hv
                  go_wp2_with fail
                  refine (specNames_val HX.out.1 HLI.out HZ.out.1.row (by omega) HSI.out).mono ?_
                  rintro e w6 ⟨rfl, hk6⟩
                  have K7 := grown_alloc (grown_refl w6 none) (.cells #[] 32)
                  have hB6 := (grown_trans HZ.out.2.1 hk6).size
                  obtain ⟨u7, w7, hr7, o7, hg7, _⟩ := append_nameK (w6.alloc (.cells #[] 32)) w.heap.size _ (some ⟨g, off, none⟩) _ ps.length c [] ps (nown_lit0 w6 w.heap.size 32 hB6) ((HZ.out.2.2.kept hk6).kept K7) rfl (by simp; omega) (by simp only [size_alloc1]; omega)
                  rw [List.nil_append] at o7
                  obtain ⟨A7, c7, e7⟩ := o7.slice
                  subst e7
                  have HG7 := Lib.hid (And.intro o7 (grown_ownK (grown_trans (grown_trans HZ.out.2.1 hk6) K7) hg7 fun g e => by simp [Value.ownBlock] at e; omega))
                  have HRUN := Lib.hid hr7
                  clear hk6 K7 hr7 o7 hg7
                  go_wp2_with (at_builtin; refine wpList_append_run _ rfl (.tmp 67) (.tmp 68) _ _ rfl _ _ rfl rfl HRUN.out ?_)
                  rw [HX.out.2.1, HX.out.2.2]
                  exact bodyPost_ret (v := .tuple #[.slice A7 ps.length c7, .bool false]) (by simp [results, Try.results30, go_sem, *]) rfl ⟨_, _, _, rfl, rfl, HG7.out.1, HG7.out.2⟩
                · have HX := Lib.hid (And.intro hv (And.intro (show putNms ps ⟨a, b⟩ = insNms ps ⟨a, b⟩ by simp [putNms, HB.out.1, hv]) (show putNok ps ⟨a, b⟩ = true by simp [putNok, HB.out.1, hv])))
                  clear hv
                  go_wp2_with fail
                  refine (specNames_val HX.out.1 HLI.out HZ.out.1.row (by omega) HSI.out).mono ?_
                  rintro e w6 ⟨rfl, hk6⟩
                  have HG7 := Lib.hid (And.intro (HZ.out.1.keep hk6) (grown_trans HZ.out.2.1 hk6))
                  clear hk6
                  go_wp2
                  rw [HX.out.2.1, HX.out.2.2]
                  exact bodyPost_ret (v := .tuple #[.slice A3 (ps.length + 1) c3, .bool true]) (by simp [results, Try.results30, go_sem, *]) rfl ⟨_, _, _, rfl, HLI.out, HG7.out.1, HG7.out.2⟩
              · obtain ⟨H1, H3, u1, w2, hr1, H2, u2, w4, A3, c3, w5, hr2, H4, hr3, H5, ho5⟩ := nput_b (c := c) (cx := c - k) hp0.out (by omega) (show (ps.drop k).length = ps.length - k by simp <;> omega) (by omega)
                go_simp
                refine hK.out _ _ ?_ (fun hHeld => ?_)
                · exact ⟨H3.blk.cell 0, H3.blk.cell 1⟩
                clear hK K
                try simp only [Act.put, List.setIfInBounds_toArray, List.set_cons_zero, List.set_cons_succ]
                refine wpAnyH_ready (rs := [4]) (by kernel_rfl) (by simp) ?_
                refine AllReadyH.cons rfl (fun K hK => ?_) AllReadyH.nil
                refine step_append_run _ rfl (.tmp 52) (.tmp 55) 28 28 rfl _ _ rfl rfl hr1 ?_
                refine hK.out _ _ ?_ (fun hHeld => ?_)
                · exact ⟨H2.blk.cell 0, H2.blk.cell 1⟩
                clear hK K
                try simp only [Act.put, List.setIfInBounds_toArray, List.set_cons_zero, List.set_cons_succ]
                refine wpAnyH_ready (rs := [7]) (by kernel_rfl) (by simp) ?_
                refine AllReadyH.cons rfl (fun K hK => ?_) AllReadyH.nil
                refine step_append_run _ rfl (.tmp 56) (.tmp 58) 28 28 rfl _ _ rfl rfl hr2 ?_
                refine hK.out _ _ ?_ (fun hHeld => ?_)
                · exact ⟨H4.blk.cell 0, H4.blk.cell 1⟩
                clear hK K
                try simp only [Act.put, List.setIfInBounds_toArray, List.set_cons_zero, List.set_cons_succ]
                refine wpAnyH_ready (rs := [11]) (by kernel_rfl) (by simp) ?_
                refine AllReadyH.cons rfl (fun K hK => ?_) AllReadyH.nil
                refine step_append_run _ rfl (.tmp 59) (.tmp 62) 28 28 rfl _ _ rfl rfl hr3 ?_
                refine hK.out _ _ ?_ (fun hHeld => ?_)
                · exact ⟨H5.blk.cell 0, H5.blk.cell 1⟩
                clear hK K
                try simp only [Act.put, List.setIfInBounds_toArray, List.set_cons_zero, List.set_cons_succ]
                refine heldY 12 8 ?_
                refine wpAnyH_done (by kernel_rfl) ?_ _
                rw [hins] at ho5
                have HZ := Lib.hid (And.intro ho5 (And.intro H5.grown H5.all))
                clear hr1 H2 hr2 H4 hr3 H5 ho5 hp0 hins H1 H3 hHeld
                cases hv : nmB (insNms ps ⟨a, b⟩)
                · have HX := Lib.hid (And.intro hv (And.intro (show putNms ps ⟨a, b⟩ = ps by simp [putNms, HB.out.1, hv]) (show putNok ps ⟨a, b⟩ = false by simp [putNok, hv])))
                  clear hv
                  go_wp2_with fail
                  refine (specNames_val HX.out.1 HLI.out HZ.out.1.row (by omega) HSI.out).mono ?_
                  rintro e w6 ⟨rfl, hk6⟩
                  have K7 := grown_alloc (grown_refl w6 none) (.cells #[] 32)
                  have hB6 := (grown_trans HZ.out.2.1 hk6).size
                  obtain ⟨u7, w7, hr7, o7, hg7, _⟩ := append_nameK (w6.alloc (.cells #[] 32)) w.heap.size _ (some ⟨g, off, none⟩) _ ps.length c [] ps (nown_lit0 w6 w.heap.size 32 hB6) ((HZ.out.2.2.kept hk6).kept K7) rfl (by simp; omega) (by simp only [size_alloc1]; omega)
                  rw [List.nil_append] at o7
                  obtain ⟨A7, c7, e7⟩ := o7.slice
                  subst e7
                  have HG7 := Lib.hid (And.intro o7 (grown_ownK (grown_trans (grown_trans HZ.out.2.1 hk6) K7) hg7 fun g e => by simp [Value.ownBlock] at e; omega))
                  have HRUN := Lib.hid hr7
                  clear hk6 K7 hr7 o7 hg7
                  go_wp2_with (at_builtin; refine wpList_append_run _ rfl (.tmp 67) (.tmp 68) _ _ rfl _ _ rfl rfl HRUN.out ?_)
                  rw [HX.out.2.1, HX.out.2.2]
                  exact bodyPost_ret (v := .tuple #[.slice A7 ps.length c7, .bool false]) (by simp [results, Try.results30, go_sem, *]) rfl ⟨_, _, _, rfl, rfl, HG7.out.1, HG7.out.2⟩
                · have HX := Lib.hid (And.intro hv (And.intro (show putNms ps ⟨a, b⟩ = insNms ps ⟨a, b⟩ by simp [putNms, HB.out.1, hv]) (show putNok ps ⟨a, b⟩ = true by simp [putNok, HB.out.1, hv])))
                  clear hv
                  go_wp2_with fail
                  refine (specNames_val HX.out.1 HLI.out HZ.out.1.row (by omega) HSI.out).mono ?_
                  rintro e w6 ⟨rfl, hk6⟩
                  have HG7 := Lib.hid (And.intro (HZ.out.1.keep hk6) (grown_trans HZ.out.2.1 hk6))
                  clear hk6
                  go_wp2
                  rw [HX.out.2.1, HX.out.2.2]
                  exact bodyPost_ret (v := .tuple #[.slice A3 (ps.length + 1) c3, .bool true]) (by simp [results, Try.results30, go_sem, *]) rfl ⟨_, _, _, rfl, HLI.out, HG7.out.1, HG7.out.2⟩
            · obtain ⟨H1, H3, u1, w2, hr1, H2, u2, w4, A3, c3, w5, hr2, H4, hr3, H5, ho5⟩ := nput_c (c := c) (cx := c - k) hp0.out (by omega) (show (ps.drop k).length = ps.length - k by simp <;> omega) (by omega)
              go_simp
              refine hK.out _ _ ?_ (fun hHeld => ?_)
              · exact ⟨H1.blk.cell 0, H1.blk.cell 1⟩
              clear hK K
              try simp only [Act.put, List.setIfInBounds_toArray, List.set_cons_zero, List.set_cons_succ]
              refine wpAnyH_ready (rs := [0]) (by kernel_rfl) (by simp) ?_
              refine AllReadyH.cons rfl (fun K hK => ?_) AllReadyH.nil
              go_simp
              refine hK.out _ _ ?_ (fun hHeld => ?_)
              · exact ⟨H3.blk.cell 0, H3.blk.cell 1⟩
              clear hK K
              try simp only [Act.put, List.setIfInBounds_toArray, List.set_cons_zero, List.set_cons_succ]
              refine wpAnyH_ready (rs := [4]) (by kernel_rfl) (by simp) ?_
              refine AllReadyH.cons rfl (fun K hK => ?_) AllReadyH.nil
              refine step_append_run _ rfl (.tmp 52) (.tmp 55) 28 28 rfl _ _ rfl rfl hr1 ?_
              refine hK.out _ _ ?_ (fun hHeld => ?_)
              · exact ⟨H2.blk.cell 0, H2.blk.cell 1⟩
              clear hK K
              try simp only [Act.put, List.setIfInBounds_toArray, List.set_cons_zero, List.set_cons_succ]
              refine wpAnyH_ready (rs := [7]) (by kernel_rfl) (by simp) ?_
              refine AllReadyH.cons rfl (fun K hK => ?_) AllReadyH.nil
              refine step_append_run _ rfl (.tmp 56) (.tmp 58) 28 28 rfl _ _ rfl rfl hr2 ?_
              refine hK.out _ _ ?_ (fun hHeld => ?_)
              · exact ⟨H4.blk.cell 0, H4.blk.cell 1⟩
              clear hK K
              try simp only [Act.put, List.setIfInBounds_toArray, List.set_cons_zero, List.set_cons_succ]
              refine wpAnyH_ready (rs := [11]) (by kernel_rfl) (by simp) ?_
              refine AllReadyH.cons rfl (fun K hK => ?_) AllReadyH.nil
              refine step_append_run _ rfl (.tmp 59) (.tmp 62) 28 28 rfl _ _ rfl rfl hr3 ?_
              refine hK.out _ _ ?_ (fun hHeld => ?_)
              · exact ⟨H5.blk.cell 0, H5.blk.cell 1⟩
              clear hK K
              try simp only [Act.put, List.setIfInBounds_toArray, List.set_cons_zero, List.set_cons_succ]
              refine heldY 12 8 ?_
              refine wpAnyH_done (by kernel_rfl) ?_ _
              rw [hins] at ho5
              have HZ := Lib.hid (And.intro ho5 (And.intro H5.grown H5.all))
              clear hr1 H2 hr2 H4 hr3 H5 ho5 hp0 hins H1 H3 hHeld
              cases hv : nmB (insNms ps ⟨a, b⟩)
              · have HX := Lib.hid (And.intro hv (And.intro (show putNms ps ⟨a, b⟩ = ps by simp [putNms, HB.out.1, hv]) (show putNok ps ⟨a, b⟩ = false by simp [putNok, hv])))
                clear hv
                go_wp2_with fail
                refine (specNames_val HX.out.1 HLI.out HZ.out.1.row (by omega) HSI.out).mono ?_
                rintro e w6 ⟨rfl, hk6⟩
                have K7 := grown_alloc (grown_refl w6 none) (.cells #[] 32)
                have hB6 := (grown_trans HZ.out.2.1 hk6).size
                obtain ⟨u7, w7, hr7, o7, hg7, _⟩ := append_nameK (w6.alloc (.cells #[] 32)) w.heap.size _ (some ⟨g, off, none⟩) _ ps.length c [] ps (nown_lit0 w6 w.heap.size 32 hB6) ((HZ.out.2.2.kept hk6).kept K7) rfl (by simp; omega) (by simp only [size_alloc1]; omega)
                rw [List.nil_append] at o7
                obtain ⟨A7, c7, e7⟩ := o7.slice
                subst e7
                have HG7 := Lib.hid (And.intro o7 (grown_ownK (grown_trans (grown_trans HZ.out.2.1 hk6) K7) hg7 fun g e => by simp [Value.ownBlock] at e; omega))
                have HRUN := Lib.hid hr7
                clear hk6 K7 hr7 o7 hg7
                go_wp2_with (at_builtin; refine wpList_append_run _ rfl (.tmp 67) (.tmp 68) _ _ rfl _ _ rfl rfl HRUN.out ?_)
                rw [HX.out.2.1, HX.out.2.2]
                exact bodyPost_ret (v := .tuple #[.slice A7 ps.length c7, .bool false]) (by simp [results, Try.results30, go_sem, *]) rfl ⟨_, _, _, rfl, rfl, HG7.out.1, HG7.out.2⟩
              · have HX := Lib.hid (And.intro hv (And.intro (show putNms ps ⟨a, b⟩ = insNms ps ⟨a, b⟩ by simp [putNms, HB.out.1, hv]) (show putNok ps ⟨a, b⟩ = true by simp [putNok, HB.out.1, hv])))
                clear hv
                go_wp2_with fail
                refine (specNames_val HX.out.1 HLI.out HZ.out.1.row (by omega) HSI.out).mono ?_
                rintro e w6 ⟨rfl, hk6⟩
                have HG7 := Lib.hid (And.intro (HZ.out.1.keep hk6) (grown_trans HZ.out.2.1 hk6))
                clear hk6
                go_wp2
                rw [HX.out.2.1, HX.out.2.2]
                exact bodyPost_ret (v := .tuple #[.slice A3 (ps.length + 1) c3, .bool true]) (by simp [results, Try.results30, go_sem, *]) rfl ⟨_, _, _, rfl, HLI.out, HG7.out.1, HG7.out.2⟩
          · have HX := Lib.hid (show befN ⟨a, b⟩ ⟨a', b'⟩ = true by simp [befN, befT, hU, HB.out.2, hUV, e2, e3])
            clear hU
            go_wp2_with fail
            go_quiet ((go_at_call 21; with_reducible exact Calls.quiet_of_same (specBucket_val HU.out _ z')))
            go_wp2
            go_roundw
            case rel => exact ⟨k + 1, by omega, by go_num, fun j p hj hp => by
              rcases Nat.lt_or_ge j k with h | h
              · exact HS.out.1 j p h hp
              · obtain rfl : j = k := by omega
                have h2 := HP.out
                rw [hp] at h2
                injection h2 with h2
                subst h2
                exact HX.out, HS.out.2.1.kept (grown_drewN (grown_refl _ _) _), HS.out.2.2.1.keep (grown_drewN (grown_refl _ _) _), grown_drewN HS.out.2.2.2 _⟩
            case measure => simp [intOf]; omega
    · have hk2 : decide (k < ps.length) = false := decide_eq_false (by omega)
      have hk3 : decide ((k : Int) < ps.length) = false := decide_eq_false (by omega)
      go_wp2_with fail
      go_quiet (fail)
      generalize hwz : wq.drewN nq = wz
      have hkz : wq.grownBy wz none := by rw [← hwz]; exact grown_drewN (grown_refl _ _) _
      have hcut := ncut_at (n := ⟨a, b⟩) (k := k) (by have := HR.out.1; omega) HS.out.1 (fun p hp => by
        have := (List.getElem?_eq_some_iff.1 hp).1
        have := HR.out.1
        omega)
      replace HS := Lib.hid (And.intro hcut (And.intro (HS.out.2.1.kept hkz) (And.intro (HS.out.2.2.1.keep hkz) (grown_trans HS.out.2.2.2 hkz))))
      clear hwz hkz hcut
      by_cases hck : k = c
      · subst hck
        have q0 : decide ((0 : Int) ≤ k) = true := decide_eq_true (by omega)
        have q1 : (k : Int) ≤ ps.length := by omega
        have q2 : (k : Int) ≤ k := by omega
        have q3 : (ps.length : Int) ≤ k := by omega
        have hp0 : RowKit.Hid (NPSt w A A ps k ⟨a, b⟩ wz.drew) := Lib.hid ⟨HS.out.2.1.kept (grown_drew (grown_refl _ _)), by rw [List.drop_of_length_le (by omega)]; exact NRow.nil, HS.out.2.2.1.drew, grown_drew HS.out.2.2.2⟩
        have hins : ps.take k ++ ⟨a, b⟩ :: ps.drop k = insNms ps ⟨a, b⟩ := by rw [insNms, HS.out.1.1, HS.out.1.2]
        go_wp2_with fail
        refine wp_region_held_drew (S := (fun w' => w'.cell? ⟨w.heap.size, 0, none⟩ = some (.string a) ∧ w'.cell? ⟨w.heap.size, 1, none⟩ = some (.int .i64 b))) (by kernel_rfl) ?_ (fun hHeld => ?_)
        · exact ⟨hp0.out.blk.cell 0, hp0.out.blk.cell 1⟩
        refine heldY 1 53 ?_
        refine heldY 2 54 ?_
        refine heldY 3 55 ?_
        refine heldY 5 57 ?_
        refine heldY 8 60 ?_
        refine heldY 9 61 ?_
        refine heldY 10 62 ?_
        refine wpAnyH_ready (rs := [0, 6]) (by kernel_rfl) (by simp) ?_
        refine AllReadyH.cons rfl (fun K hK => ?_) (AllReadyH.cons rfl (fun K hK => ?_) AllReadyH.nil)
        · go_simp
          refine hK.out _ _ ?_ (fun hHeld => ?_)
          · exact ⟨(hp0.out.keep (grown_alloc (grown_refl _ none) (.cells #[] 32))).blk.cell 0, (hp0.out.keep (grown_alloc (grown_refl _ none) (.cells #[] 32))).blk.cell 1⟩
          clear hK K
          try simp only [Act.put, List.setIfInBounds_toArray, List.set_cons_zero, List.set_cons_succ]
          refine wpAnyH_ready (rs := [4, 6]) (by kernel_rfl) (by simp) ?_
          refine AllReadyH.cons rfl (fun K hK => ?_) (AllReadyH.cons rfl (fun K hK => ?_) AllReadyH.nil)
          · obtain ⟨H1, u1, w2, hr1, H2, H3, u2, w4, A3, c3, w5, hr2, H4, hr3, H5, ho5⟩ := nput_a (c := k) (cx := 0) hp0.out (by omega) (show (ps.drop k).length = 0 by simp <;> omega) (by omega)
            refine step_append_run _ rfl (.tmp 52) (.tmp 55) 28 28 rfl _ _ rfl rfl hr1 ?_
            refine hK.out _ _ ?_ (fun hHeld => ?_)
            · exact ⟨H2.blk.cell 0, H2.blk.cell 1⟩
            clear hK K
            try simp only [Act.put, List.setIfInBounds_toArray, List.set_cons_zero, List.set_cons_succ]
            refine wpAnyH_ready (rs := [6]) (by kernel_rfl) (by simp) ?_
            refine AllReadyH.cons rfl (fun K hK => ?_) AllReadyH.nil
            go_simp
            refine hK.out _ _ ?_ (fun hHeld => ?_)
            · exact ⟨H3.blk.cell 0, H3.blk.cell 1⟩
            clear hK K
            try simp only [Act.put, List.setIfInBounds_toArray, List.set_cons_zero, List.set_cons_succ]
            refine wpAnyH_ready (rs := [7]) (by kernel_rfl) (by simp) ?_
            refine AllReadyH.cons rfl (fun K hK => ?_) AllReadyH.nil
            refine step_append_run _ rfl (.tmp 56) (.tmp 58) 28 28 rfl _ _ rfl rfl hr2 ?_
            refine hK.out _ _ ?_ (fun hHeld => ?_)
            · exact ⟨H4.blk.cell 0, H4.blk.cell 1⟩
            clear hK K
            try simp only [Act.put, List.setIfInBounds_toArray, List.set_cons_zero, List.set_cons_succ]
            refine wpAnyH_ready (rs := [11]) (by kernel_rfl) (by simp) ?_
            refine AllReadyH.cons rfl (fun K hK => ?_) AllReadyH.nil
            refine step_append_run _ rfl (.tmp 59) (.tmp 62) 28 28 rfl _ _ rfl rfl hr3 ?_
            refine hK.out _ _ ?_ (fun hHeld => ?_)
            · exact ⟨H5.blk.cell 0, H5.blk.cell 1⟩
            clear hK K
            try simp only [Act.put, List.setIfInBounds_toArray, List.set_cons_zero, List.set_cons_succ]
            refine heldY 12 8 ?_
            refine wpAnyH_done (by kernel_rfl) ?_ _
            rw [hins] at ho5
            have HZ := Lib.hid (And.intro ho5 (And.intro H5.grown H5.all))
            clear hr1 H2 hr2 H4 hr3 H5 ho5 hp0 hins H1 H3 hHeld
            cases hv : nmB (insNms ps ⟨a, b⟩)
            · have HX := Lib.hid (And.intro hv (And.intro (show putNms ps ⟨a, b⟩ = ps by simp [putNms, HB.out.1, hv]) (show putNok ps ⟨a, b⟩ = false by simp [putNok, hv])))
              clear hv
              go_wp2_with fail
              refine (specNames_val HX.out.1 HLI.out HZ.out.1.row (by omega) HSI.out).mono ?_
              rintro e w6 ⟨rfl, hk6⟩
              have K7 := grown_alloc (grown_refl w6 none) (.cells #[] 32)
              have hB6 := (grown_trans HZ.out.2.1 hk6).size
              obtain ⟨u7, w7, hr7, o7, hg7, _⟩ := append_nameK (w6.alloc (.cells #[] 32)) w.heap.size _ A _ ps.length k [] ps (nown_lit0 w6 w.heap.size 32 hB6) ((HZ.out.2.2.kept hk6).kept K7) rfl (by simp; omega) (by simp only [size_alloc1]; omega)
              rw [List.nil_append] at o7
              obtain ⟨A7, c7, e7⟩ := o7.slice
              subst e7
              have HG7 := Lib.hid (And.intro o7 (grown_ownK (grown_trans (grown_trans HZ.out.2.1 hk6) K7) hg7 fun g e => by simp [Value.ownBlock] at e; omega))
              have HRUN := Lib.hid hr7
              clear hk6 K7 hr7 o7 hg7
              go_wp2_with (at_builtin; refine wpList_append_run _ rfl (.tmp 67) (.tmp 68) _ _ rfl _ _ rfl rfl HRUN.out ?_)
              rw [HX.out.2.1, HX.out.2.2]
              exact bodyPost_ret (v := .tuple #[.slice A7 ps.length c7, .bool false]) (by simp [results, Try.results30, go_sem, *]) rfl ⟨_, _, _, rfl, rfl, HG7.out.1, HG7.out.2⟩
            · have HX := Lib.hid (And.intro hv (And.intro (show putNms ps ⟨a, b⟩ = insNms ps ⟨a, b⟩ by simp [putNms, HB.out.1, hv]) (show putNok ps ⟨a, b⟩ = true by simp [putNok, HB.out.1, hv])))
              clear hv
              go_wp2_with fail
              refine (specNames_val HX.out.1 HLI.out HZ.out.1.row (by omega) HSI.out).mono ?_
              rintro e w6 ⟨rfl, hk6⟩
              have HG7 := Lib.hid (And.intro (HZ.out.1.keep hk6) (grown_trans HZ.out.2.1 hk6))
              clear hk6
              go_wp2
              rw [HX.out.2.1, HX.out.2.2]
              exact bodyPost_ret (v := .tuple #[.slice A3 (ps.length + 1) c3, .bool true]) (by simp [results, Try.results30, go_sem, *]) rfl ⟨_, _, _, rfl, HLI.out, HG7.out.1, HG7.out.2⟩
          · obtain ⟨H1, H3, u1, w2, hr1, H2, u2, w4, A3, c3, w5, hr2, H4, hr3, H5, ho5⟩ := nput_b (c := k) (cx := 0) hp0.out (by omega) (show (ps.drop k).length = 0 by simp <;> omega) (by omega)
            go_simp
            refine hK.out _ _ ?_ (fun hHeld => ?_)
            · exact ⟨H3.blk.cell 0, H3.blk.cell 1⟩
            clear hK K
            try simp only [Act.put, List.setIfInBounds_toArray, List.set_cons_zero, List.set_cons_succ]
            refine wpAnyH_ready (rs := [4]) (by kernel_rfl) (by simp) ?_
            refine AllReadyH.cons rfl (fun K hK => ?_) AllReadyH.nil
            refine step_append_run _ rfl (.tmp 52) (.tmp 55) 28 28 rfl _ _ rfl rfl hr1 ?_
            refine hK.out _ _ ?_ (fun hHeld => ?_)
            · exact ⟨H2.blk.cell 0, H2.blk.cell 1⟩
            clear hK K
            try simp only [Act.put, List.setIfInBounds_toArray, List.set_cons_zero, List.set_cons_succ]
            refine wpAnyH_ready (rs := [7]) (by kernel_rfl) (by simp) ?_
            refine AllReadyH.cons rfl (fun K hK => ?_) AllReadyH.nil
            refine step_append_run _ rfl (.tmp 56) (.tmp 58) 28 28 rfl _ _ rfl rfl hr2 ?_
            refine hK.out _ _ ?_ (fun hHeld => ?_)
            · exact ⟨H4.blk.cell 0, H4.blk.cell 1⟩
            clear hK K
            try simp only [Act.put, List.setIfInBounds_toArray, List.set_cons_zero, List.set_cons_succ]
            refine wpAnyH_ready (rs := [11]) (by kernel_rfl) (by simp) ?_
            refine AllReadyH.cons rfl (fun K hK => ?_) AllReadyH.nil
            refine step_append_run _ rfl (.tmp 59) (.tmp 62) 28 28 rfl _ _ rfl rfl hr3 ?_
            refine hK.out _ _ ?_ (fun hHeld => ?_)
            · exact ⟨H5.blk.cell 0, H5.blk.cell 1⟩
            clear hK K
            try simp only [Act.put, List.setIfInBounds_toArray, List.set_cons_zero, List.set_cons_succ]
            refine heldY 12 8 ?_
            refine wpAnyH_done (by kernel_rfl) ?_ _
            rw [hins] at ho5
            have HZ := Lib.hid (And.intro ho5 (And.intro H5.grown H5.all))
            clear hr1 H2 hr2 H4 hr3 H5 ho5 hp0 hins H1 H3 hHeld
            cases hv : nmB (insNms ps ⟨a, b⟩)
            · have HX := Lib.hid (And.intro hv (And.intro (show putNms ps ⟨a, b⟩ = ps by simp [putNms, HB.out.1, hv]) (show putNok ps ⟨a, b⟩ = false by simp [putNok, hv])))
              clear hv
              go_wp2_with fail
              refine (specNames_val HX.out.1 HLI.out HZ.out.1.row (by omega) HSI.out).mono ?_
              rintro e w6 ⟨rfl, hk6⟩
              have K7 := grown_alloc (grown_refl w6 none) (.cells #[] 32)
              have hB6 := (grown_trans HZ.out.2.1 hk6).size
              obtain ⟨u7, w7, hr7, o7, hg7, _⟩ := append_nameK (w6.alloc (.cells #[] 32)) w.heap.size _ A _ ps.length k [] ps (nown_lit0 w6 w.heap.size 32 hB6) ((HZ.out.2.2.kept hk6).kept K7) rfl (by simp; omega) (by simp only [size_alloc1]; omega)
              rw [List.nil_append] at o7
              obtain ⟨A7, c7, e7⟩ := o7.slice
              subst e7
              have HG7 := Lib.hid (And.intro o7 (grown_ownK (grown_trans (grown_trans HZ.out.2.1 hk6) K7) hg7 fun g e => by simp [Value.ownBlock] at e; omega))
              have HRUN := Lib.hid hr7
              clear hk6 K7 hr7 o7 hg7
              go_wp2_with (at_builtin; refine wpList_append_run _ rfl (.tmp 67) (.tmp 68) _ _ rfl _ _ rfl rfl HRUN.out ?_)
              rw [HX.out.2.1, HX.out.2.2]
              exact bodyPost_ret (v := .tuple #[.slice A7 ps.length c7, .bool false]) (by simp [results, Try.results30, go_sem, *]) rfl ⟨_, _, _, rfl, rfl, HG7.out.1, HG7.out.2⟩
            · have HX := Lib.hid (And.intro hv (And.intro (show putNms ps ⟨a, b⟩ = insNms ps ⟨a, b⟩ by simp [putNms, HB.out.1, hv]) (show putNok ps ⟨a, b⟩ = true by simp [putNok, HB.out.1, hv])))
              clear hv
              go_wp2_with fail
              refine (specNames_val HX.out.1 HLI.out HZ.out.1.row (by omega) HSI.out).mono ?_
              rintro e w6 ⟨rfl, hk6⟩
              have HG7 := Lib.hid (And.intro (HZ.out.1.keep hk6) (grown_trans HZ.out.2.1 hk6))
              clear hk6
              go_wp2
              rw [HX.out.2.1, HX.out.2.2]
              exact bodyPost_ret (v := .tuple #[.slice A3 (ps.length + 1) c3, .bool true]) (by simp [results, Try.results30, go_sem, *]) rfl ⟨_, _, _, rfl, HLI.out, HG7.out.1, HG7.out.2⟩
        · obtain ⟨H1, H3, u1, w2, hr1, H2, u2, w4, A3, c3, w5, hr2, H4, hr3, H5, ho5⟩ := nput_c (c := k) (cx := 0) hp0.out (by omega) (show (ps.drop k).length = 0 by simp <;> omega) (by omega)
          go_simp
          refine hK.out _ _ ?_ (fun hHeld => ?_)
          · exact ⟨H1.blk.cell 0, H1.blk.cell 1⟩
          clear hK K
          try simp only [Act.put, List.setIfInBounds_toArray, List.set_cons_zero, List.set_cons_succ]
          refine wpAnyH_ready (rs := [0]) (by kernel_rfl) (by simp) ?_
          refine AllReadyH.cons rfl (fun K hK => ?_) AllReadyH.nil
          go_simp
          refine hK.out _ _ ?_ (fun hHeld => ?_)
          · exact ⟨H3.blk.cell 0, H3.blk.cell 1⟩
          clear hK K
          try simp only [Act.put, List.setIfInBounds_toArray, List.set_cons_zero, List.set_cons_succ]
          refine wpAnyH_ready (rs := [4]) (by kernel_rfl) (by simp) ?_
          refine AllReadyH.cons rfl (fun K hK => ?_) AllReadyH.nil
          refine step_append_run _ rfl (.tmp 52) (.tmp 55) 28 28 rfl _ _ rfl rfl hr1 ?_
          refine hK.out _ _ ?_ (fun hHeld => ?_)
          · exact ⟨H2.blk.cell 0, H2.blk.cell 1⟩
          clear hK K
          try simp only [Act.put, List.setIfInBounds_toArray, List.set_cons_zero, List.set_cons_succ]
          refine wpAnyH_ready (rs := [7]) (by kernel_rfl) (by simp) ?_
          refine AllReadyH.cons rfl (fun K hK => ?_) AllReadyH.nil
          refine step_append_run _ rfl (.tmp 56) (.tmp 58) 28 28 rfl _ _ rfl rfl hr2 ?_
          refine hK.out _ _ ?_ (fun hHeld => ?_)
          · exact ⟨H4.blk.cell 0, H4.blk.cell 1⟩
          clear hK K
          try simp only [Act.put, List.setIfInBounds_toArray, List.set_cons_zero, List.set_cons_succ]
          refine wpAnyH_ready (rs := [11]) (by kernel_rfl) (by simp) ?_
          refine AllReadyH.cons rfl (fun K hK => ?_) AllReadyH.nil
          refine step_append_run _ rfl (.tmp 59) (.tmp 62) 28 28 rfl _ _ rfl rfl hr3 ?_
          refine hK.out _ _ ?_ (fun hHeld => ?_)
          · exact ⟨H5.blk.cell 0, H5.blk.cell 1⟩
          clear hK K
          try simp only [Act.put, List.setIfInBounds_toArray, List.set_cons_zero, List.set_cons_succ]
          refine heldY 12 8 ?_
          refine wpAnyH_done (by kernel_rfl) ?_ _
          rw [hins] at ho5
          have HZ := Lib.hid (And.intro ho5 (And.intro H5.grown H5.all))
          clear hr1 H2 hr2 H4 hr3 H5 ho5 hp0 hins H1 H3 hHeld
          cases hv : nmB (insNms ps ⟨a, b⟩)
          · have HX := Lib.hid (And.intro hv (And.intro (show putNms ps ⟨a, b⟩ = ps by simp [putNms, HB.out.1, hv]) (show putNok ps ⟨a, b⟩ = false by simp [putNok, hv])))
            clear hv
            go_wp2_with fail
            refine (specNames_val HX.out.1 HLI.out HZ.out.1.row (by omega) HSI.out).mono ?_
            rintro e w6 ⟨rfl, hk6⟩
            have K7 := grown_alloc (grown_refl w6 none) (.cells #[] 32)
            have hB6 := (grown_trans HZ.out.2.1 hk6).size
            obtain ⟨u7, w7, hr7, o7, hg7, _⟩ := append_nameK (w6.alloc (.cells #[] 32)) w.heap.size _ A _ ps.length k [] ps (nown_lit0 w6 w.heap.size 32 hB6) ((HZ.out.2.2.kept hk6).kept K7) rfl (by simp; omega) (by simp only [size_alloc1]; omega)
            rw [List.nil_append] at o7
            obtain ⟨A7, c7, e7⟩ := o7.slice
            subst e7
            have HG7 := Lib.hid (And.intro o7 (grown_ownK (grown_trans (grown_trans HZ.out.2.1 hk6) K7) hg7 fun g e => by simp [Value.ownBlock] at e; omega))
            have HRUN := Lib.hid hr7
            clear hk6 K7 hr7 o7 hg7
            go_wp2_with (at_builtin; refine wpList_append_run _ rfl (.tmp 67) (.tmp 68) _ _ rfl _ _ rfl rfl HRUN.out ?_)
            rw [HX.out.2.1, HX.out.2.2]
            exact bodyPost_ret (v := .tuple #[.slice A7 ps.length c7, .bool false]) (by simp [results, Try.results30, go_sem, *]) rfl ⟨_, _, _, rfl, rfl, HG7.out.1, HG7.out.2⟩
          · have HX := Lib.hid (And.intro hv (And.intro (show putNms ps ⟨a, b⟩ = insNms ps ⟨a, b⟩ by simp [putNms, HB.out.1, hv]) (show putNok ps ⟨a, b⟩ = true by simp [putNok, HB.out.1, hv])))
            clear hv
            go_wp2_with fail
            refine (specNames_val HX.out.1 HLI.out HZ.out.1.row (by omega) HSI.out).mono ?_
            rintro e w6 ⟨rfl, hk6⟩
            have HG7 := Lib.hid (And.intro (HZ.out.1.keep hk6) (grown_trans HZ.out.2.1 hk6))
            clear hk6
            go_wp2
            rw [HX.out.2.1, HX.out.2.2]
            exact bodyPost_ret (v := .tuple #[.slice A3 (ps.length + 1) c3, .bool true]) (by simp [results, Try.results30, go_sem, *]) rfl ⟨_, _, _, rfl, HLI.out, HG7.out.1, HG7.out.2⟩
      · have hck2 : ¬ c = k := fun e => hck e.symm
        have q0 : decide ((0 : Int) ≤ k) = true := decide_eq_true (by omega)
        have q1 : (k : Int) ≤ ps.length := by omega
        have q2 : (k : Int) ≤ c := by omega
        have q3 : (ps.length : Int) ≤ c := by omega
        have hp0 : RowKit.Hid (NPSt w A (Option.map (fun x => x.add (k * 2)) A) ps k ⟨a, b⟩ wz.drew) := Lib.hid ⟨HS.out.2.1.kept (grown_drew (grown_refl _ _)), by rw [List.drop_of_length_le (by omega)]; exact NRow.nil, HS.out.2.2.1.drew, grown_drew HS.out.2.2.2⟩
        have hins : ps.take k ++ ⟨a, b⟩ :: ps.drop k = insNms ps ⟨a, b⟩ := by rw [insNms, HS.out.1.1, HS.out.1.2]
        go_wp2_with fail
        refine wp_region_held_drew (S := (fun w' => w'.cell? ⟨w.heap.size, 0, none⟩ = some (.string a) ∧ w'.cell? ⟨w.heap.size, 1, none⟩ = some (.int .i64 b))) (by kernel_rfl) ?_ (fun hHeld => ?_)
        · exact ⟨hp0.out.blk.cell 0, hp0.out.blk.cell 1⟩
        refine heldY 1 53 ?_
        refine heldY 2 54 ?_
        refine heldY 3 55 ?_
        refine heldY 5 57 ?_
        refine heldY 8 60 ?_
        refine heldY 9 61 ?_
        refine heldY 10 62 ?_
        refine wpAnyH_ready (rs := [0, 6]) (by kernel_rfl) (by simp) ?_
        refine AllReadyH.cons rfl (fun K hK => ?_) (AllReadyH.cons rfl (fun K hK => ?_) AllReadyH.nil)
        · go_simp
          refine hK.out _ _ ?_ (fun hHeld => ?_)
          · exact ⟨(hp0.out.keep (grown_alloc (grown_refl _ none) (.cells #[] 32))).blk.cell 0, (hp0.out.keep (grown_alloc (grown_refl _ none) (.cells #[] 32))).blk.cell 1⟩
          clear hK K
          try simp only [Act.put, List.setIfInBounds_toArray, List.set_cons_zero, List.set_cons_succ]
          refine wpAnyH_ready (rs := [4, 6]) (by kernel_rfl) (by simp) ?_
          refine AllReadyH.cons rfl (fun K hK => ?_) (AllReadyH.cons rfl (fun K hK => ?_) AllReadyH.nil)
          · obtain ⟨H1, u1, w2, hr1, H2, H3, u2, w4, A3, c3, w5, hr2, H4, hr3, H5, ho5⟩ := nput_a (c := c) (cx := c - k) hp0.out (by omega) (show (ps.drop k).length = ps.length - k by simp <;> omega) (by omega)
            refine step_append_run _ rfl (.tmp 52) (.tmp 55) 28 28 rfl _ _ rfl rfl hr1 ?_
            refine hK.out _ _ ?_ (fun hHeld => ?_)
            · exact ⟨H2.blk.cell 0, H2.blk.cell 1⟩
            clear hK K
            try simp only [Act.put, List.setIfInBounds_toArray, List.set_cons_zero, List.set_cons_succ]
            refine wpAnyH_ready (rs := [6]) (by kernel_rfl) (by simp) ?_
            refine AllReadyH.cons rfl (fun K hK => ?_) AllReadyH.nil
            go_simp
            refine hK.out _ _ ?_ (fun hHeld => ?_)
            · exact ⟨H3.blk.cell 0, H3.blk.cell 1⟩
            clear hK K
            try simp only [Act.put, List.setIfInBounds_toArray, List.set_cons_zero, List.set_cons_succ]
            refine wpAnyH_ready (rs := [7]) (by kernel_rfl) (by simp) ?_
            refine AllReadyH.cons rfl (fun K hK => ?_) AllReadyH.nil
            refine step_append_run _ rfl (.tmp 56) (.tmp 58) 28 28 rfl _ _ rfl rfl hr2 ?_
            refine hK.out _ _ ?_ (fun hHeld => ?_)
            · exact ⟨H4.blk.cell 0, H4.blk.cell 1⟩
            clear hK K
            try simp only [Act.put, List.setIfInBounds_toArray, List.set_cons_zero, List.set_cons_succ]
            refine wpAnyH_ready (rs := [11]) (by kernel_rfl) (by simp) ?_
            refine AllReadyH.cons rfl (fun K hK => ?_) AllReadyH.nil
            refine step_append_run _ rfl (.tmp 59) (.tmp 62) 28 28 rfl _ _ rfl rfl hr3 ?_
            refine hK.out _ _ ?_ (fun hHeld => ?_)
            · exact ⟨H5.blk.cell 0, H5.blk.cell 1⟩
            clear hK K
            try simp only [Act.put, List.setIfInBounds_toArray, List.set_cons_zero, List.set_cons_succ]
            refine heldY 12 8 ?_
            refine wpAnyH_done (by kernel_rfl) ?_ _
            rw [hins] at ho5
            have HZ := Lib.hid (And.intro ho5 (And.intro H5.grown H5.all))
            clear hr1 H2 hr2 H4 hr3 H5 ho5 hp0 hins H1 H3 hHeld
            cases hv : nmB (insNms ps ⟨a, b⟩)
            · have HX := Lib.hid (And.intro hv (And.intro (show putNms ps ⟨a, b⟩ = ps by simp [putNms, HB.out.1, hv]) (show putNok ps ⟨a, b⟩ = false by simp [putNok, hv])))
              clear hv
              go_wp2_with fail
              refine (specNames_val HX.out.1 HLI.out HZ.out.1.row (by omega) HSI.out).mono ?_
              rintro e w6 ⟨rfl, hk6⟩
              have K7 := grown_alloc (grown_refl w6 none) (.cells #[] 32)
              have hB6 := (grown_trans HZ.out.2.1 hk6).size
              obtain ⟨u7, w7, hr7, o7, hg7, _⟩ := append_nameK (w6.alloc (.cells #[] 32)) w.heap.size _ A _ ps.length c [] ps (nown_lit0 w6 w.heap.size 32 hB6) ((HZ.out.2.2.kept hk6).kept K7) rfl (by simp; omega) (by simp only [size_alloc1]; omega)
              rw [List.nil_append] at o7
              obtain ⟨A7, c7, e7⟩ := o7.slice
              subst e7
              have HG7 := Lib.hid (And.intro o7 (grown_ownK (grown_trans (grown_trans HZ.out.2.1 hk6) K7) hg7 fun g e => by simp [Value.ownBlock] at e; omega))
              have HRUN := Lib.hid hr7
              clear hk6 K7 hr7 o7 hg7
              go_wp2_with (at_builtin; refine wpList_append_run _ rfl (.tmp 67) (.tmp 68) _ _ rfl _ _ rfl rfl HRUN.out ?_)
              rw [HX.out.2.1, HX.out.2.2]
              exact bodyPost_ret (v := .tuple #[.slice A7 ps.length c7, .bool false]) (by simp [results, Try.results30, go_sem, *]) rfl ⟨_, _, _, rfl, rfl, HG7.out.1, HG7.out.2⟩
            · have HX := Lib.hid (And.intro hv (And.intro (show putNms ps ⟨a, b⟩ = insNms ps ⟨a, b⟩ by simp [putNms, HB.out.1, hv]) (show putNok ps ⟨a, b⟩ = true by simp [putNok, HB.out.1, hv])))
              clear hv
              go_wp2_with fail
              refine (specNames_val HX.out.1 HLI.out HZ.out.1.row (by omega) HSI.out).mono ?_
              rintro e w6 ⟨rfl, hk6⟩
              have HG7 := Lib.hid (And.intro (HZ.out.1.keep hk6) (grown_trans HZ.out.2.1 hk6))
              clear hk6
              go_wp2
              rw [HX.out.2.1, HX.out.2.2]
              exact bodyPost_ret (v := .tuple #[.slice A3 (ps.length + 1) c3, .bool true]) (by simp [results, Try.results30, go_sem, *]) rfl ⟨_, _, _, rfl, HLI.out, HG7.out.1, HG7.out.2⟩
          · obtain ⟨H1, H3, u1, w2, hr1, H2, u2, w4, A3, c3, w5, hr2, H4, hr3, H5, ho5⟩ := nput_b (c := c) (cx := c - k) hp0.out (by omega) (show (ps.drop k).length = ps.length - k by simp <;> omega) (by omega)
            go_simp
            refine hK.out _ _ ?_ (fun hHeld => ?_)
            · exact ⟨H3.blk.cell 0, H3.blk.cell 1⟩
            clear hK K
            try simp only [Act.put, List.setIfInBounds_toArray, List.set_cons_zero, List.set_cons_succ]
            refine wpAnyH_ready (rs := [4]) (by kernel_rfl) (by simp) ?_
            refine AllReadyH.cons rfl (fun K hK => ?_) AllReadyH.nil
            refine step_append_run _ rfl (.tmp 52) (.tmp 55) 28 28 rfl _ _ rfl rfl hr1 ?_
            refine hK.out _ _ ?_ (fun hHeld => ?_)
            · exact ⟨H2.blk.cell 0, H2.blk.cell 1⟩
            clear hK K
            try simp only [Act.put, List.setIfInBounds_toArray, List.set_cons_zero, List.set_cons_succ]
            refine wpAnyH_ready (rs := [7]) (by kernel_rfl) (by simp) ?_
            refine AllReadyH.cons rfl (fun K hK => ?_) AllReadyH.nil
            refine step_append_run _ rfl (.tmp 56) (.tmp 58) 28 28 rfl _ _ rfl rfl hr2 ?_
            refine hK.out _ _ ?_ (fun hHeld => ?_)
            · exact ⟨H4.blk.cell 0, H4.blk.cell 1⟩
            clear hK K
            try simp only [Act.put, List.setIfInBounds_toArray, List.set_cons_zero, List.set_cons_succ]
            refine wpAnyH_ready (rs := [11]) (by kernel_rfl) (by simp) ?_
            refine AllReadyH.cons rfl (fun K hK => ?_) AllReadyH.nil
            refine step_append_run _ rfl (.tmp 59) (.tmp 62) 28 28 rfl _ _ rfl rfl hr3 ?_
            refine hK.out _ _ ?_ (fun hHeld => ?_)
            · exact ⟨H5.blk.cell 0, H5.blk.cell 1⟩
            clear hK K
            try simp only [Act.put, List.setIfInBounds_toArray, List.set_cons_zero, List.set_cons_succ]
            refine heldY 12 8 ?_
            refine wpAnyH_done (by kernel_rfl) ?_ _
            rw [hins] at ho5
            have HZ := Lib.hid (And.intro ho5 (And.intro H5.grown H5.all))
            clear hr1 H2 hr2 H4 hr3 H5 ho5 hp0 hins H1 H3 hHeld
            cases hv : nmB (insNms ps ⟨a, b⟩)
            · have HX := Lib.hid (And.intro hv (And.intro (show putNms ps ⟨a, b⟩ = ps by simp [putNms, HB.out.1, hv]) (show putNok ps ⟨a, b⟩ = false by simp [putNok, hv])))
              clear hv
              go_wp2_with fail
              refine (specNames_val HX.out.1 HLI.out HZ.out.1.row (by omega) HSI.out).mono ?_
              rintro e w6 ⟨rfl, hk6⟩
              have K7 := grown_alloc (grown_refl w6 none) (.cells #[] 32)
              have hB6 := (grown_trans HZ.out.2.1 hk6).size
              obtain ⟨u7, w7, hr7, o7, hg7, _⟩ := append_nameK (w6.alloc (.cells #[] 32)) w.heap.size _ A _ ps.length c [] ps (nown_lit0 w6 w.heap.size 32 hB6) ((HZ.out.2.2.kept hk6).kept K7) rfl (by simp; omega) (by simp only [size_alloc1]; omega)
              rw [List.nil_append] at o7
              obtain ⟨A7, c7, e7⟩ := o7.slice
              subst e7
              have HG7 := Lib.hid (And.intro o7 (grown_ownK (grown_trans (grown_trans HZ.out.2.1 hk6) K7) hg7 fun g e => by simp [Value.ownBlock] at e; omega))
              have HRUN := Lib.hid hr7
              clear hk6 K7 hr7 o7 hg7
              go_wp2_with (at_builtin; refine wpList_append_run _ rfl (.tmp 67) (.tmp 68) _ _ rfl _ _ rfl rfl HRUN.out ?_)
              rw [HX.out.2.1, HX.out.2.2]
              exact bodyPost_ret (v := .tuple #[.slice A7 ps.length c7, .bool false]) (by simp [results, Try.results30, go_sem, *]) rfl ⟨_, _, _, rfl, rfl, HG7.out.1, HG7.out.2⟩
            · have HX := Lib.hid (And.intro hv (And.intro (show putNms ps ⟨a, b⟩ = insNms ps ⟨a, b⟩ by simp [putNms, HB.out.1, hv]) (show putNok ps ⟨a, b⟩ = true by simp [putNok, HB.out.1, hv])))
              clear hv
              go_wp2_with fail
              refine (specNames_val HX.out.1 HLI.out HZ.out.1.row (by omega) HSI.out).mono ?_
              rintro e w6 ⟨rfl, hk6⟩
              have HG7 := Lib.hid (And.intro (HZ.out.1.keep hk6) (grown_trans HZ.out.2.1 hk6))
              clear hk6
              go_wp2
              rw [HX.out.2.1, HX.out.2.2]
              exact bodyPost_ret (v := .tuple #[.slice A3 (ps.length + 1) c3, .bool true]) (by simp [results, Try.results30, go_sem, *]) rfl ⟨_, _, _, rfl, HLI.out, HG7.out.1, HG7.out.2⟩
        · obtain ⟨H1, H3, u1, w2, hr1, H2, u2, w4, A3, c3, w5, hr2, H4, hr3, H5, ho5⟩ := nput_c (c := c) (cx := c - k) hp0.out (by omega) (show (ps.drop k).length = ps.length - k by simp <;> omega) (by omega)
          go_simp
          refine hK.out _ _ ?_ (fun hHeld => ?_)
          · exact ⟨H1.blk.cell 0, H1.blk.cell 1⟩
          clear hK K
          try simp only [Act.put, List.setIfInBounds_toArray, List.set_cons_zero, List.set_cons_succ]
          refine wpAnyH_ready (rs := [0]) (by kernel_rfl) (by simp) ?_
          refine AllReadyH.cons rfl (fun K hK => ?_) AllReadyH.nil
          go_simp
          refine hK.out _ _ ?_ (fun hHeld => ?_)
          · exact ⟨H3.blk.cell 0, H3.blk.cell 1⟩
          clear hK K
          try simp only [Act.put, List.setIfInBounds_toArray, List.set_cons_zero, List.set_cons_succ]
          refine wpAnyH_ready (rs := [4]) (by kernel_rfl) (by simp) ?_
          refine AllReadyH.cons rfl (fun K hK => ?_) AllReadyH.nil
          refine step_append_run _ rfl (.tmp 52) (.tmp 55) 28 28 rfl _ _ rfl rfl hr1 ?_
          refine hK.out _ _ ?_ (fun hHeld => ?_)
          · exact ⟨H2.blk.cell 0, H2.blk.cell 1⟩
          clear hK K
          try simp only [Act.put, List.setIfInBounds_toArray, List.set_cons_zero, List.set_cons_succ]
          refine wpAnyH_ready (rs := [7]) (by kernel_rfl) (by simp) ?_
          refine AllReadyH.cons rfl (fun K hK => ?_) AllReadyH.nil
          refine step_append_run _ rfl (.tmp 56) (.tmp 58) 28 28 rfl _ _ rfl rfl hr2 ?_
          refine hK.out _ _ ?_ (fun hHeld => ?_)
          · exact ⟨H4.blk.cell 0, H4.blk.cell 1⟩
          clear hK K
          try simp only [Act.put, List.setIfInBounds_toArray, List.set_cons_zero, List.set_cons_succ]
          refine wpAnyH_ready (rs := [11]) (by kernel_rfl) (by simp) ?_
          refine AllReadyH.cons rfl (fun K hK => ?_) AllReadyH.nil
          refine step_append_run _ rfl (.tmp 59) (.tmp 62) 28 28 rfl _ _ rfl rfl hr3 ?_
          refine hK.out _ _ ?_ (fun hHeld => ?_)
          · exact ⟨H5.blk.cell 0, H5.blk.cell 1⟩
          clear hK K
          try simp only [Act.put, List.setIfInBounds_toArray, List.set_cons_zero, List.set_cons_succ]
          refine heldY 12 8 ?_
          refine wpAnyH_done (by kernel_rfl) ?_ _
          rw [hins] at ho5
          have HZ := Lib.hid (And.intro ho5 (And.intro H5.grown H5.all))
          clear hr1 H2 hr2 H4 hr3 H5 ho5 hp0 hins H1 H3 hHeld
          cases hv : nmB (insNms ps ⟨a, b⟩)
          · have HX := Lib.hid (And.intro hv (And.intro (show putNms ps ⟨a, b⟩ = ps by simp [putNms, HB.out.1, hv]) (show putNok ps ⟨a, b⟩ = false by simp [putNok, hv])))
            clear hv
            go_wp2_with fail
            refine (specNames_val HX.out.1 HLI.out HZ.out.1.row (by omega) HSI.out).mono ?_
            rintro e w6 ⟨rfl, hk6⟩
            have K7 := grown_alloc (grown_refl w6 none) (.cells #[] 32)
            have hB6 := (grown_trans HZ.out.2.1 hk6).size
            obtain ⟨u7, w7, hr7, o7, hg7, _⟩ := append_nameK (w6.alloc (.cells #[] 32)) w.heap.size _ A _ ps.length c [] ps (nown_lit0 w6 w.heap.size 32 hB6) ((HZ.out.2.2.kept hk6).kept K7) rfl (by simp; omega) (by simp only [size_alloc1]; omega)
            rw [List.nil_append] at o7
            obtain ⟨A7, c7, e7⟩ := o7.slice
            subst e7
            have HG7 := Lib.hid (And.intro o7 (grown_ownK (grown_trans (grown_trans HZ.out.2.1 hk6) K7) hg7 fun g e => by simp [Value.ownBlock] at e; omega))
            have HRUN := Lib.hid hr7
            clear hk6 K7 hr7 o7 hg7
            go_wp2_with (at_builtin; refine wpList_append_run _ rfl (.tmp 67) (.tmp 68) _ _ rfl _ _ rfl rfl HRUN.out ?_)
            rw [HX.out.2.1, HX.out.2.2]
            exact bodyPost_ret (v := .tuple #[.slice A7 ps.length c7, .bool false]) (by simp [results, Try.results30, go_sem, *]) rfl ⟨_, _, _, rfl, rfl, HG7.out.1, HG7.out.2⟩
          · have HX := Lib.hid (And.intro hv (And.intro (show putNms ps ⟨a, b⟩ = insNms ps ⟨a, b⟩ by simp [putNms, HB.out.1, hv]) (show putNok ps ⟨a, b⟩ = true by simp [putNok, HB.out.1, hv])))
            clear hv
            go_wp2_with fail
            refine (specNames_val HX.out.1 HLI.out HZ.out.1.row (by omega) HSI.out).mono ?_
            rintro e w6 ⟨rfl, hk6⟩
            have HG7 := Lib.hid (And.intro (HZ.out.1.keep hk6) (grown_trans HZ.out.2.1 hk6))
            clear hk6
            go_wp2
            rw [HX.out.2.1, HX.out.2.2]
            exact bodyPost_ret (v := .tuple #[.slice A3 (ps.length + 1) c3, .bool true]) (by simp [results, Try.results30, go_sem, *]) rfl ⟨_, _, _, rfl, HLI.out, HG7.out.1, HG7.out.2⟩
end Go.Proofs.Ytengcjglkcmkbaa
