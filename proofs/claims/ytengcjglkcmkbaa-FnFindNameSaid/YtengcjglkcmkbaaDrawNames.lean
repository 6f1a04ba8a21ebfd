/- What the model draws for chapter 10: names, most of them valid. -/
import Derived.Test.YtengcjglkcmkbaaNamesSpec2
import Derived.Test.YtengcjglkcmkbaaDrawTexts
import Derived.Test.YtengcjglkcmkbaaExtDraw
namespace Go.Proofs.Ytengcjglkcmkbaa
open Go.ChangeShapes Go.WideShapes Go.ChangeAt Go.RowKit
set_option linter.unusedVariables false
set_option linter.unusedSimpArgs false

/-- Short texts. -/
def Shorts (ps : List Nm) : Prop := ∀ (k : Nat) p, ps[k]? = some p → p.a.size ≤ 9
theorem Shorts.big {ps : List Nm} (h : Shorts ps) : ∀ (k : Nat) p, ps[k]? = some p → p.a.size ≤ 9223372036854775807 := fun k p hp => by have := h k p hp; omega
theorem Shorts.put {ps : List Nm} {a : ByteArray} {b : Int} (h : Shorts ps) (ha : a.size ≤ 9) : Shorts (putNms ps ⟨a, b⟩) := fun k p hp => by
  rcases putN_mem (List.mem_of_getElem? hp) with rfl | h1
  · exact ha
  · obtain ⟨j, hj⟩ := List.getElem?_of_mem h1
    exact h j p hj
theorem Shorts.more {ps : List Nm} {p : Nm} (h : Shorts ps) (ha : p.a.size ≤ 9) : Shorts (ps ++ [p]) := fun k q hq => by
  rcases List.mem_append.1 (List.mem_of_getElem? hq) with h1 | h1
  · obtain ⟨j, hj⟩ := List.getElem?_of_mem h1
    exact h j q hj
  · simp at h1; subst h1; exact ha
/-- Names of the call's own while a reader in block g is read. -/
def NDSt (w : World) (B g Q : Nat) (ps : List Nm) (u : Value) (wr : World) : Prop := NOwn wr w.heap.size 32 u ps ∧ Rd wr B g Q ∧ w.grownBy wr (some g) ∧ g < w.heap.size
section
variable {w wr w' : World} {B g Q Q' : Nat} {ps : List Nm} {u : Value}
theorem NDSt.grown (H : NDSt w B g Q ps u wr) (hg : wr.grownBy w' (some g)) (hr : Rd w' B g Q') : NDSt w B g Q' ps u w' :=
  ⟨NOwn.kept H.1 hg (by
    cases h : u.ownBlock with
    | none => exact .inl rfl
    | some k => refine .inr fun e => ?_; have h1 := (NOwn.lt H.1 k h).1; have h2 := H.2.2.2; injection e with e; omega), hr, grown_trans H.2.2.1 hg, H.2.2.2⟩
theorem NDSt.kept (H : NDSt w B g Q ps u wr) (hk : wr.grownBy w' none) : NDSt w B g Q ps u w' := H.grown (grown_some hk) (H.2.1.grown hk (by intro k e; cases e))
theorem NDSt.push (a : ByteArray) (b : Int) (H : NDSt w B g Q ps u wr) (hn : ps.length < 1048576) :
    ∃ u' w', (∀ ty, (Builtin.append_ #[28, 28] ty #[u, .slice (some ⟨wr.heap.size, 0, none⟩) 1 1]).run Try.prog (wr.alloc (.cells #[.string a, .int .i64 b] 32)) = .ok u' w') ∧ NDSt w B g Q (ps ++ [⟨a, b⟩]) u' w' := by
  obtain ⟨u', w2, hrun, h2, hg2⟩ := push_name (base := w.heap.size) a b H.1 H.2.2.1.size hn
  have K1 := grown_alloc (grown_refl wr none) (.cells #[.string a, .int .i64 b] 32)
  have hB := H.2.1.le
  exact ⟨u', w2, hrun, h2, (H.2.1.grown K1 (by intro k e; cases e)).grown hg2 (fun k e => by have h1 := (NOwn.lt H.1 k e).1; have h2 := H.2.2.2; omega), grown_joinG (grown_trans H.2.2.1 (grown_some K1)) hg2 (fun k e => (NOwn.lt H.1 k e).1), H.2.2.2⟩
end
/-- Names are drawn. -/
def DrewNames (w : World) (B g P : Nat) (e : Ending) (w' : World) : Prop :=
  ∃ (A : Option Addr) (n c : Nat) (ps : List Nm), e = .returned (.slice A n c) ∧ ps.length = n ∧ n ≤ 9 ∧ Shorts ps ∧ NOwn w' w.heap.size 32 (.slice A n c) ps ∧ Rd w' B g P ∧ w.grownBy w' (some g)
theorem litN4 (z : Nat) (h : z < 4) : ∃ (a : ByteArray) (b : Int), a.size ≤ 9 ∧ (#[Value.string ⟨#[]⟩, .int .i64 0, .string ⟨#[122, 122]⟩, .int .i64 8, .string ⟨#[122, 122]⟩, .int .i64 (-1), .string ⟨#[65]⟩, .int .i64 0] : Array Value)[z * 2]? = some (.string a) ∧ (#[Value.string ⟨#[]⟩, .int .i64 0, .string ⟨#[122, 122]⟩, .int .i64 8, .string ⟨#[122, 122]⟩, .int .i64 (-1), .string ⟨#[65]⟩, .int .i64 0] : Array Value)[z * 2 + 1]? = some (.int .i64 b) := by
  match z, h with
  | 0, _ => exact ⟨_, _, by decide, rfl, rfl⟩
  | 1, _ => exact ⟨_, _, by decide, rfl, rfl⟩
  | 2, _ => exact ⟨_, _, by decide, rfl, rfl⟩
  | 3, _ => exact ⟨_, _, by decide, rfl, rfl⟩
set_option maxHeartbeats 2000000 in
theorem names_any (w : World) (B g P : Nat) (N : Int) (h : Rd w B g P) (hP : P ≤ 90000) (hN : 1 ≤ N) (hN2 : N ≤ 1000000000000) :
    Calls Try.prog 47 #[.pointer (some ⟨g, 0, none⟩), .int .i64 N] w (DrewNames w B g (P + 30)) := by
  have hg := h.lt
  have HS : RowKit.Hid (NDSt w B g P [] (.slice (some ⟨w.heap.size, 0, none⟩) 0 0) (w.alloc (.cells #[] 32))) := Lib.hid ⟨nown_lit0 w w.heap.size _ (Nat.le_refl _), h.alloc _, grown_alloc (grown_refl _ _) _, hg⟩
  clear h
  go_enter Try.func47, Try.ntmps47
  go_wp2_with fail
  refine (pick_lt _ _ _ _ _ HS.out.2.1 (by omega) (by omega)).mono ?_
  rintro e w1 ⟨x1, rfl, u1, v1, h1, hg1⟩
  replace HS := Lib.hid (HS.out.grown hg1 h1)
  clear h1 hg1
  obtain ⟨k0, rfl⟩ := Int.eq_ofNat_of_zero_le u1
  go_wp2
  go_loopw [5, 6] (fun u i wr => ∃ (k Q : Nat) (ps : List Nm), i = .int .i64 k ∧ k ≤ 8 ∧ ps.length + k ≤ 8 ∧ Shorts ps ∧ Q + 2 * k ≤ P + 17 ∧ NDSt w B g Q ps u wr) (fun _ i _ => (intOf i).toNat)
  case atStart => exact ⟨k0, P + 1, [], rfl, by omega, by simp; omega, fun k p hp => by simp at hp, by omega, HS.out⟩
  case round =>
    rename World => wq
    obtain ⟨k, Q, ps, rfl, hk, hlen, hsh, hQ, hS⟩ := hrel
    clear HS
    have HS := Lib.hid hS
    have HX := Lib.hid (And.intro hsh hlen)
    clear hS hsh
    obtain ⟨Au, cu, rfl⟩ := HS.out.1.slice
    by_cases hk0 : k = 0
    · subst hk0
      go_wp2_with fail
      refine (odd_any _ _ _ _ _ HS.out.2.1 (by omega) hN hN2).mono ?_
      rintro e w3 ⟨q, rfl, h3, hg3⟩
      replace HS := Lib.hid (HS.out.grown hg3 h3)
      clear h3 hg3
      cases q
      · go_wp2
        go_ret
        exact ⟨_, _, _, ps, rfl, rfl, by omega, HX.out.1, HS.out.1, HS.out.2.1.more (by omega), HS.out.2.2.1⟩
      · have hL := Blk.new w3 32 #[.string ⟨#[]⟩, .int .i64 0, .string ⟨#[122, 122]⟩, .int .i64 8, .string ⟨#[122, 122]⟩, .int .i64 (-1), .string ⟨#[65]⟩, .int .i64 0]
        have HLit := Lib.hid hL
        have hlt := HS.out.2.1.lt
        replace HS := Lib.hid (HS.out.kept (grown_alloc (grown_refl w3 none) (.cells #[.string ⟨#[]⟩, .int .i64 0, .string ⟨#[122, 122]⟩, .int .i64 8, .string ⟨#[122, 122]⟩, .int .i64 (-1), .string ⟨#[65]⟩, .int .i64 0] 32)))
        clear hL
        go_wp2_with fail
        refine (pick_lt _ _ _ _ _ HS.out.2.1 (by omega) (by omega)).mono ?_
        rintro e w4 ⟨x4, rfl, u4, v4, h4, hg4⟩
        obtain ⟨y, rfl⟩ := Int.eq_ofNat_of_zero_le u4
        obtain ⟨va, vb, hsz, hva, hvb⟩ := litN4 y (by omega)
        have hL4 := HLit.out.grown hg4 (by intro e; injection e with e; omega)
        have e4 : w4.cell? ⟨w3.heap.size, y * 2, none⟩ = some (.string va) := (hL4.cell (y * 2)).trans hva
        have e5 : w4.cell? ⟨w3.heap.size, y * 2 + 1, none⟩ = some (.int .i64 vb) := (hL4.cell (y * 2 + 1)).trans hvb
        replace HS := Lib.hid (HS.out.grown hg4 h4)
        have y0 : decide ((0 : Int) ≤ y) = true := decide_eq_true (by omega)
        have y1 : (y : Int) < 4 := by omega
        obtain ⟨u', w5, hrun, hz⟩ := HS.out.push va vb (by omega)
        have HZ := Lib.hid hz
        have HRUN := Lib.hid hrun
        have HM := Lib.hid (show Shorts (ps ++ [⟨va, vb⟩]) from HX.out.1.more hsz)
        clear h4 hg4 hva hvb hz hrun HLit hL4 hsz
        go_wp2_with (at_builtin; refine wpList_append_run _ rfl (.tmp 30) (.tmp 40) _ _ rfl _ _ rfl rfl HRUN.out ?_)
        obtain ⟨A5, c5, rfl⟩ := HZ.out.1.slice
        go_ret
        exact ⟨_, _, _, ps ++ [⟨va, vb⟩], rfl, rfl, by rw [List.length_append]; simp; omega, HM.out, HZ.out.1, HZ.out.2.1.more (by omega), HZ.out.2.2.1⟩
    · obtain ⟨k, rfl⟩ : ∃ j, k = j + 1 := ⟨k - 1, by omega⟩
      have k1 : decide ((0 : Int) < ((k + 1 : Nat) : Int)) = true := decide_eq_true (by omega)
      have k2 : (0 : Int) < ((k + 1 : Nat) : Int) := by omega
      go_wp2_with fail
      refine (text_good _ _ _ _ HS.out.2.1 (by omega)).mono ?_
      rintro e w3 ⟨s, rfl, hs9, h3, hg3⟩
      replace HS := Lib.hid (HS.out.grown hg3 h3)
      clear h3 hg3
      go_wp2_with fail
      refine (pick_lt _ _ _ _ _ HS.out.2.1 (by omega) (by omega)).mono ?_
      rintro e w4 ⟨x4, rfl, u4, v4, h4, hg4⟩
      replace HS := Lib.hid (HS.out.grown hg4 h4)
      clear h4 hg4
      have hcap := HS.out.1.capn rfl
      go_wp2_with fail
      refine (specPut_any Au ps.length cu ps s x4 _ rfl HS.out.1.row (by omega) hcap.1 hcap.2 HX.out.1.big (by omega)).mono ?_
      rintro e w5 ⟨A5, n5, c5, rfl, hl5, ho5, hg5⟩
      have HZ := Lib.hid (show NDSt w B g (Q + 1 + 1) (putNms ps ⟨s, x4⟩) (.slice A5 n5 c5) w5 from ⟨ho5.base_le HS.out.2.2.1.size, HS.out.2.1.grown hg5 (by intro k e; cases e), grown_trans HS.out.2.2.1 (grown_some hg5), HS.out.2.2.2⟩)
      have HM := Lib.hid (And.intro (show Shorts (putNms ps ⟨s, x4⟩) from HX.out.1.put hs9) (putN_length ps ⟨s, x4⟩))
      clear hl5 ho5 hg5 HS
      go_wp2
      go_roundw
      case rel => exact ⟨k, Q + 1 + 1, putNms ps ⟨s, x4⟩, by go_num, by omega, by have := HM.out.2; omega, HM.out.1, by omega, HZ.out⟩
      case measure => simp [intOf]
/-- Names that were drawn out of a code, while a law walks on. -/
def LNm (w : World) (A : Option Addr) (ps : List Nm) (wr : World) : Prop := NRow wr wr.heap.size A ps ∧ Below w.heap.size w wr
theorem LNm.keep {w wr w' : World} {A : Option Addr} {ps : List Nm} (h : LNm w A ps wr) (k : wr.grownBy w' none) : LNm w A ps w' := ⟨h.1.keepN k, Below.and_kept h.2 k⟩
def NamesDrawn (w : World) (e : Ending) (w' : World) : Prop := ∃ (A : Option Addr) (n c : Nat) (ps : List Nm), e = .returned (.slice A n c) ∧ ps.length = n ∧ n ≤ 9 ∧ n ≤ c ∧ c ≤ maxLen ∧ Shorts ps ∧ LNm w A ps w'
theorem drawNames_any (w : World) (A : Option Addr) (n c : Nat) (hn : n ≤ c) (hc : c ≤ 9223372036854775807) (h : Bytes w w.heap.size A n) :
    Calls Try.prog 22 #[.slice A n c] w (NamesDrawn w) := by
  go_enter Try.func22, Try.ntmps22
  go_wp2_with fail
  refine (open_any _ A n c hn hc h).mono ?_
  rintro e w1 ⟨rfl, h1, hb1⟩
  go_wp2_with fail
  refine (names_any _ _ _ _ 2 h1 (by omega) (by omega) (by omega)).mono ?_
  rintro e w2 ⟨A2, n2, c2, ps, rfl, hl, h9, hsh, ho, h2, hg2⟩
  have HF := Lib.hid (And.intro (hb1.trans (Below.of_grown hg2 (by omega) hb1.size)) (And.intro hl (And.intro h9 (And.intro ho.row (And.intro (ho.capn hl) hsh)))))
  clear h h1 h2 hb1 hg2 hl ho hsh
  go_wp2
  go_ret
  exact ⟨_, _, _, ps, rfl, HF.out.2.1, HF.out.2.2.1, HF.out.2.2.2.2.1.1, HF.out.2.2.2.2.1.2, HF.out.2.2.2.2.2, HF.out.2.2.2.1, HF.out.1⟩
/-- Names and a text are drawn. -/
def FindDrawn (w : World) (e : Ending) (w' : World) : Prop := ∃ (A : Option Addr) (n c : Nat) (ps : List Nm) (s : ByteArray), e = .returned (.tuple #[.slice A n c, .string s]) ∧ ps.length = n ∧ n ≤ 9 ∧ n ≤ c ∧ c ≤ maxLen ∧ s.size ≤ 9 ∧ Shorts ps ∧ LNm w A ps w'
theorem drawFindName_any (w : World) (A : Option Addr) (n c : Nat) (hn : n ≤ c) (hc : c ≤ 9223372036854775807) (h : Bytes w w.heap.size A n) :
    Calls Try.prog 25 #[.slice A n c] w (FindDrawn w) := by
  go_enter Try.func25, Try.ntmps25
  go_wp2_with fail
  refine (open_any _ A n c hn hc h).mono ?_
  rintro e w1 ⟨rfl, h1, hb1⟩
  have hz1 := hb1.size
  have hg1 := h1.lt
  go_wp2_with fail
  refine (names_any _ _ _ _ 9 h1 (by omega) (by omega) (by omega)).mono ?_
  rintro e w2 ⟨A2, n2, c2, ps, rfl, hl, h9, hsh, ho, h2, hg2⟩
  have HB := Lib.hid (hb1.trans (Below.of_grown hg2 (by omega) hb1.size))
  have HL := Lib.hid (And.intro hl (And.intro h9 (And.intro (ho.capn hl) hsh)))
  have HS : RowKit.Hid (NDSt w1 (w.heap.size) w.heap.size _ ps (.slice A2 n2 c2) w2) := Lib.hid ⟨ho, h2, hg2, hg1⟩
  clear h h1 h2 hb1 hg2 hl ho hsh
  go_wp2_with fail
  refine (text_any _ _ _ _ 9 HS.out.2.1 (by omega) (by omega) (by omega)).mono ?_
  rintro e w3 ⟨s, rfl, hs9, h3, hg3⟩
  replace HS := Lib.hid (HS.out.grown hg3 h3)
  replace HB := Lib.hid (HB.out.trans (Below.of_grown hg3 (by omega) HB.out.size))
  clear h3 hg3
  go_wp2
  exact bodyPost_ret (v := .tuple #[.slice A2 n2 c2, .string s]) (by simp [results, Try.results25, go_sem, *]) rfl ⟨_, _, _, ps, _, rfl, HL.out.1, HL.out.2.1, HL.out.2.2.1.1, HL.out.2.2.1.2, hs9, HL.out.2.2.2, HS.out.1.row, HB.out⟩
theorem drawDropName_any (w : World) (A : Option Addr) (n c : Nat) (hn : n ≤ c) (hc : c ≤ 9223372036854775807) (h : Bytes w w.heap.size A n) :
    Calls Try.prog 33 #[.slice A n c] w (FindDrawn w) := by
  go_enter Try.func33, Try.ntmps33
  go_wp2_with fail
  refine (drawFindName_any _ A n c hn hc h).mono ?_
  rintro e w1 ⟨A2, n2, c2, ps, s, rfl, hrest⟩
  have HR := Lib.hid hrest
  clear h hrest
  go_wp2
  exact bodyPost_ret (v := .tuple #[.slice A2 n2 c2, .string s]) (by simp [results, Try.results33, go_sem, *]) rfl ⟨_, _, _, ps, _, rfl, HR.out⟩
/-- Names and one more are drawn. -/
def PutDrawn (w : World) (e : Ending) (w' : World) : Prop := ∃ (A : Option Addr) (n c : Nat) (ps : List Nm) (s : ByteArray) (x : Int), e = .returned (.tuple #[.slice A n c, .agg #[.string s, .int .i64 x]]) ∧ ps.length = n ∧ n ≤ 9 ∧ n ≤ c ∧ c ≤ maxLen ∧ s.size ≤ 9 ∧ Shorts ps ∧ LNm w A ps w'
theorem drawPutName_any (w : World) (A : Option Addr) (n c : Nat) (hn : n ≤ c) (hc : c ≤ 9223372036854775807) (h : Bytes w w.heap.size A n) :
    Calls Try.prog 28 #[.slice A n c] w (PutDrawn w) := by
  have h0 := h.alloc (.cells #[.string ⟨#[]⟩, .int .i64 0] 32)
  have hR0 := Blk.new w 32 #[.string ⟨#[]⟩, .int .i64 0]
  go_enter Try.func28, Try.ntmps28
  go_wp2_with fail
  refine (open_any _ A n c hn hc h0).mono ?_
  rintro e w1 ⟨rfl, h1, hb1⟩
  simp only [size_of_alloc] at h1 hb1
  have hz1 := hb1.size
  have hg1 := h1.lt
  simp only [size_of_alloc] at hz1
  go_wp2_with fail
  refine (names_any _ _ _ _ 9 h1 (by omega) (by omega) (by omega)).mono ?_
  rintro e w2 ⟨A2, n2, c2, ps, rfl, hl, h9, hsh, ho, h2, hg2⟩
  have HB := Lib.hid (show Below w.heap.size w w2 from (((Below.refl w.heap.size w).alloc (Nat.le_refl _) (.cells #[.string ⟨#[]⟩, .int .i64 0] 32)).trans (hb1.mono (by omega))).trans (Below.of_grown hg2 (by omega) (by omega)))
  have HL := Lib.hid (And.intro hl (And.intro h9 (And.intro (ho.capn hl) hsh)))
  have HR := Lib.hid (show Blk w2 w.heap.size 32 #[.string ⟨#[]⟩, .int .i64 0] from (hR0.below hb1 (by omega)).grown hg2 (by intro e; injection e with e; omega))
  have HS : RowKit.Hid (NDSt w1 (w.heap.size + 1) (w.heap.size + 1) _ ps (.slice A2 n2 c2) w2) := Lib.hid ⟨ho, h2, hg2, hg1⟩
  clear h h0 h1 h2 hb1 hg2 hl ho hsh hR0
  go_wp2_with fail
  refine (text_any _ _ _ _ 9 HS.out.2.1 (by omega) (by omega) (by omega)).mono ?_
  rintro e w3 ⟨s, rfl, hs9, h3, hg3⟩
  replace HS := Lib.hid (HS.out.grown hg3 h3)
  replace HR := Lib.hid (HR.out.grown hg3 (by intro e; injection e with e; omega))
  replace HB := Lib.hid (HB.out.trans (Below.of_grown hg3 (by omega) HB.out.size))
  clear h3 hg3
  go_wp2_with fail
  refine (pick_lt _ _ _ _ _ HS.out.2.1 (by omega) (by omega)).mono ?_
  rintro e w4 ⟨x4, rfl, u4, v4, h4, hg4⟩
  replace HS := Lib.hid (HS.out.grown hg4 h4)
  replace HR := Lib.hid (HR.out.grown hg4 (by intro e; injection e with e; omega))
  replace HB := Lib.hid (HB.out.trans (Below.of_grown hg4 (by omega) HB.out.size))
  clear h4 hg4
  go_wp2_with fail
  refine (pick_lt _ _ _ _ _ HS.out.2.1 (by omega) (by omega)).mono ?_
  rintro e w5 ⟨x5, rfl, u5, v5, h5, hg5⟩
  replace HS := Lib.hid (HS.out.grown hg5 h5)
  replace HR := Lib.hid (HR.out.grown hg5 (by intro e; injection e with e; omega))
  replace HB := Lib.hid (HB.out.trans (Below.of_grown hg5 (by omega) HB.out.size))
  clear h5 hg5
  obtain ⟨y, rfl⟩ := Int.eq_ofNat_of_zero_le u5
  have b0 : w5.cell? ⟨w.heap.size, 0, none⟩ = some (.string ⟨#[]⟩) := HR.out.cell 0
  have b1 : w5.cell? ⟨w.heap.size, 1, none⟩ = some (.int .i64 0) := HR.out.cell 1
  have f0 := HR.out.frozen 0
  have f1 := HR.out.frozen 1
  have hsep : ∀ g, (Value.slice A2 n2 c2).ownBlock = some g → w.heap.size < g := fun g e => by have := (HS.out.1.lt g e).1; omega
  have HO := Lib.hid hsep
  clear hsep
  go_wp2
  have hne : (Value.slice A2 n2 c2).ownBlock ≠ some w.heap.size := fun e => by have := HO.out _ e; omega
  exact bodyPost_ret (v := .tuple #[.slice A2 n2 c2, .agg #[.string s, .int .i64 (x4 - (y : Int) / 13)]]) (by simp [results, Try.results28, go_sem, *]) rfl
    ⟨_, _, _, ps, s, _, rfl, HL.out.1, HL.out.2.1, HL.out.2.2.1.1, HL.out.2.2.1.2, hs9, HL.out.2.2.2, ((HS.out.1.to_put (p := ⟨w.heap.size, 0, none⟩) hne _).to_put (p := ⟨w.heap.size, 1, none⟩) hne _).row, (HB.out.setCell (Nat.le_refl _) _).setCell (Nat.le_refl _) _⟩
end Go.Proofs.Ytengcjglkcmkbaa
