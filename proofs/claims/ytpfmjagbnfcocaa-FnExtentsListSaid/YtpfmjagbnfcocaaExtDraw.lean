/- What the model draws for chapter 9: numbers that often follow each other, extents. -/
import Derived.Test.YtpfmjagbnfcocaaExts
import Derived.Test.YtpfmjagbnfcocaaFiles
namespace Go.Proofs.Ytpfmjagbnfcocaa
open Go.ChangeShapes Go.WideShapes Go.ChangeAt Go.RowKit
set_option linter.unusedVariables false
set_option linter.unusedSimpArgs false

theorem grown_joinG {a b c : World} {g : Nat} {row : Option Nat} (h : a.grownBy b (some g)) (k : b.grownBy c row) (hr : ∀ i, row = some i → a.heap.size ≤ i) : a.grownBy c (some g) :=
  ⟨k.os.trans h.os, k.tape.trans h.tape, k.output.trans h.output, Nat.le_trans h.size k.size, fun i hi hne => (k.block i (Nat.lt_of_lt_of_le hi h.size) (by intro e; have := hr i e.symm; omega)).trans (h.block i hi hne)⟩
/-- Numbers of the call's own while a reader in block g is read. -/
def NSt (w : World) (B g Q : Nat) (xs : List Int) (u : Value) (wr : World) : Prop := IOwn wr w.heap.size u xs ∧ Rd wr B g Q ∧ w.grownBy wr (some g) ∧ g < w.heap.size
section
variable {w wr w' : World} {B g Q Q' : Nat} {xs : List Int} {u : Value}
theorem NSt.grown (H : NSt w B g Q xs u wr) (hg : wr.grownBy w' (some g)) (hr : Rd w' B g Q') : NSt w B g Q' xs u w' :=
  ⟨VOwn.kept H.1 hg (by
    cases h : u.ownBlock with
    | none => exact .inl rfl
    | some k => refine .inr fun e => ?_; have h1 := (VOwn.lt H.1 k h).1; have h2 := H.2.2.2; injection e with e; omega), hr, grown_trans H.2.2.1 hg, H.2.2.2⟩
theorem NSt.kept (H : NSt w B g Q xs u wr) (hk : wr.grownBy w' none) : NSt w B g Q xs u w' := H.grown (grown_some hk) (H.2.1.grown hk (by intro k e; cases e))
theorem NSt.push (x : Int) (H : NSt w B g Q xs u wr) (hn : xs.length ≤ 1000000) :
    ∃ u' w', (∀ ty, (Builtin.append_ #[30, 30] ty #[u, .slice (some ⟨wr.heap.size, 0, none⟩) 1 1]).run Try.prog (wr.alloc (.cells #[.int .i64 x] 3)) = .ok u' w') ∧ NSt w B g Q (xs ++ [x]) u' w' := by
  obtain ⟨u', w2, hrun, h2, hg2⟩ := push_int (wr := w) x H.1 H.2.2.1.size hn
  have K1 := grown_alloc (grown_refl wr none) (.cells #[.int .i64 x] 3)
  have hB := H.2.1.le
  exact ⟨u', w2, hrun, h2, (H.2.1.grown K1 (by intro k e; cases e)).grown hg2 (fun k e => by have h1 := (VOwn.lt H.1 k e).1; have h2 := H.2.2.2; omega), grown_joinG (grown_trans H.2.2.1 (grown_some K1)) hg2 (fun k e => (VOwn.lt H.1 k e).1), H.2.2.2⟩
end
/-- Numbers are drawn. -/
def DrewInts (w : World) (B g P : Nat) (e : Ending) (w' : World) : Prop :=
  ∃ (A : Option Addr) (n c : Nat) (xs : List Int), e = .returned (.slice A n c) ∧ xs.length = n ∧ n ≤ 14 ∧ (∀ x, x ∈ xs → -1 ≤ x ∧ x ≤ 1000001) ∧ IOwn w' w.heap.size (.slice A n c) xs ∧ Rd w' B g P ∧ w.grownBy w' (some g)
theorem lit2 (z : Nat) (h : z < 2) (a b : Int) : ∃ v : Int, (#[Value.int .i64 a, .int .i64 b] : Array Value)[z]? = some (.int .i64 v) ∧ (v = a ∨ v = b) := by
  match z, h with
  | 0, _ => exact ⟨a, rfl, .inl rfl⟩
  | 1, _ => exact ⟨b, rfl, .inr rfl⟩
set_option maxHeartbeats 2000000 in
theorem numbers_any (w : World) (B g P : Nat) (N : Int) (h : Rd w B g P) (hP : P ≤ 100000) (hN : 0 ≤ N) (hN2 : N ≤ 1000000000000) :
    Calls Try.prog 41 #[.pointer (some ⟨g, 0, none⟩), .int .i64 N] w (DrewInts w B g (P + 60)) := by
  have hg := h.lt
  have HS : RowKit.Hid (NSt w B g P [] (.slice (some ⟨w.heap.size, 0, none⟩) 0 0) (w.alloc (.cells #[] 3))) := Lib.hid ⟨iown_lit0 w w.heap.size (Nat.le_refl _), h.alloc _, grown_alloc (grown_refl _ _) _, hg⟩
  clear h
  go_enter Try.func41, Try.ntmps41
  go_wp2_with fail
  refine (pick_lt _ _ _ _ _ HS.out.2.1 (by omega) (by omega)).mono ?_
  rintro e w1 ⟨x1, rfl, u1, v1, h1, hg1⟩
  replace HS := Lib.hid (HS.out.grown hg1 h1)
  clear h1 hg1
  go_wp2_with fail
  refine (pick_lt _ _ _ _ _ HS.out.2.1 (by omega) (by omega)).mono ?_
  rintro e w2 ⟨x2, rfl, u2, v2, h2, hg2⟩
  replace HS := Lib.hid (HS.out.grown hg2 h2)
  clear h2 hg2
  obtain ⟨k0, rfl⟩ := Int.eq_ofNat_of_zero_le u2
  go_wp2
  go_loopw [5, 6, 7] (fun u a i wr => ∃ (k Q : Nat) (xs : List Int) (x : Int), i = .int .i64 k ∧ a = .int .i64 x ∧ k ≤ 13 ∧ xs.length + k ≤ 13 ∧ 0 ≤ x ∧ x ≤ 60 + 13 - (k : Int) ∧ (∀ y, y ∈ xs → 0 ≤ y ∧ y ≤ 80) ∧ Q + 3 * k ≤ P + 45 ∧ NSt w B g Q xs u wr) (fun _ _ i _ => (intOf i).toNat)
  case atStart => exact ⟨k0, P + 1 + 1, [], x1, rfl, rfl, by omega, by simp; omega, by omega, by omega, by simp, by omega, HS.out⟩
  case round =>
    rename World => wq
    obtain ⟨k, Q, xs, x, rfl, rfl, hk, hlen, hx0, hx1, hxs, hQ, hS⟩ := hrel
    clear HS
    have HS := Lib.hid hS
    have HX := Lib.hid (And.intro hxs hlen)
    clear hS hxs
    by_cases hk0 : k = 0
    · subst hk0
      rcases (show N = 0 ∨ 1 ≤ N by omega) with rfl | hN1
      · go_wp2_with fail
        refine (odd_zero _ _).mono ?_
        rintro e w3 ⟨rfl, rfl⟩
        obtain ⟨Au, cu, rfl⟩ := IOwn.slice HS.out.1
        go_wp2
        go_ret
        exact ⟨_, _, _, xs, rfl, rfl, by have := HX.out.2; omega, fun y hy => by have := HX.out.1 y hy; omega, HS.out.1, HS.out.2.1.more (by omega), HS.out.2.2.1⟩
      · go_wp2_with fail
        refine (odd_any _ _ _ _ _ HS.out.2.1 (by omega) hN1 hN2).mono ?_
        rintro e w3 ⟨q, rfl, h3, hg3⟩
        replace HS := Lib.hid (HS.out.grown hg3 h3)
        clear h3 hg3
        cases q
        · obtain ⟨Au, cu, rfl⟩ := IOwn.slice HS.out.1
          go_wp2
          go_ret
          exact ⟨_, _, _, xs, rfl, rfl, by have := HX.out.2; omega, fun y hy => by have := HX.out.1 y hy; omega, HS.out.1, HS.out.2.1.more (by omega), HS.out.2.2.1⟩
        · have hL := Blk.new w3 3 #[.int .i64 (-1), .int .i64 1000001]
          have HL := Lib.hid hL
          have hlt := HS.out.2.1.lt
          replace HS := Lib.hid (HS.out.kept (grown_alloc (grown_refl w3 none) (.cells #[.int .i64 (-1), .int .i64 1000001] 3)))
          clear hL
          go_wp2_with fail
          refine (pick_lt _ _ _ _ _ HS.out.2.1 (by omega) (by omega)).mono ?_
          rintro e w4 ⟨x4, rfl, u4, v4, h4, hg4⟩
          obtain ⟨y, rfl⟩ := Int.eq_ofNat_of_zero_le u4
          obtain ⟨v, hv, hvv⟩ := lit2 y (by omega) (-1) 1000001
          have e4 : w4.cell? ⟨w3.heap.size, y, none⟩ = some (.int .i64 v) := ((HL.out.grown hg4 (by intro e; injection e with e; omega)).cell y).trans hv
          replace HS := Lib.hid (HS.out.grown hg4 h4)
          have y0 : decide ((0 : Int) ≤ y) = true := decide_eq_true (by omega)
          have y1 : (y : Int) < 2 := by omega
          obtain ⟨u', w5, hrun, hz⟩ := HS.out.push v (by have := HX.out.2; omega)
          have HZ := Lib.hid hz
          have HRUN := Lib.hid hrun
          have HVV := Lib.hid hvv
          clear h4 hg4 hv hz hrun HL hvv
          go_wp2_with (at_builtin; refine wpList_append_run _ rfl (.tmp 31) (.tmp 37) _ _ rfl _ _ rfl rfl HRUN.out ?_)
          obtain ⟨Au, cu, rfl⟩ := IOwn.slice HZ.out.1
          go_ret
          exact ⟨_, _, _, xs ++ [v], rfl, rfl, by have := HX.out.2; rw [List.length_append]; simp; omega, fun y' hy => by
            rcases List.mem_append.1 hy with hy | hy
            · have := HX.out.1 y' hy; omega
            · simp at hy; subst hy; rcases HVV.out with rfl | rfl <;> omega, HZ.out.1, HZ.out.2.1.more (by omega), HZ.out.2.2.1⟩
    · obtain ⟨k, rfl⟩ : ∃ j, k = j + 1 := ⟨k - 1, by omega⟩
      have k1 : decide ((0 : Int) < ((k + 1 : Nat) : Int)) = true := decide_eq_true (by omega)
      have k2 : (0 : Int) < ((k + 1 : Nat) : Int) := by omega
      obtain ⟨u', w5, hrun, hz⟩ := HS.out.push x (by omega)
      have HZ := Lib.hid hz
      have HRUN := Lib.hid hrun
      clear hz hrun
      go_wp2_with (first | (at_builtin; refine wpList_append_run _ rfl (.tmp 17) (.tmp 19) _ _ rfl _ _ rfl rfl HRUN.out ?_) | fail)
      refine (pick_lt _ _ _ _ _ HZ.out.2.1 (by omega) (by omega)).mono ?_
      rintro e w6 ⟨x6, rfl, u6, v6, h6, hg6⟩
      replace HZ := Lib.hid (HZ.out.grown hg6 h6)
      have HY := Lib.hid (show ∀ y, y ∈ xs ++ [x] → 0 ≤ y ∧ y ≤ 80 from fun y hy => by
        rcases List.mem_append.1 hy with hy | hy
        · exact HX.out.1 y hy
        · simp at hy; subst hy; omega)
      clear h6 hg6
      by_cases hz0 : x6 = 0
      · subst hz0
        go_wp2_with fail
        refine (pick_lt _ _ _ _ _ HZ.out.2.1 (by omega) (by omega)).mono ?_
        rintro e w7 ⟨x7, rfl, u7, v7, h7, hg7⟩
        replace HZ := Lib.hid (HZ.out.grown hg7 h7)
        clear h7 hg7
        go_wp2
        go_roundw
        case rel => exact ⟨k, Q + 1 + 1, xs ++ [x], x7, by go_num, rfl, by omega, by rw [List.length_append]; simp; omega, by omega, by omega, HY.out, by omega, HZ.out⟩
        case measure => simp [intOf]
      · have z1 : (x6 == 0) = false := by rw [beq_eq_false_iff_ne]; exact hz0
        go_wp2
        go_roundw
        case rel => exact ⟨k, Q + 1, xs ++ [x], x + 1, by go_num, by go_num, by omega, by rw [List.length_append]; simp; omega, by omega, by omega, HY.out, by omega, HZ.out⟩
        case measure => simp [intOf]
/-- Extents of the call's own while a reader in block g is read. -/
def PSt2 (w : World) (B g Q : Nat) (ps : List Pr) (u : Value) (wr : World) : Prop := POwn wr w.heap.size 27 u ps ∧ Rd wr B g Q ∧ w.grownBy wr (some g) ∧ g < w.heap.size
section
variable {w wr w' : World} {B g Q Q' : Nat} {ps : List Pr} {u : Value}
theorem PSt2.grown (H : PSt2 w B g Q ps u wr) (hg : wr.grownBy w' (some g)) (hr : Rd w' B g Q') : PSt2 w B g Q' ps u w' :=
  ⟨POwn.kept H.1 hg (by
    cases h : u.ownBlock with
    | none => exact .inl rfl
    | some k => refine .inr fun e => ?_; have h1 := (POwn.lt H.1 k h).1; have h2 := H.2.2.2; injection e with e; omega), hr, grown_trans H.2.2.1 hg, H.2.2.2⟩
theorem PSt2.kept (H : PSt2 w B g Q ps u wr) (hk : wr.grownBy w' none) : PSt2 w B g Q ps u w' := H.grown (grown_some hk) (H.2.1.grown hk (by intro k e; cases e))
theorem PSt2.push (a b : Int) (H : PSt2 w B g Q ps u wr) (hn : ps.length < 1048576) :
    ∃ u' w', (∀ ty, (Builtin.append_ #[23, 23] ty #[u, .slice (some ⟨wr.heap.size, 0, none⟩) 1 1]).run Try.prog (wr.alloc (.cells #[.int .i64 a, .int .i64 b] 27)) = .ok u' w') ∧ PSt2 w B g Q (ps ++ [⟨a, b⟩]) u' w' := by
  obtain ⟨u', w2, hrun, h2, hg2⟩ := push_extent (base := w.heap.size) a b H.1 H.2.2.1.size hn
  have K1 := grown_alloc (grown_refl wr none) (.cells #[.int .i64 a, .int .i64 b] 27)
  have hB := H.2.1.le
  exact ⟨u', w2, hrun, h2, (H.2.1.grown K1 (by intro k e; cases e)).grown hg2 (fun k e => by have h1 := (POwn.lt H.1 k e).1; have h2 := H.2.2.2; omega), grown_joinG (grown_trans H.2.2.1 (grown_some K1)) hg2 (fun k e => (POwn.lt H.1 k e).1), H.2.2.2⟩
end
/-- Extents are drawn. -/
def DrewExts (w : World) (B g P : Nat) (e : Ending) (w' : World) : Prop :=
  ∃ (A : Option Addr) (n c : Nat) (ps : List Pr), e = .returned (.slice A n c) ∧ ps.length = n ∧ n ≤ 9 ∧ POwn w' w.heap.size 27 (.slice A n c) ps ∧ Rd w' B g P ∧ w.grownBy w' (some g)
theorem lit44 (z : Nat) (h : z < 4) : ∃ a b : Int, (#[Value.int .i64 0, .int .i64 0, .int .i64 (-1), .int .i64 1, .int .i64 5, .int .i64 41, .int .i64 1000001, .int .i64 1] : Array Value)[z * 2]? = some (.int .i64 a) ∧ (#[Value.int .i64 0, .int .i64 0, .int .i64 (-1), .int .i64 1, .int .i64 5, .int .i64 41, .int .i64 1000001, .int .i64 1] : Array Value)[z * 2 + 1]? = some (.int .i64 b) := by
  match z, h with
  | 0, _ => exact ⟨0, 0, rfl, rfl⟩
  | 1, _ => exact ⟨-1, 1, rfl, rfl⟩
  | 2, _ => exact ⟨5, 41, rfl, rfl⟩
  | 3, _ => exact ⟨1000001, 1, rfl, rfl⟩
set_option maxHeartbeats 2000000 in
theorem exts_any (w : World) (B g P : Nat) (N : Int) (h : Rd w B g P) (hP : P ≤ 90000) (hN : 1 ≤ N) (hN2 : N ≤ 1000000000000) :
    Calls Try.prog 35 #[.pointer (some ⟨g, 0, none⟩), .int .i64 N] w (DrewExts w B g (P + 70)) := by
  have hg := h.lt
  have H0 := Lib.hid h
  clear h
  go_enter Try.func35, Try.ntmps35
  go_wp2_with fail
  refine (numbers_any _ _ _ _ _ H0.out (by omega) (by omega) (by omega)).mono ?_
  rintro e w1 ⟨A1, n1, c1, xs, rfl, hl1, h14, hx, ho, h1, hg1⟩
  have HN := Lib.hid (And.intro hl1 (And.intro hx (And.intro (VOwn.row ho) (And.intro h1 hg1))))
  have hz1 := hg1.size
  clear hl1 hx ho h1 hg1 H0
  go_wp2_with fail
  refine (specExtOf_any A1 n1 c1 xs w1 HN.out.1 HN.out.2.2.1 (by omega) (fun x hx => by have := HN.out.2.1 x hx; omega)).mono ?_
  rintro e w2 ⟨A2, n2, c2, rfl, hl2, ho2, hk2⟩
  obtain ⟨ps, hps⟩ : ∃ ps, (exOfV xs).1 = ps := ⟨_, rfl⟩
  have h8 := exOfV_le xs
  rw [hps] at hl2 ho2 h8
  have HS : RowKit.Hid (PSt2 w B g (P + 60) ps (.slice A2 n2 c2) w2) := Lib.hid ⟨ho2.base_le hz1, HN.out.2.2.2.1.grown hk2 (by intro k e; cases e), grown_trans HN.out.2.2.2.2 (grown_some hk2), hg⟩
  have HL := Lib.hid (And.intro hl2 h8)
  obtain ⟨ok, hok⟩ : ∃ ok, (exOfV xs).2 = ok := ⟨_, rfl⟩
  rw [hok]
  clear hl2 ho2 h8 hk2 hps hok
  go_wp2_with fail
  refine (odd_any _ _ _ _ _ HS.out.2.1 (by omega) hN hN2).mono ?_
  rintro e w3 ⟨q, rfl, h3, hg3⟩
  replace HS := Lib.hid (HS.out.grown hg3 h3)
  clear h3 hg3
  cases q
  · go_wp2
    go_ret
    exact ⟨_, _, _, ps, rfl, HL.out.1, by have := HL.out.2; have := HL.out.1; omega, HS.out.1, HS.out.2.1.more (by omega), HS.out.2.2.1⟩
  · have hL := Blk.new w3 27 #[.int .i64 0, .int .i64 0, .int .i64 (-1), .int .i64 1, .int .i64 5, .int .i64 41, .int .i64 1000001, .int .i64 1]
    have HLit := Lib.hid hL
    have hlt := HS.out.2.1.lt
    replace HS := Lib.hid (HS.out.kept (grown_alloc (grown_refl w3 none) (.cells #[.int .i64 0, .int .i64 0, .int .i64 (-1), .int .i64 1, .int .i64 5, .int .i64 41, .int .i64 1000001, .int .i64 1] 27)))
    clear hL
    go_wp2_with fail
    refine (pick_lt _ _ _ _ _ HS.out.2.1 (by omega) (by omega)).mono ?_
    rintro e w4 ⟨x4, rfl, u4, v4, h4, hg4⟩
    obtain ⟨y, rfl⟩ := Int.eq_ofNat_of_zero_le u4
    obtain ⟨va, vb, hva, hvb⟩ := lit44 y (by omega)
    have hL4 := HLit.out.grown hg4 (by intro e; injection e with e; omega)
    have e4 : w4.cell? ⟨w3.heap.size, y * 2, none⟩ = some (.int .i64 va) := (hL4.cell (y * 2)).trans hva
    have e5 : w4.cell? ⟨w3.heap.size, y * 2 + 1, none⟩ = some (.int .i64 vb) := (hL4.cell (y * 2 + 1)).trans hvb
    replace HS := Lib.hid (HS.out.grown hg4 h4)
    have y0 : decide ((0 : Int) ≤ y) = true := decide_eq_true (by omega)
    have y1 : (y : Int) < 4 := by omega
    obtain ⟨u', w5, hrun, hz⟩ := HS.out.push va vb (by have := HL.out.2; omega)
    have HZ := Lib.hid hz
    have HRUN := Lib.hid hrun
    clear h4 hg4 hva hvb hz hrun HLit hL4
    go_wp2_with (at_builtin; refine wpList_append_run _ rfl (.tmp 16) (.tmp 26) _ _ rfl _ _ rfl rfl HRUN.out ?_)
    obtain ⟨Au, cu, rfl⟩ := HZ.out.1.slice
    go_ret
    exact ⟨_, _, _, ps ++ [⟨va, vb⟩], rfl, rfl, by have := HL.out.2; rw [List.length_append]; simp; omega, HZ.out.1, HZ.out.2.1.more (by omega), HZ.out.2.2.1⟩
/-- Extents that were drawn out of a code, while a law walks on. -/
def LE (w : World) (A : Option Addr) (ps : List Pr) (wr : World) : Prop := PRow wr wr.heap.size A ps ∧ Below w.heap.size w wr
theorem LE.keep {w wr w' : World} {A : Option Addr} {ps : List Pr} (h : LE w A ps wr) (k : wr.grownBy w' none) : LE w A ps w' := ⟨h.1.keepN k, Below.and_kept h.2 k⟩
def ExtsDrawn (w : World) (e : Ending) (w' : World) : Prop := ∃ (A : Option Addr) (n c : Nat) (ps : List Pr), e = .returned (.slice A n c) ∧ ps.length = n ∧ n ≤ 9 ∧ n ≤ c ∧ c ≤ maxLen ∧ LE w A ps w'
def NumsDrawn (w : World) (e : Ending) (w' : World) : Prop := ∃ (A : Option Addr) (n c : Nat) (xs : List Int), e = .returned (.slice A n c) ∧ xs.length = n ∧ n ≤ 14 ∧ (∀ x, x ∈ xs → -1 ≤ x ∧ x ≤ 1000001) ∧ IRow w' w'.heap.size A xs ∧ Below w.heap.size w w'
theorem drawExtentsValid_any (w : World) (A : Option Addr) (n c : Nat) (hn : n ≤ c) (hc : c ≤ 9223372036854775807) (h : Bytes w w.heap.size A n) :
    Calls Try.prog 11 #[.slice A n c] w (ExtsDrawn w) := by
  go_enter Try.func11, Try.ntmps11
  go_wp2_with fail
  refine (open_any _ A n c hn hc h).mono ?_
  rintro e w1 ⟨rfl, h1, hb1⟩
  go_wp2_with fail
  refine (exts_any _ _ _ _ 2 h1 (by omega) (by omega) (by omega)).mono ?_
  rintro e w2 ⟨A2, n2, c2, ps, rfl, hl, h9, ho, h2, hg2⟩
  have HF := Lib.hid (And.intro (hb1.trans (Below.of_grown hg2 (by omega) hb1.size)) (And.intro hl (And.intro h9 (And.intro ho.row (ho.capn hl)))))
  clear h h1 h2 hb1 hg2 hl ho
  go_wp2
  go_ret
  exact ⟨_, _, _, ps, rfl, HF.out.2.1, HF.out.2.2.1, HF.out.2.2.2.2.1, HF.out.2.2.2.2.2, HF.out.2.2.2.1, HF.out.1⟩
theorem drawExtentsList_any (w : World) (A : Option Addr) (n c : Nat) (hn : n ≤ c) (hc : c ≤ 9223372036854775807) (h : Bytes w w.heap.size A n) :
    Calls Try.prog 21 #[.slice A n c] w (ExtsDrawn w) := by
  go_enter Try.func21, Try.ntmps21
  go_wp2_with fail
  refine (open_any _ A n c hn hc h).mono ?_
  rintro e w1 ⟨rfl, h1, hb1⟩
  go_wp2_with fail
  refine (exts_any _ _ _ _ 6 h1 (by omega) (by omega) (by omega)).mono ?_
  rintro e w2 ⟨A2, n2, c2, ps, rfl, hl, h9, ho, h2, hg2⟩
  have HF := Lib.hid (And.intro (hb1.trans (Below.of_grown hg2 (by omega) hb1.size)) (And.intro hl (And.intro h9 (And.intro ho.row (ho.capn hl)))))
  clear h h1 h2 hb1 hg2 hl ho
  go_wp2
  go_ret
  exact ⟨_, _, _, ps, rfl, HF.out.2.1, HF.out.2.2.1, HF.out.2.2.2.2.1, HF.out.2.2.2.2.2, HF.out.2.2.2.1, HF.out.1⟩
theorem drawExtentsOf_any (w : World) (A : Option Addr) (n c : Nat) (hn : n ≤ c) (hc : c ≤ 9223372036854775807) (h : Bytes w w.heap.size A n) :
    Calls Try.prog 15 #[.slice A n c] w (NumsDrawn w) := by
  go_enter Try.func15, Try.ntmps15
  go_wp2_with fail
  refine (open_any _ A n c hn hc h).mono ?_
  rintro e w1 ⟨rfl, h1, hb1⟩
  go_wp2_with fail
  refine (numbers_any _ _ _ _ 6 h1 (by omega) (by omega) (by omega)).mono ?_
  rintro e w2 ⟨A2, n2, c2, xs, rfl, hl, h14, hx, ho, h2, hg2⟩
  have HF := Lib.hid (And.intro (hb1.trans (Below.of_grown hg2 (by omega) hb1.size)) (And.intro hl (And.intro h14 (And.intro hx (VOwn.row ho)))))
  clear h h1 h2 hb1 hg2 hl ho hx
  go_wp2
  go_ret
  exact ⟨_, _, _, xs, rfl, HF.out.2.1, HF.out.2.2.1, HF.out.2.2.2.1, HF.out.2.2.2.2, HF.out.1⟩
/-- Extents and a number are drawn. -/
def ExtAtDrawn (w : World) (e : Ending) (w' : World) : Prop := ∃ (A : Option Addr) (n c : Nat) (ps : List Pr) (x : Int), e = .returned (.tuple #[.slice A n c, .int .i64 x]) ∧ ps.length = n ∧ n ≤ 9 ∧ -20 ≤ x ∧ x ≤ 20 ∧ LE w A ps w'
theorem drawExtentAt_any (w : World) (A : Option Addr) (n c : Nat) (hn : n ≤ c) (hc : c ≤ 9223372036854775807) (h : Bytes w w.heap.size A n) :
    Calls Try.prog 23 #[.slice A n c] w (ExtAtDrawn w) := by
  go_enter Try.func23, Try.ntmps23
  go_wp2_with fail
  refine (open_any _ A n c hn hc h).mono ?_
  rintro e w1 ⟨rfl, h1, hb1⟩
  have hz1 := hb1.size
  have hg1 := h1.lt
  go_wp2_with fail
  refine (exts_any _ _ _ _ 9 h1 (by omega) (by omega) (by omega)).mono ?_
  rintro e w2 ⟨A2, n2, c2, ps, rfl, hl, h9, ho, h2, hg2⟩
  have HB := Lib.hid (hb1.trans (Below.of_grown hg2 (by omega) hb1.size))
  have HS : RowKit.Hid (PSt2 w1 (w.heap.size) w.heap.size _ ps (.slice A2 n2 c2) w2) := Lib.hid ⟨ho, h2, hg2, hg1⟩
  have HL := Lib.hid (And.intro hl h9)
  clear h h1 h2 hb1 hg2 hl ho
  go_wp2_with fail
  refine (pick_lt _ _ _ _ _ HS.out.2.1 (by omega) (by omega)).mono ?_
  rintro e w3 ⟨x3, rfl, u3, v3, h3, hg3⟩
  replace HS := Lib.hid (HS.out.grown hg3 h3)
  replace HB := Lib.hid (HB.out.trans (Below.of_grown hg3 (by omega) HB.out.size))
  clear h3 hg3
  go_wp2_with fail
  refine (pick_lt _ _ _ _ _ HS.out.2.1 (by omega) (by omega)).mono ?_
  rintro e w4 ⟨x4, rfl, u4, v4, h4, hg4⟩
  replace HS := Lib.hid (HS.out.grown hg4 h4)
  replace HB := Lib.hid (HB.out.trans (Below.of_grown hg4 (by omega) HB.out.size))
  clear h4 hg4
  obtain ⟨y, rfl⟩ := Int.eq_ofNat_of_zero_le u4
  go_wp2
  exact bodyPost_ret (v := .tuple #[.slice A2 n2 c2, .int .i64 (x3 - (y : Int) / 13)]) (by simp [results, Try.results23, go_sem, *]) rfl ⟨_, _, _, ps, _, rfl, HL.out.1, HL.out.2, by omega, by omega, HS.out.1.row, HB.out⟩
end Go.Proofs.Ytpfmjagbnfcocaa
