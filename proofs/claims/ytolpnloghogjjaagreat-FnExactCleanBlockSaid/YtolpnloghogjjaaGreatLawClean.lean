/- Marks that leave blocks of other types alone; a device, a table and heads that one call has made, the latter two in variables.
   A region that calls with copies, and makes the variables of a table and heads at any place among the calls: what is known at each place. -/
import Derived.Test.YtolpnloghogjjaaGreatCleanSpec
import Derived.Test.YtolpnloghogjjaaGreatLawFiles
import Derived.Test.YtolpnloghogjjaaGreatExactHeads
import Derived.Test.YtolpnloghogjjaaGreatDag
namespace Go.Proofs.YtolpnloghogjjaaGreat
open Go.ChangeShapes Go.WideShapes Go.ChangeAt Go.RowKit

/-- Only blocks of this kind may have changed. -/
structure OutP (P : Nat → Prop) (w w' : World) : Prop where
  os : w'.os = w.os
  tape : w'.tape = w.tape
  output : w'.output = w.output
  size : w.heap.size ≤ w'.heap.size
  block : ∀ i, i < w.heap.size → ¬ P i → w'.heap[i]? = w.heap[i]?
theorem OutP.refl (P : Nat → Prop) (w : World) : OutP P w w := ⟨rfl, rfl, rfl, Nat.le_refl _, fun _ _ _ => rfl⟩
theorem OutP.trans {P : Nat → Prop} {a b c : World} (h : OutP P a b) (k : OutP P b c) : OutP P a c :=
  ⟨k.os.trans h.os, k.tape.trans h.tape, k.output.trans h.output, Nat.le_trans h.size k.size, fun i hi1 ho => (k.block i (Nat.lt_of_lt_of_le hi1 h.size) ho).trans (h.block i hi1 ho)⟩
theorem OutP.setCell {P : Nat → Prop} {a w : World} (h : OutP P a w) {p : Addr} (h1 : P p.block) (u : Value) : OutP P a (w.setCell p u) :=
  ⟨h.os, h.tape, h.output, by simpa [World.setCell] using h.size, fun i hi1 ho => (Below.heap_setCell w p u i (fun e => ho (by rw [e]; exact h1))).trans (h.block i hi1 ho)⟩
theorem OutP.of_grown {P : Nat → Prop} {w w' : World} {row : Option Nat} (h : w.grownBy w' row) (hr : ∀ g, row = some g → P g) : OutP P w w' :=
  ⟨h.os, h.tape, h.output, h.size, fun i hi1 ho => h.block i hi1 (fun e => ho (hr i e.symm))⟩
theorem OutP.out {P : Nat → Prop} {lo hi : Nat} {w w' : World} (h : OutP P w w') (hp : ∀ i, P i → lo ≤ i ∧ i < hi) : Out lo hi w w' :=
  ⟨h.os, h.tape, h.output, h.size, fun i hi1 ho => h.block i hi1 (fun e => by have := hp i e; omega)⟩
theorem markBlockS_P (P : Nat → Prop) (g n c base : Nat) (bs : List Bk) (w : World) (hl : bs.length = n) (ho : DOwn w base (.slice (some ⟨g, 0, none⟩) n c) bs) (hd : P g ∧ ∀ (b : Bk) (a : Addr), b ∈ bs → b.A = some a → P a.block) (hn : n ≤ 1048576) (ht : tot bs ≤ 1048576) :
    Calls Tryz.prog 24 #[.slice (some ⟨g, 0, none⟩) n c, .int .i64 1] w fun e w' => e = .returned (.int .i64 ((endK 1 bs : Nat) : Int)) ∧ DOwn w' base (.slice (some ⟨g, 0, none⟩) n c) (markL 1 bs) ∧ OutP P w w' := by
  subst hl
  have HO := Lib.hid ho
  have HD := Lib.hid hd
  clear ho hd
  go_enter Tryz.func24, Tryz.ntmps24
  go_wp2
  go_loopw [1, 5] (fun t i wr => ∃ (k K : Nat), i = .int .i64 k ∧ t = .int .i64 K ∧ k ≤ bs.length ∧ K = endK 1 (bs.take k) ∧ DOwn wr base (.slice (some ⟨g, 0, none⟩) bs.length c) (markD 1 bs k) ∧ OutP P w wr) (fun _ i _ => bs.length - (intOf i).toNat)
  case atStart => exact ⟨0, 1, rfl, rfl, Nat.zero_le _, by simp [endK, tot], by rw [markD_zero]; exact HO.out, OutP.refl _ _⟩
  case round =>
    obtain ⟨k, K, rfl, rfl, hkn, hK, hown, hg⟩ := hrel
    clear HO
    by_cases hlt : k < bs.length
    · have hKb : K ≤ 10000000 := by
        have h1 := tot_take_le bs k
        rw [hK]; unfold endK; rw [List.length_take]; omega
      obtain ⟨b, hb⟩ : ∃ b, bs[k]? = some b := ⟨_, List.getElem?_eq_getElem hlt⟩
      have hbt := tot_le (List.mem_of_getElem? hb)
      have hb2 := markD_at (K := 1) hb
      have hml := markD_length (K := 1) (bs := bs) (k := k) (by omega)
      obtain ⟨d0, d1⟩ := hown.at_ hml hb2
      have f0 := hown.frozen hml (k * 2)
      have hW := hown.wear hml hb2 (K : Int)
      have hW2 : ((markD 1 bs k).set k ⟨(K : Int), b.A, b.c, b.ps⟩)[k]? = some ⟨(K : Int), b.A, b.c, b.ps⟩ := List.getElem?_set_self (by omega)
      have hP : Own (wr.setCell ⟨g, k * 2, none⟩ (.int .i64 (K : Int))) base (.slice b.A b.ps.length b.c) b.ps := hW.2.1 ⟨(K : Int), b.A, b.c, b.ps⟩ (List.mem_of_getElem? hW2)
      have HX := Lib.hid (And.intro hg (And.intro hb (And.intro hbt (And.intro hK (And.intro hW (And.intro hW2 hP))))))
      clear hg hb hbt hK hW hW2 hP hown hb2 hml
      go_wp2_with fail
      refine (markPageS_any _ _ _ (K + 1) _ _ _ rfl HX.out.2.2.2.2.2.2 (by have := HX.out.2.2.1; omega) (by omega)).mono ?_
      rintro e w2 ⟨rfl, ho2, hk2⟩
      have hD2 := HX.out.2.2.2.2.1.pages HX.out.2.2.2.2.2.1 (marks_length _ _) ho2 hk2
      rw [List.set_set] at hD2
      have hst := markD_step (K := 1) HX.out.2.1
      rw [← HX.out.2.2.2.1] at hst
      rw [hst] at hD2
      have hO2 := (HX.out.1.setCell (p := ⟨g, k * 2, none⟩) HD.out.1 (.int .i64 (K : Int))).trans (OutP.of_grown hk2 (fun g' e => by
        cases hA : b.A with
        | none => rw [hA] at e; simp [Value.ownBlock] at e
        | some a =>
          rw [hA] at e
          simp only [Value.ownBlock, Option.some.injEq] at e
          rw [← e]
          exact HD.out.2 b a (List.mem_of_getElem? HX.out.2.1) hA))
      have HY := Lib.hid (And.intro hD2 hO2)
      clear ho2 hk2 hD2 hst hO2 d0 d1 f0
      go_wp2
      go_roundw
      case rel => exact ⟨k + 1, K + 1 + 5 * b.ps.length, by go_num, rfl, by omega, by rw [endK_step HX.out.2.1, ← HX.out.2.2.2.1], HY.out.1, HY.out.2⟩
      case measure => simp [intOf]; omega
    · obtain rfl : k = bs.length := by omega
      rw [markD_end] at hown
      have HX := Lib.hid (And.intro hg (And.intro hK hown))
      clear hg hK hown
      go_wp2
      go_ret
      exact ⟨retI (by rw [HX.out.2.1, List.take_length]), HX.out.2.2, HX.out.1⟩
theorem markLists_P (P : Nat → Prop) (K0 : Nat) (hK0 : K0 ≤ 7000000) (g n c base : Nat) (ls : List Li) (w : World) (hl : ls.length = n) (ho : TOwn w base (.slice (some ⟨g, 0, none⟩) n c) ls) (hd : P g ∧ ∀ (l : Li) (a : Addr), l ∈ ls → l.A = some a → P a.block) (hn : n ≤ 1048576) (ht : ltot (ll ls) ≤ 1048576) :
    Calls Tryz.prog 66 #[.slice (some ⟨g, 0, none⟩) n c, .int .i64 (K0 : Int)] w fun e w' => e = .returned (.int .i64 ((lend K0 ls : Nat) : Int)) ∧ TOwn w' base (.slice (some ⟨g, 0, none⟩) n c) (lmark K0 ls) ∧ OutP P w w' := by
  subst hl
  have HO := Lib.hid ho
  have HD := Lib.hid hd
  clear ho hd
  go_enter Tryz.func66, Tryz.ntmps66
  go_wp2
  go_loopw [1, 5] (fun t i wr => ∃ (k K : Nat), i = .int .i64 k ∧ t = .int .i64 K ∧ k ≤ ls.length ∧ K = lend K0 (ls.take k) ∧ TOwn wr base (.slice (some ⟨g, 0, none⟩) ls.length c) (markT K0 ls k) ∧ OutP P w wr) (fun _ i _ => ls.length - (intOf i).toNat)
  case atStart => exact ⟨0, K0, rfl, rfl, Nat.zero_le _, by simp [lend, ltot, ll], by rw [markT_zero]; exact HO.out, OutP.refl _ _⟩
  case round =>
    obtain ⟨k, K, rfl, rfl, hkn, hK, hown, hg⟩ := hrel
    clear HO
    by_cases hlt : k < ls.length
    · have hk8 : (k : Int) < ls.length := by omega
      have hk0 : decide ((0 : Int) ≤ k) = true := decide_eq_true (by omega)
      have hKb : K ≤ 10000000 := by
        have h1 := lend_le K0 ls k
        have h2 : lend K0 ls = K0 + ltot (ll ls) := rfl
        omega
      obtain ⟨l, hb⟩ : ∃ l, ls[k]? = some l := ⟨_, List.getElem?_eq_getElem hlt⟩
      have hbt := ltot_le (xss := ll ls) (List.mem_of_getElem? (ll_at hb))
      have hb2 := markT_at (K := K0) hb
      have hml := markT_length (K := K0) (ls := ls) (k := k) (by omega)
      have d0 := hown.at_ hml hb2
      have hP : IOwn wr base (.slice l.A l.xs.length l.c) l.xs := hown.2.1 l (List.mem_of_getElem? hb2)
      have HX := Lib.hid (And.intro hg (And.intro hb (And.intro hbt (And.intro hK (And.intro hown (And.intro hb2 hP))))))
      clear hg hb hbt hK hb2 hP hown hml
      go_wp2_with fail
      refine (markInts_any _ _ _ K _ _ _ rfl HX.out.2.2.2.2.2.2 (by have := HX.out.2.2.1; omega) (by omega)).mono ?_
      rintro e w2 ⟨rfl, ho2, hk2⟩
      have hD2 := HX.out.2.2.2.2.1.relist HX.out.2.2.2.2.2.1 (imarks_length _ _) ho2 hk2
      have hst := markT_step (K := K0) HX.out.2.1
      rw [← HX.out.2.2.2.1] at hst
      rw [hst] at hD2
      have hO2 := HX.out.1.trans (OutP.of_grown hk2 (fun g' e => by
        cases hA : l.A with
        | none => rw [hA] at e; simp [Value.ownBlock] at e
        | some a =>
          rw [hA] at e
          simp only [Value.ownBlock, Option.some.injEq] at e
          rw [← e]
          exact HD.out.2 l a (List.mem_of_getElem? HX.out.2.1) hA))
      have HY := Lib.hid (And.intro hD2 hO2)
      clear ho2 hk2 hD2 hst hO2 d0
      go_wp2
      go_roundw
      case rel => exact ⟨k + 1, K + l.xs.length, by go_num, rfl, by omega, by rw [lend_step HX.out.2.1, ← HX.out.2.2.2.1], HY.out.1, HY.out.2⟩
      case measure => simp [intOf]; omega
    · obtain rfl : k = ls.length := by omega
      rw [markT_end] at hown
      have HX := Lib.hid (And.intro hg (And.intro hK hown))
      clear hg hK hown
      go_wp2
      go_ret
      exact ⟨retI (by rw [HX.out.2.1, List.take_length]), HX.out.2.2, HX.out.1⟩
theorem heldLists_K (K0 : Nat) (hK0 : K0 ≤ 7000000) (A : Option Addr) (n c : Nat) (ls : List Li) (w : World) (hl : ls.length = n) (hr : TRow w w.heap.size A (lmark K0 ls)) (hn : n ≤ 1048576) (ht : ltot (ll ls) ≤ 1048576) :
    Calls Tryz.prog 68 #[.slice A n c, .int .i64 (K0 : Int)] w fun e w' => e = .returned (.int .i64 ((lend K0 ls : Nat) : Int)) ∧ w = w' := by
  subst hl
  have HR := Lib.hid hr
  clear hr
  go_enter Tryz.func68, Tryz.ntmps68
  go_wp2
  go_loop [1, 5] (fun t i => ∃ (k K : Nat), k ≤ ls.length ∧ K = lend K0 (ls.take k) ∧ i = .int .i64 k ∧ t = .int .i64 K) (fun _ i => ls.length - (intOf i).toNat)
  case atStart => exact ⟨0, K0, Nat.zero_le _, by simp [lend, ltot, ll], rfl, rfl⟩
  case round =>
    obtain ⟨k, K, hkn, hK, rfl, rfl⟩ := hrel
    have HK := Lib.hid hK
    by_cases hlt : k < ls.length
    · have hk8 : (k : Int) < ls.length := by omega
      have hk0 : decide ((0 : Int) ≤ k) = true := decide_eq_true (by omega)
      have hKb : K ≤ 10000000 := by
        have h1 := lend_le K0 ls k
        have h2 : lend K0 ls = K0 + ltot (ll ls) := rfl
        omega
      obtain ⟨l, hb⟩ : ∃ l, ls[k]? = some l := ⟨_, List.getElem?_eq_getElem hlt⟩
      have hbt := ltot_le (xss := ll ls) (List.mem_of_getElem? (ll_at hb))
      have hm := lmark_at (K := K0) hb
      rw [← hK] at hm
      obtain ⟨g, off, rfl⟩ := HR.out.pos (by rw [lmark_length]; omega)
      have c0 := HR.out.cellf hm (imarks_length _ _)
      have hin := HR.out.inner hm
      dsimp only at hin
      have HX := Lib.hid (And.intro hin (And.intro hb hbt))
      have t1 : decide (((K + l.xs.length : Nat) : Int) < 0) = false := decide_eq_false (by omega)
      clear hm hK hin hb hbt
      go_wp2_with (go_at_call 109; refine (heldInts_any _ _ _ K _ HX.out.1 (by have := HX.out.2.2; omega) (by omega)).mono ?_; rintro e w' ⟨rfl, rfl⟩)
      go_round
      case rel => exact ⟨k + 1, K + l.xs.length, by omega, by rw [lend_step HX.out.2.1, ← HK.out], by go_num, rfl⟩
      case measure => simp [intOf]; omega
    · obtain rfl : k = ls.length := by omega
      clear hK
      go_wp2
      go_ret
      exact ⟨retI (by rw [HK.out, List.take_length]), rfl⟩
section
variable {w w' : World} {base s n g V : Nat} {t t' : TypeId} {v : Value} {xs : List Value} {q q' : Array Value} {P : Nat → Prop}
theorem blk_type (h : Blk w V t q) (h' : Blk w V t' q') : t = t' := by
  unfold Blk at h h'
  rw [h'] at h
  injection h with h
  injection h with _ h2
  exact h2.symm
theorem own_blk' (h : w.ownsRow base t s v n xs) (e : v.ownBlock = some g) : ∃ q, Blk w g t q := by
  rcases h.2 with ⟨rfl, _⟩ | ⟨g', cap, cur, rfl, _, hh, _⟩
  · simp [Value.ownBlock] at e
  · simp only [Value.ownBlock, Option.some.injEq] at e
    subst e
    exact ⟨_, hh⟩
theorem ownsRow_outP (h : w.ownsRow base t s v n xs) (k : OutP P w w') (hv : ∀ g, v.ownBlock = some g → ¬ P g) : w'.ownsRow base t s v n xs := by
  refine ⟨h.1, ?_⟩
  rcases h.2 with hn | ⟨g, cap, cur, rfl, hb, hgg, rest⟩
  · exact .inl hn
  · exact .inr ⟨g, cap, cur, rfl, hb, by rw [k.block g (Array.getElem?_eq_some_iff.1 hgg).1 (hv g rfl)]; exact hgg, rest⟩
theorem Blk.outP (h : Blk w V t q) (k : OutP P w w') (hv : ¬ P V) : Blk w' V t q := (k.block V h.lt hv).trans h
end
/-- The blocks of devices, and those of tables, in a region of memory. -/
def DevP (w : World) (lo hi i : Nat) : Prop := (lo ≤ i ∧ i < hi) ∧ ((∃ q, Blk w i 45 q) ∨ ∃ q, Blk w i 72 q)
def TabP (w : World) (lo hi i : Nat) : Prop := (lo ≤ i ∧ i < hi) ∧ ((∃ q, Blk w i 36 q) ∨ ∃ q, Blk w i 3 q)
theorem not_dev {w : World} {lo hi i : Nat} {t : TypeId} {q : Array Value} (h : Blk w i t q) (h1 : t ≠ 45) (h2 : t ≠ 72) : ¬ DevP w lo hi i := by
  rintro ⟨_, ⟨q', h'⟩ | ⟨q', h'⟩⟩
  · exact h1 (blk_type h h')
  · exact h2 (blk_type h h')
theorem not_tab {w : World} {lo hi i : Nat} {t : TypeId} {q : Array Value} (h : Blk w i t q) (h1 : t ≠ 36) (h2 : t ≠ 3) : ¬ TabP w lo hi i := by
  rintro ⟨_, ⟨q', h'⟩ | ⟨q', h'⟩⟩
  · exact h1 (blk_type h h')
  · exact h2 (blk_type h h')
/-- A device, a table in a variable and heads in a variable: all their memory lies in blocks lo .. hi - 1. -/
def PK (w : World) (lo hi V G : Nat) (A : Option Addr) (n c : Nat) (cs : List Bk) (B : Option Addr) (m d : Nat) (ts : List Li) (a b h : Int) (wr : World) : Prop :=
  (DOwn wr lo (.slice A n c) cs ∧ cs.length = n ∧ TOwn wr lo (.slice B m d) ts ∧ ts.length = m) ∧ (Blk wr V 26 #[.slice B m d] ∧ Blk wr G 28 #[.int .i64 a, .int .i64 b, .int .i64 h]) ∧ ((lo ≤ V ∧ V < hi) ∧ (lo ≤ G ∧ G < hi)) ∧
  (((∀ a, A = some a → a.block < hi) ∧ ∀ (b : Bk) (a : Addr), b ∈ cs → b.A = some a → a.block < hi) ∧ ((∀ a, B = some a → a.block < hi) ∧ ∀ (l : Li) (a : Addr), l ∈ ts → l.A = some a → a.block < hi)) ∧ hi ≤ wr.heap.size ∧ w.heap.size ≤ lo ∧ w.grownBy wr none
section
variable {w wr w' : World} {lo hi lox hix V G n c m d : Nat} {A B : Option Addr} {cs : List Bk} {ts : List Li} {a b h : Int}
theorem PK.start (hG : w.grownBy wr none) (hlo : w.heap.size ≤ lo) (hd : DOwn wr lo (.slice A n c) cs) (hl : cs.length = n) (ht : TOwn wr lo (.slice B m d) ts) (htl : ts.length = m) (hV : Blk wr V 26 #[.slice B m d]) (hH : Blk wr G 28 #[.int .i64 a, .int .i64 b, .int .i64 h]) (h1 : lo ≤ V) (h2 : lo ≤ G) : PK w lo wr.heap.size V G A n c cs B m d ts a b h wr := by
  refine ⟨⟨hd, hl, ht, htl⟩, ⟨hV, hH⟩, ⟨⟨h1, hV.lt⟩, ⟨h2, hH.lt⟩⟩, ⟨⟨fun a e => ?_, fun b a hb e => ?_⟩, ⟨fun a e => ?_, fun l a hb e => ?_⟩⟩, Nat.le_refl _, hlo, hG⟩
  · exact (World.ownsRow.lt hd.1 a.block (by subst e; rfl)).2
  · exact (World.ownsRow.lt (hd.2.1 b hb) a.block (by simp [Bk.row, e, Value.ownBlock])).2
  · exact (VOwn.lt ht.1 a.block (by subst e; rfl)).2
  · exact (VOwn.lt (ht.2.1 l hb) a.block (by simp [Li.row, e, Value.ownBlock])).2
theorem PK.keep (H : PK w lo hi V G A n c cs B m d ts a b h wr) (k : wr.grownBy w' none) : PK w lo hi V G A n c cs B m d ts a b h w' :=
  ⟨⟨H.1.1.keep k, H.1.2.1, H.1.2.2.1.keep k, H.1.2.2.2⟩, ⟨H.2.1.1.keep k, H.2.1.2.keep k⟩, H.2.2.1, H.2.2.2.1, Nat.le_trans H.2.2.2.2.1 k.size, H.2.2.2.2.2.1, grown_trans H.2.2.2.2.2.2 k⟩
theorem PK.row (H : PK w lo hi V G A n c cs B m d ts a b h wr) : DRow wr wr.heap.size A cs := H.1.1.row
theorem PK.tab (H : PK w lo hi V G A n c cs B m d ts a b h wr) : TRow wr wr.heap.size B ts := H.1.2.2.1.row
theorem PK.cells (H : PK w lo hi V G A n c cs B m d ts a b h wr) : wr.cell? ⟨V, 0, none⟩ = some (.slice B m d) ∧ wr.cell? ⟨G, 0, none⟩ = some (.int .i64 a) ∧ wr.cell? ⟨G, 1, none⟩ = some (.int .i64 b) ∧ wr.cell? ⟨G, 2, none⟩ = some (.int .i64 h) := ⟨H.2.1.1.cell 0, cells3 H.2.1.2⟩
/-- Where each block of the device, and each of the table, lies. -/
theorem PK.devAt (H : PK w lo hi V G A n c cs B m d ts a b h wr) : (∀ g, (Value.slice A n c).ownBlock = some g → lo ≤ g ∧ g < hi) ∧ ∀ (q : Bk) (g : Nat), q ∈ cs → q.row.ownBlock = some g → lo ≤ g ∧ g < hi := by
  refine ⟨fun g e => ⟨(World.ownsRow.lt H.1.1.1 g e).1, ?_⟩, fun q g hq e => ⟨(World.ownsRow.lt (H.1.1.2.1 q hq) g e).1, ?_⟩⟩
  · cases hA : A with
    | none => rw [hA] at e; simp [Value.ownBlock] at e
    | some ad =>
      rw [hA] at e
      simp only [Value.ownBlock, Option.some.injEq] at e
      rw [← e]
      exact H.2.2.2.1.1.1 ad hA
  · cases hA : q.A with
    | none => simp [Bk.row, hA, Value.ownBlock] at e
    | some ad =>
      simp only [Bk.row, hA, Value.ownBlock, Option.some.injEq] at e
      rw [← e]
      exact H.2.2.2.1.1.2 q ad hq hA
theorem PK.tabAt (H : PK w lo hi V G A n c cs B m d ts a b h wr) : (∀ g, (Value.slice B m d).ownBlock = some g → lo ≤ g ∧ g < hi) ∧ ∀ (l : Li) (g : Nat), l ∈ ts → l.row.ownBlock = some g → lo ≤ g ∧ g < hi := by
  refine ⟨fun g e => ⟨(VOwn.lt H.1.2.2.1.1 g e).1, ?_⟩, fun l g hl e => ⟨(VOwn.lt (H.1.2.2.1.2.1 l hl) g e).1, ?_⟩⟩
  · cases hA : B with
    | none => rw [hA] at e; simp [Value.ownBlock] at e
    | some ad =>
      rw [hA] at e
      simp only [Value.ownBlock, Option.some.injEq] at e
      rw [← e]
      exact H.2.2.2.1.2.1 ad hA
  · cases hA : l.A with
    | none => simp [Li.row, hA, Value.ownBlock] at e
    | some ad =>
      simp only [Li.row, hA, Value.ownBlock, Option.some.injEq] at e
      rw [← e]
      exact H.2.2.2.1.2.2 l ad hl hA
theorem PK.marked (H : PK w lo hi V G A n c cs B m d ts a b h wr) (hd : hi ≤ lox ∨ hix ≤ lo) (hlo : w.heap.size ≤ lox) (k : Out lox hix wr w') : PK w lo hi V G A n c cs B m d ts a b h w' := by
  have h1 := H.devAt
  have h2 := H.tabAt
  obtain ⟨⟨v1, v2⟩, ⟨g1, g2⟩⟩ := H.2.2.1
  exact ⟨⟨⟨ownsRow_out H.1.1.1 k (fun g e => by have := h1.1 g e; omega), fun q hq => ownsRow_out (H.1.1.2.1 q hq) k (fun g e => by have := h1.2 q g hq e; omega), H.1.1.2.2⟩, H.1.2.1,
      ⟨ownsRow_out H.1.2.2.1.1 k (fun g e => by have := h2.1 g e; omega), fun l hl => ownsRow_out (H.1.2.2.1.2.1 l hl) k (fun g e => by have := h2.2 l g hl e; omega), H.1.2.2.1.2.2⟩, H.1.2.2.2⟩,
    ⟨H.2.1.1.outV k (by omega), H.2.1.2.outV k (by omega)⟩, H.2.2.1, H.2.2.2.1, Nat.le_trans H.2.2.2.2.1 k.size, H.2.2.2.2.2.1, k.grown H.2.2.2.2.2.2 hlo⟩
/-- The device is marked. -/
theorem PK.selfD (H : PK w lo hi V G A n c cs B m d ts a b h wr) (hd : DOwn w' lo (.slice A n c) (markL 1 cs)) (k : OutP (DevP wr lo hi) wr w') : PK w lo hi V G A n c (markL 1 cs) B m d ts a b h w' ∧ Out lo hi wr w' := by
  have ko : Out lo hi wr w' := k.out fun i hi => hi.1
  refine ⟨⟨⟨hd, by rw [markL_length]; exact H.1.2.1, ⟨ownsRow_outP H.1.2.2.1.1 k (fun g e => ?_), fun l hl => ownsRow_outP (H.1.2.2.1.2.1 l hl) k (fun g e => ?_), H.1.2.2.1.2.2⟩, H.1.2.2.2⟩,
    ⟨H.2.1.1.outP k (not_dev H.2.1.1 (by decide) (by decide)), H.2.1.2.outP k (not_dev H.2.1.2 (by decide) (by decide))⟩, H.2.2.1, ⟨⟨H.2.2.2.1.1.1, fun q ad hq e => ?_⟩, H.2.2.2.1.2⟩, Nat.le_trans H.2.2.2.2.1 k.size, H.2.2.2.2.2.1, ko.grown H.2.2.2.2.2.2 H.2.2.2.2.2.1⟩, ko⟩
  · obtain ⟨q, hq⟩ := own_blk' H.1.2.2.1.1 e
    exact not_dev hq (by decide) (by decide)
  · obtain ⟨q, hq⟩ := own_blk' (H.1.2.2.1.2.1 l hl) e
    exact not_dev hq (by decide) (by decide)
  · obtain ⟨q', h1, h2⟩ := markL_addr hq
    exact H.2.2.2.1.1.2 q' ad h1 (h2.trans e)
/-- The table is marked. -/
theorem PK.selfT {K : Nat} (H : PK w lo hi V G A n c cs B m d ts a b h wr) (ht : TOwn w' lo (.slice B m d) (lmark K ts)) (k : OutP (TabP wr lo hi) wr w') : PK w lo hi V G A n c cs B m d (lmark K ts) a b h w' ∧ Out lo hi wr w' := by
  have ko : Out lo hi wr w' := k.out fun i hi => hi.1
  refine ⟨⟨⟨⟨ownsRow_outP H.1.1.1 k (fun g e => ?_), fun q hq => ownsRow_outP (H.1.1.2.1 q hq) k (fun g e => ?_), H.1.1.2.2⟩, H.1.2.1, ht, by rw [lmark_length]; exact H.1.2.2.2⟩,
    ⟨H.2.1.1.outP k (not_tab H.2.1.1 (by decide) (by decide)), H.2.1.2.outP k (not_tab H.2.1.2 (by decide) (by decide))⟩, H.2.2.1, ⟨H.2.2.2.1.1, ⟨H.2.2.2.1.2.1, fun l ad hl e => ?_⟩⟩, Nat.le_trans H.2.2.2.2.1 k.size, H.2.2.2.2.2.1, ko.grown H.2.2.2.2.2.2 H.2.2.2.2.2.1⟩, ko⟩
  · obtain ⟨q, hq⟩ := own_blk' H.1.1.1 e
    exact not_tab hq (by decide) (by decide)
  · obtain ⟨q', hq'⟩ := own_blk' (H.1.1.2.1 q hq) e
    exact not_tab hq' (by decide) (by decide)
  · obtain ⟨l', h1, h2⟩ := lmark_addr hl
    exact H.2.2.2.1.2.2 l' ad h1 (h2.trans e)
/-- The marks, their numbers told by letters. -/
theorem markDev_pack {x : Int} (hx : x = ((endK 1 cs : Nat) : Int)) (H : PK w lo hi V G A n c cs B m d ts a b h wr) (hn : n ≤ 1048576) (ht : tot cs ≤ 1048576) :
    Calls Tryz.prog 24 #[.slice A n c, .int .i64 1] wr fun e w' => e = .returned (.int .i64 x) ∧ PK w lo hi V G A n c (markL 1 cs) B m d ts a b h w' ∧ Out lo hi wr w' := by
  subst hx
  rcases H.1.1.form with ⟨e, e0⟩ | ⟨g, cap, e, hb, hlt, _, _⟩
  · injection e with e1 e2 e3
    subst e1; subst e2; subst e3; subst e0
    refine (markBlockS_nil wr).mono ?_
    rintro e w' ⟨rfl, rfl⟩
    exact ⟨rfl, H.selfD H.1.1 (OutP.refl _ _)⟩
  · injection e with e1 e2 e3
    subst e1; subst e3
    refine (markBlockS_P (DevP wr lo hi) g n c lo cs wr H.1.2.1 H.1.1 ⟨⟨H.devAt.1 g rfl, .inl (own_blk' H.1.1.1 rfl)⟩, fun q ad hq ha => ?_⟩ hn ht).mono ?_
    · have e : q.row.ownBlock = some ad.block := by simp [Bk.row, ha, Value.ownBlock]
      exact ⟨H.devAt.2 q _ hq e, .inr (own_blk' (H.1.1.2.1 q hq) e)⟩
    · rintro e w' ⟨rfl, ho, hk⟩
      exact ⟨rfl, H.selfD ho hk⟩
theorem markTab_pack {K : Nat} {x : Int} (hK : K ≤ 7000000) (hx : x = ((lend K ts : Nat) : Int)) (H : PK w lo hi V G A n c cs B m d ts a b h wr) (hn : m ≤ 1048576) (ht : ltot (ll ts) ≤ 1048576) :
    Calls Tryz.prog 25 #[.agg #[.slice B m d], .int .i64 (K : Int)] wr fun e w' => e = .returned (.int .i64 x) ∧ PK w lo hi V G A n c cs B m d (lmark K ts) a b h w' ∧ Out lo hi wr w' := by
  subst hx
  have h1 : wr.grownBy (wr.alloc (.cells #[.slice B m d] 26)) none := grown_alloc (grown_refl wr none) _
  have HK := Lib.hid h1
  have HP := Lib.hid (H.keep h1)
  have HO := Lib.hid H
  rcases H.1.2.2.1.form with ⟨e, e0⟩ | ⟨g, cap, e, hb, hlt, _, _⟩
  · injection e with e1 e2 e3
    subst e1; subst e2; subst e3; subst e0
    clear H h1
    go_enter Tryz.func25, Tryz.ntmps25
    go_wp2_with fail
    refine (markLists_nilK K _).mono ?_
    rintro e w1 ⟨rfl, rfl⟩
    go_wp2
    go_ret
    exact ⟨retI (by simp [lend, ltot, ll]), HP.out, Out.of_grown HK.out (fun g e => by cases e)⟩
  · injection e with e1 e2 e3
    subst e1; subst e3
    have hd : TabP (wr.alloc (.cells #[.slice (some ⟨g, 0, none⟩) m d] 26)) lo hi g ∧ ∀ (l : Li) (ad : Addr), l ∈ ts → l.A = some ad → TabP (wr.alloc (.cells #[.slice (some ⟨g, 0, none⟩) m d] 26)) lo hi ad.block :=
      ⟨⟨HP.out.tabAt.1 g rfl, .inl (own_blk' HP.out.1.2.2.1.1 rfl)⟩, fun l ad hl ha => by
        have e : l.row.ownBlock = some ad.block := by simp [Li.row, ha, Value.ownBlock]
        exact ⟨HP.out.tabAt.2 l _ hl e, .inr (own_blk' (HP.out.1.2.2.1.2.1 l hl) e)⟩⟩
    have HD := Lib.hid hd
    clear H h1 hd e2
    go_enter Tryz.func25, Tryz.ntmps25
    go_wp2_with fail
    refine (markLists_P _ K hK g m d lo ts _ HP.out.1.2.2.2 HP.out.1.2.2.1 HD.out hn ht).mono ?_
    rintro e w1 ⟨rfl, ho, hk⟩
    have HZ := Lib.hid (HP.out.selfT ho hk)
    clear ho hk
    go_wp2
    go_ret
    exact ⟨rfl, HZ.out.1, (Out.of_grown HK.out (fun g e => by cases e)).trans HZ.out.2⟩
theorem heldDev_pack {x : Int} (hx : x = ((endK 1 cs : Nat) : Int)) (hl : cs.length = n) (H : PK w lo hi V G A n c (markL 1 cs) B m d ts a b h wr) (hn : n ≤ 1048576) (ht : tot cs ≤ 1048576) :
    Calls Tryz.prog 26 #[.slice A n c, .int .i64 1] wr fun e w' => e = .returned (.int .i64 x) ∧ wr = w' := by
  subst hx
  exact heldBlockS_any A n c cs wr hl H.row hn ht
theorem heldTab_pack {K : Nat} {x : Int} (hK : K ≤ 7000000) (hx : x = ((lend K ts : Nat) : Int)) (h0 : decide (x < 0) = false) (hl : ts.length = m) (H : PK w lo hi V G A n c cs B m d (lmark K ts) a b h wr) (hn : m ≤ 1048576) (ht : ltot (ll ts) ≤ 1048576) :
    Calls Tryz.prog 27 #[.agg #[.slice B m d], .int .i64 (K : Int)] wr (KeptV (.int .i64 x) wr) := by
  have HO := Lib.hid (And.intro (H.tab.alloc (.cells #[.slice B m d] 26)).here (And.intro (grown_alloc (grown_refl wr none) (.cells #[.slice B m d] 26)) (And.intro hl hx)))
  clear H hl hx
  go_enter Tryz.func27, Tryz.ntmps27
  go_wp2_with fail
  refine (heldLists_K K hK _ _ _ ts _ HO.out.2.2.1 HO.out.1 hn ht).mono ?_
  rw [← HO.out.2.2.2]
  rintro e w1 ⟨rfl, rfl⟩
  go_wp2
  go_ret
  exact ⟨rfl, HO.out.2.1⟩
end
end Go.Proofs.YtolpnloghogjjaaGreat
namespace Go.Proofs.YtolpnloghogjjaaGreat
open Go.ChangeShapes Go.WideShapes Go.ChangeAt Go.RowKit

theorem readB_is {bs cs : List Bk} (h : cs.map Bk.is = bs.map Bk.is) (T : List (List Int)) : readB cs T = readB bs T := by
  unfold readB
  congr 1
  funext f
  rw [fvalV_is h]
theorem CleanIs.of {n : Nat} {bs cs : List Bk} {T T' : List (List Int)} {a b h x s : Int} {n1 m1 : Nat} {l1 : List (Int × List Pg)} {T1 : List (List Int)} {a1 b1 h1 mv : Int} {ok : Bool} (H : CleanIs n bs T a b h x s n1 l1 m1 T1 a1 b1 h1 mv ok) (hc : cs.map Bk.is = bs.map Bk.is) (hT : T' = T) : CleanIs n cs T' a b h x s n1 l1 m1 T1 a1 b1 h1 mv ok := by
  subst hT
  unfold CleanIs cleanB
  rw [devB_is hc, readB_is hc, hc]
  exact H
/-- c: how many calls have answered (a copy of the device, one of the table, one of the heads, and CleanBlock); aT, aH: the variables are made. -/
def FS (w0 : World) (n : Nat) (bs : List Bk) (m : Nat) (ls : List Li) (n1 : Nat) (l1 : List (Int × List Pg)) (m1 : Nat) (T1 : List (List Int)) (c : Nat) (aT aH : Bool) (A2 : Option Addr) (cs2 : List Bk) (A3 : Option Addr) (cs3 : List Li) (D4 : Option Addr) (d4 : Nat) (cs4 : List Bk) (B4 : Option Addr) (e4 : Nat) (ts4 : List Li) (V G : Nat) (wz : World) : Prop :=
  w0.grownBy wz none ∧ (1 ≤ c → cs2.length = n ∧ cs2.map Bk.is = bs.map Bk.is ∧ DRow wz wz.heap.size A2 cs2) ∧ (2 ≤ c → cs3.length = m ∧ ll cs3 = ll ls ∧ TRow wz wz.heap.size A3 cs3) ∧
  (4 ≤ c → (cs4.length = n1 ∧ cs4.map Bk.is = l1 ∧ ts4.length = m1 ∧ ll ts4 = T1) ∧ DOwn wz w0.heap.size (.slice D4 n1 d4) cs4 ∧ TOwn wz w0.heap.size (.slice B4 m1 e4) ts4) ∧
  (aT = true → Blk wz V 26 #[.slice none 0 0] ∧ w0.heap.size ≤ V) ∧ (aH = true → Blk wz G 28 #[.int .i64 0, .int .i64 0, .int .i64 0] ∧ w0.heap.size ≤ G)
section
variable {w w0 wz wn : World} {n m n1 m1 c c2 c3 d4 e4 d4' e4' V G : Nat} {bs cs2 cs2' cs4 cs4' : List Bk} {ls cs3 cs3' ts4 ts4' : List Li} {l1 : List (Int × List Pg)} {T1 : List (List Int)} {aT aH : Bool} {A2 A2' A3 A3' D4 D4' B4 B4' : Option Addr} {y1 y2 y3 : Int}
theorem FS.keep (H : FS w0 n bs m ls n1 l1 m1 T1 c aT aH A2 cs2 A3 cs3 D4 d4 cs4 B4 e4 ts4 V G wz) (k : wz.grownBy wn none) : FS w0 n bs m ls n1 l1 m1 T1 c aT aH A2 cs2 A3 cs3 D4 d4 cs4 B4 e4 ts4 V G wn :=
  ⟨grown_trans H.1 k, fun h => ⟨(H.2.1 h).1, (H.2.1 h).2.1, ((H.2.1 h).2.2.kept k).here⟩, fun h => ⟨(H.2.2.1 h).1, (H.2.2.1 h).2.1, ((H.2.2.1 h).2.2.kept k).here⟩,
    fun h => ⟨(H.2.2.2.1 h).1, (H.2.2.2.1 h).2.1.keep k, (H.2.2.2.1 h).2.2.keep k⟩, fun h => ⟨(H.2.2.2.2.1 h).1.keep k, (H.2.2.2.2.1 h).2⟩, fun h => ⟨(H.2.2.2.2.2 h).1.keep k, (H.2.2.2.2.2 h).2⟩⟩
theorem FS.start (w0 : World) (n : Nat) (bs : List Bk) (m : Nat) (ls : List Li) (n1 : Nat) (l1 : List (Int × List Pg)) (m1 : Nat) (T1 : List (List Int)) : FS w0 n bs m ls n1 l1 m1 T1 0 false false none [] none [] none 0 [] none 0 [] 0 0 w0 :=
  ⟨grown_refl _ _, fun h => absurd h (by omega), fun h => absurd h (by omega), fun h => absurd h (by omega), fun h => (by cases h), fun h => (by cases h)⟩
theorem FS.start2 (n1 : Nat) (l1 : List (Int × List Pg)) (m1 : Nat) (T1 : List (List Int)) (h1 : cs2.length = n) (h2 : cs2.map Bk.is = bs.map Bk.is) (h3 : DRow w0 w0.heap.size A2 cs2) (h4 : cs3.length = m) (h5 : ll cs3 = ll ls) (h6 : TRow w0 w0.heap.size A3 cs3) : FS w0 n bs m ls n1 l1 m1 T1 2 false false A2 cs2 A3 cs3 none 0 [] none 0 [] 0 0 w0 :=
  ⟨grown_refl _ _, fun _ => ⟨h1, h2, h3⟩, fun _ => ⟨h4, h5, h6⟩, fun h => absurd h (by omega), fun h => (by cases h), fun h => (by cases h)⟩
theorem FS.dev (H : FS w0 n bs m ls n1 l1 m1 T1 0 aT aH A2' cs2' A3 cs3 D4 d4 cs4 B4 e4 ts4 V G wz) (h1 : cs2.length = n) (h2 : cs2.map Bk.is = bs.map Bk.is) (ho : DOwn wn wz.heap.size (.slice A2 n c2) cs2) (k : wz.grownBy wn none) : FS w0 n bs m ls n1 l1 m1 T1 1 aT aH A2 cs2 A3 cs3 D4 d4 cs4 B4 e4 ts4 V G wn :=
  ⟨(H.keep k).1, fun _ => ⟨h1, h2, ho.row⟩, fun h => absurd h (by omega), fun h => absurd h (by omega), (H.keep k).2.2.2.2.1, (H.keep k).2.2.2.2.2⟩
theorem FS.tabl (H : FS w0 n bs m ls n1 l1 m1 T1 1 aT aH A2 cs2 A3' cs3' D4 d4 cs4 B4 e4 ts4 V G wz) (h1 : cs3.length = m) (h2 : ll cs3 = ll ls) (ho : TOwn wn wz.heap.size (.slice A3 m c3) cs3) (k : wz.grownBy wn none) : FS w0 n bs m ls n1 l1 m1 T1 2 aT aH A2 cs2 A3 cs3 D4 d4 cs4 B4 e4 ts4 V G wn :=
  ⟨(H.keep k).1, fun _ => (H.keep k).2.1 (by omega), fun _ => ⟨h1, h2, ho.row⟩, fun h => absurd h (by omega), (H.keep k).2.2.2.2.1, (H.keep k).2.2.2.2.2⟩
theorem FS.hds (H : FS w0 n bs m ls n1 l1 m1 T1 2 aT aH A2 cs2 A3 cs3 D4 d4 cs4 B4 e4 ts4 V G wz) (k : wz.grownBy wn none) : FS w0 n bs m ls n1 l1 m1 T1 3 aT aH A2 cs2 A3 cs3 D4 d4 cs4 B4 e4 ts4 V G wn :=
  ⟨(H.keep k).1, fun _ => (H.keep k).2.1 (by omega), fun _ => (H.keep k).2.2.1 (by omega), fun h => absurd h (by omega), (H.keep k).2.2.2.2.1, (H.keep k).2.2.2.2.2⟩
theorem FS.clean (H : FS w0 n bs m ls n1 l1 m1 T1 3 aT aH A2 cs2 A3 cs3 D4' d4' cs4' B4' e4' ts4' V G wz) (hx : cs4.length = n1 ∧ cs4.map Bk.is = l1 ∧ ts4.length = m1 ∧ ll ts4 = T1) (hd : DOwn wn wz.heap.size (.slice D4 n1 d4) cs4) (ht : TOwn wn wz.heap.size (.slice B4 m1 e4) ts4) (k : wz.grownBy wn none) :
    FS w0 n bs m ls n1 l1 m1 T1 4 aT aH A2 cs2 A3 cs3 D4 d4 cs4 B4 e4 ts4 V G wn :=
  ⟨(H.keep k).1, fun _ => (H.keep k).2.1 (by omega), fun _ => (H.keep k).2.2.1 (by omega), fun _ => ⟨hx, hd.base_le H.1.size, ht.base_le H.1.size⟩, (H.keep k).2.2.2.2.1, (H.keep k).2.2.2.2.2⟩
theorem FS.allT (H : FS w0 n bs m ls n1 l1 m1 T1 c false aH A2 cs2 A3 cs3 D4 d4 cs4 B4 e4 ts4 V G wz) : FS w0 n bs m ls n1 l1 m1 T1 c true aH A2 cs2 A3 cs3 D4 d4 cs4 B4 e4 ts4 wz.heap.size G (wz.alloc (.cells #[.slice none 0 0] 26)) :=
  have k := grown_alloc (grown_refl wz none) (.cells #[.slice none 0 0] 26)
  ⟨(H.keep k).1, (H.keep k).2.1, (H.keep k).2.2.1, (H.keep k).2.2.2.1, fun _ => ⟨Blk.new wz _ _, H.1.size⟩, (H.keep k).2.2.2.2.2⟩
theorem FS.allH (H : FS w0 n bs m ls n1 l1 m1 T1 c aT false A2 cs2 A3 cs3 D4 d4 cs4 B4 e4 ts4 V G wz) : FS w0 n bs m ls n1 l1 m1 T1 c aT true A2 cs2 A3 cs3 D4 d4 cs4 B4 e4 ts4 V wz.heap.size (wz.alloc (.cells #[.int .i64 0, .int .i64 0, .int .i64 0] 28)) :=
  have k := grown_alloc (grown_refl wz none) (.cells #[.int .i64 0, .int .i64 0, .int .i64 0] 28)
  ⟨(H.keep k).1, (H.keep k).2.1, (H.keep k).2.2.1, (H.keep k).2.2.2.1, (H.keep k).2.2.2.2.1, fun _ => ⟨Blk.new wz _ _, H.1.size⟩⟩
/-- The variables, ahead of the stores. -/
theorem FS.vars (H : FS w0 n bs m ls n1 l1 m1 T1 4 true true A2 cs2 A3 cs3 D4 d4 cs4 B4 e4 ts4 V G wz) : (w0.heap.size ≤ V ∧ w0.heap.size ≤ G ∧ V ≠ G ∧ G ≠ V) ∧ (wz.cell? ⟨V, 0, none⟩ = some (.slice none 0 0) ∧ wz.frozen? ⟨V, 0, none⟩ = false) ∧
    (wz.cell? ⟨G, 0, none⟩ = some (.int .i64 0) ∧ wz.cell? ⟨G, 1, none⟩ = some (.int .i64 0) ∧ wz.cell? ⟨G, 2, none⟩ = some (.int .i64 0)) ∧ wz.frozen? ⟨G, 0, none⟩ = false ∧ wz.frozen? ⟨G, 1, none⟩ = false ∧ wz.frozen? ⟨G, 2, none⟩ = false := by
  obtain ⟨hV, h1⟩ := H.2.2.2.2.1 rfl
  obtain ⟨hG, h2⟩ := H.2.2.2.2.2 rfl
  have hne : V ≠ G := by
    rintro rfl
    exact absurd (blk_type hV hG) (by decide)
  exact ⟨⟨h1, h2, hne, hne.symm⟩, ⟨hV.cell 0, hV.frozen 0⟩, cells3 hG, frozen3 hG⟩
theorem FS.pack (H : FS w0 n bs m ls n1 l1 m1 T1 4 true true A2 cs2 A3 cs3 D4 d4 cs4 B4 e4 ts4 V G wz) (hG : w.grownBy w0 none) (y1 y2 y3 : Int) : ∃ hi,
    PK w w0.heap.size hi V G D4 n1 d4 cs4 B4 m1 e4 ts4 y1 y2 y3 ((((wz.setCell ⟨V, 0, none⟩ (.slice B4 m1 e4)).setCell ⟨G, 0, none⟩ (.int .i64 y1)).setCell ⟨G, 1, none⟩ (.int .i64 y2)).setCell ⟨G, 2, none⟩ (.int .i64 y3)) ∧
    w0.grownBy ((((wz.setCell ⟨V, 0, none⟩ (.slice B4 m1 e4)).setCell ⟨G, 0, none⟩ (.int .i64 y1)).setCell ⟨G, 1, none⟩ (.int .i64 y2)).setCell ⟨G, 2, none⟩ (.int .i64 y3)) none ∧
    w0.heap.size ≤ hi ∧ hi = ((((wz.setCell ⟨V, 0, none⟩ (.slice B4 m1 e4)).setCell ⟨G, 0, none⟩ (.int .i64 y1)).setCell ⟨G, 1, none⟩ (.int .i64 y2)).setCell ⟨G, 2, none⟩ (.int .i64 y3)).heap.size := by
  obtain ⟨hV, h1⟩ := H.2.2.2.2.1 rfl
  obtain ⟨hB, h2⟩ := H.2.2.2.2.2 rfl
  obtain ⟨hx, hd, ht⟩ := H.2.2.2.1 (by omega)
  have hne : G ≠ V := by
    rintro rfl
    exact absurd (blk_type hV hB) (by decide)
  have hne' : V ≠ G := fun e => hne e.symm
  have kk := grown_put3 (grown_put H.1 (p := ⟨V, 0, none⟩) h1 (.slice B4 m1 e4)) h2 (.int .i64 y1) (.int .i64 y2) (.int .i64 y3)
  have k0 := hB.far (p := ⟨V, 0, none⟩) hne (.slice B4 m1 e4)
  have v0 := hV.put 0 (.slice B4 m1 e4)
  refine ⟨_, PK.start (grown_trans hG kk) hG.size (hd.fin hV hB hne _ _ _ _) hx.1 (ht.fin hV hB hne _ _ _ _) hx.2.2.1 (((v0.far (p := ⟨G, 0, none⟩) hne' _).far (p := ⟨G, 1, none⟩) hne' _).far (p := ⟨G, 2, none⟩) hne' _) (((k0.put 0 _).put 1 _).put 2 _) h1 h2, kk, kk.size, rfl⟩
end
end Go.Proofs.YtolpnloghogjjaaGreat
