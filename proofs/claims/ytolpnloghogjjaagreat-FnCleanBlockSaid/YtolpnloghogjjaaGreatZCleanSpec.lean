/- What the model's CleanBlock answers: what is refused.
   What the model's CleanBlock answers, further: a head is not cleaned.
   What the model's CleanBlock answers, further: the pages are moved, one after another. -/
import Derived.Test.YtolpnloghogjjaaGreatZCleans
import Derived.Test.YtolpnloghogjjaaGreatZFiles
namespace Go.Proofs.YtolpnloghogjjaaGreat
open Go.ChangeShapes Go.WideShapes Go.ChangeAt Go.RowKit
set_option linter.unusedVariables false
theorem down_lit (w : World) (base : Nat) (hb : base ≤ w.heap.size) : DOwn (w.alloc (.cells #[] 45)) base (.slice (some ⟨w.heap.size, 0, none⟩) 0 0) [] :=
  DOwn.base_le ⟨World.ownsRow_lit (e := 45) (size := 2) w #[] 0 (Nat.le_refl _) (by simp) rfl, fun b hb => by simp at hb, fun i j b b' a a' _ hi => by simp at hi⟩ hb
section
variable {A D : Option Addr} {n c nd cd : Nat} {ls : List Li} {bs : List Bk} {a b h x s : Int} {w : World}
set_option maxRecDepth 100000 in
set_option maxHeartbeats 1000000 in
theorem specClean_heads (hv : (headsB nd a b h && devB bs) = false) (hld : bs.length = nd) (hrd : DRow w w.heap.size D bs) (hnd : nd ≤ 1048576) (hpd : ∀ b, b ∈ bs → b.ps.length ≤ 1048576) (hl : ls.length = n) (hr : TRow w w.heap.size A ls) (hn : n ≤ 1048576) (hp : ∀ l, l ∈ ls → l.xs.length ≤ 1048576) :
    Calls Tryz.prog 7 #[.slice D nd cd, .agg #[.slice A n c], .agg #[.int .i64 a, .int .i64 b, .int .i64 h], .int .i64 x, .int .i64 s] w (CleanMade [] 0 [] 0 0 0 0 0 false w) := by
  have HF := Lib.hid (CIn.start hr hrd n c a b h)
  have HD := Lib.hid (And.intro hv (And.intro hld (And.intro hpd (And.intro hl hp))))
  clear hrd hr hld hpd hl hp
  go_enter Tryz.func7, Tryz.ntmps7
  obtain ⟨z0, z1, z2⟩ := HF.out.cells
  go_wp2_with fail
  refine (specHeads_val HD.out.1 HD.out.2.1 HF.out.2.2.1.here hnd HD.out.2.2.1).mono ?_
  rintro e w1 ⟨rfl, hk⟩
  replace HF := Lib.hid (HF.out.keep hk)
  clear hk z0 z1 z2
  have HO := Lib.hid (down_lit w1 w.heap.size HF.out.2.2.2.size)
  replace HF := Lib.hid (HF.out.keep (grown_alloc (grown_refl w1 none) (.cells #[] 45)))
  obtain ⟨⟨t0, t1⟩, ⟨r0, r1, r2⟩, q0, q1, q2⟩ := HF.out.res
  have na : w.heap.size + 1 + 1 ≠ w.heap.size + 1 + 1 + 1 := by omega
  have nb : w.heap.size + 1 + 1 + 1 ≠ w.heap.size + 1 + 1 := by omega
  have nc : w.heap.size ≠ w.heap.size + 1 := by omega
  have nd' : w.heap.size + 1 ≠ w.heap.size := by omega
  go_wp2
  exact bodyPost_ret (v := .tuple #[.slice (some ⟨w1.heap.size, 0, none⟩) 0 0, .agg #[.slice none 0 0], .agg #[.int .i64 0, .int .i64 0, .int .i64 0], .int .i64 0, .bool false]) (by simp [results, Tryz.results7, go_sem, *]) rfl ⟨_, _, [], _, _, [], rfl, ⟨rfl, rfl, rfl, rfl⟩, HO.out.fin HF.out.1.2.2.1 HF.out.1.2.2.2 (by omega) _ _ _ _, town_nil _ _, HF.out.fin _ _ _ _⟩
set_option maxRecDepth 100000 in
set_option maxHeartbeats 1000000 in
theorem specClean_tab (hv : (headsB nd a b h && devB bs) = true) (hT : tabB (ll ls) = false) (hld : bs.length = nd) (hrd : DRow w w.heap.size D bs) (hnd : nd ≤ 1048576) (hpd : ∀ b, b ∈ bs → b.ps.length ≤ 1048576) (hl : ls.length = n) (hr : TRow w w.heap.size A ls) (hn : n ≤ 1048576) (hp : ∀ l, l ∈ ls → l.xs.length ≤ 1048576) :
    Calls Tryz.prog 7 #[.slice D nd cd, .agg #[.slice A n c], .agg #[.int .i64 a, .int .i64 b, .int .i64 h], .int .i64 x, .int .i64 s] w (CleanMade [] 0 [] 0 0 0 0 0 false w) := by
  have HV := Lib.hid hT
  have HF := Lib.hid (CIn.start hr hrd n c a b h)
  have HD := Lib.hid (And.intro hv (And.intro hld (And.intro hpd (And.intro hl hp))))
  clear hrd hr hld hpd hl hp
  go_enter Tryz.func7, Tryz.ntmps7
  obtain ⟨z0, z1, z2⟩ := HF.out.cells
  go_wp2_with fail
  refine (specHeads_val HD.out.1 HD.out.2.1 HF.out.2.2.1.here hnd HD.out.2.2.1).mono ?_
  rintro e w1 ⟨rfl, hk⟩
  replace HF := Lib.hid (HF.out.keep hk)
  clear hk z0 z1 z2
  have t0 := HF.out.tab
  go_wp2_with fail
  refine (specTabValid_val HV.out HD.out.2.2.2.1 HF.out.2.1.here hn HD.out.2.2.2.2).mono ?_
  rintro e w2 ⟨rfl, hk⟩
  replace HF := Lib.hid (HF.out.keep hk)
  clear hk t0
  have HO := Lib.hid (down_lit w2 w.heap.size HF.out.2.2.2.size)
  replace HF := Lib.hid (HF.out.keep (grown_alloc (grown_refl w2 none) (.cells #[] 45)))
  obtain ⟨⟨t0, t1⟩, ⟨r0, r1, r2⟩, q0, q1, q2⟩ := HF.out.res
  have na : w.heap.size + 1 + 1 ≠ w.heap.size + 1 + 1 + 1 := by omega
  have nb : w.heap.size + 1 + 1 + 1 ≠ w.heap.size + 1 + 1 := by omega
  have nc : w.heap.size ≠ w.heap.size + 1 := by omega
  have nd' : w.heap.size + 1 ≠ w.heap.size := by omega
  go_wp2
  exact bodyPost_ret (v := .tuple #[.slice (some ⟨w2.heap.size, 0, none⟩) 0 0, .agg #[.slice none 0 0], .agg #[.int .i64 0, .int .i64 0, .int .i64 0], .int .i64 0, .bool false]) (by simp [results, Tryz.results7, go_sem, *]) rfl ⟨_, _, [], _, _, [], rfl, ⟨rfl, rfl, rfl, rfl⟩, HO.out.fin HF.out.1.2.2.1 HF.out.1.2.2.2 (by omega) _ _ _ _, town_nil _ _, HF.out.fin _ _ _ _⟩
set_option maxRecDepth 100000 in
set_option maxHeartbeats 1000000 in
theorem specClean_block (hv : (headsB nd a b h && devB bs) = true) (hT : tabB (ll ls) = true) (hb : inB x 0 ((nd : Int) - 1) = false) (hld : bs.length = nd) (hrd : DRow w w.heap.size D bs) (hnd : nd ≤ 1048576) (hpd : ∀ b, b ∈ bs → b.ps.length ≤ 1048576) (hl : ls.length = n) (hr : TRow w w.heap.size A ls) (hn : n ≤ 1048576) (hp : ∀ l, l ∈ ls → l.xs.length ≤ 1048576) :
    Calls Tryz.prog 7 #[.slice D nd cd, .agg #[.slice A n c], .agg #[.int .i64 a, .int .i64 b, .int .i64 h], .int .i64 x, .int .i64 s] w (CleanMade [] 0 [] 0 0 0 0 0 false w) := by
  have HV := Lib.hid hT
  have HB := Lib.hid hb
  have HF := Lib.hid (CIn.start hr hrd n c a b h)
  have HD := Lib.hid (And.intro hv (And.intro hld (And.intro hpd (And.intro hl hp))))
  clear hrd hr hld hpd hl hp
  go_enter Tryz.func7, Tryz.ntmps7
  obtain ⟨z0, z1, z2⟩ := HF.out.cells
  go_wp2_with fail
  refine (specHeads_val HD.out.1 HD.out.2.1 HF.out.2.2.1.here hnd HD.out.2.2.1).mono ?_
  rintro e w1 ⟨rfl, hk⟩
  replace HF := Lib.hid (HF.out.keep hk)
  clear hk z0 z1 z2
  have t0 := HF.out.tab
  go_wp2_with fail
  refine (specTabValid_val HV.out HD.out.2.2.2.1 HF.out.2.1.here hn HD.out.2.2.2.2).mono ?_
  rintro e w2 ⟨rfl, hk⟩
  replace HF := Lib.hid (HF.out.keep hk)
  clear hk t0
  have HO := Lib.hid (down_lit w2 w.heap.size HF.out.2.2.2.size)
  replace HF := Lib.hid (HF.out.keep (grown_alloc (grown_refl w2 none) (.cells #[] 45)))
  obtain ⟨⟨t0, t1⟩, ⟨r0, r1, r2⟩, q0, q1, q2⟩ := HF.out.res
  have na : w.heap.size + 1 + 1 ≠ w.heap.size + 1 + 1 + 1 := by omega
  have nb : w.heap.size + 1 + 1 + 1 ≠ w.heap.size + 1 + 1 := by omega
  have nc : w.heap.size ≠ w.heap.size + 1 := by omega
  have nd' : w.heap.size + 1 ≠ w.heap.size := by omega
  go_wp2_with (go_at_call 39; refine (in_val HB.out _).mono ?_; rintro e w' ⟨rfl, rfl⟩)
  exact bodyPost_ret (v := .tuple #[.slice (some ⟨w2.heap.size, 0, none⟩) 0 0, .agg #[.slice none 0 0], .agg #[.int .i64 0, .int .i64 0, .int .i64 0], .int .i64 0, .bool false]) (by simp [results, Tryz.results7, go_sem, *]) rfl ⟨_, _, [], _, _, [], rfl, ⟨rfl, rfl, rfl, rfl⟩, HO.out.fin HF.out.1.2.2.1 HF.out.1.2.2.2 (by omega) _ _ _ _, town_nil _ _, HF.out.fin _ _ _ _⟩
set_option maxRecDepth 100000 in
set_option maxHeartbeats 1000000 in
theorem specClean_stamp (hv : (headsB nd a b h && devB bs) = true) (hT : tabB (ll ls) = true) (hb : inB x 0 ((nd : Int) - 1) = true) (ht : inB s 1 1000000 = false) (hld : bs.length = nd) (hrd : DRow w w.heap.size D bs) (hnd : nd ≤ 1048576) (hpd : ∀ b, b ∈ bs → b.ps.length ≤ 1048576) (hl : ls.length = n) (hr : TRow w w.heap.size A ls) (hn : n ≤ 1048576) (hp : ∀ l, l ∈ ls → l.xs.length ≤ 1048576) :
    Calls Tryz.prog 7 #[.slice D nd cd, .agg #[.slice A n c], .agg #[.int .i64 a, .int .i64 b, .int .i64 h], .int .i64 x, .int .i64 s] w (CleanMade [] 0 [] 0 0 0 0 0 false w) := by
  have HV := Lib.hid hT
  have HB := Lib.hid hb
  have HT := Lib.hid ht
  have HF := Lib.hid (CIn.start hr hrd n c a b h)
  have HD := Lib.hid (And.intro hv (And.intro hld (And.intro hpd (And.intro hl hp))))
  clear hrd hr hld hpd hl hp
  go_enter Tryz.func7, Tryz.ntmps7
  obtain ⟨z0, z1, z2⟩ := HF.out.cells
  go_wp2_with fail
  refine (specHeads_val HD.out.1 HD.out.2.1 HF.out.2.2.1.here hnd HD.out.2.2.1).mono ?_
  rintro e w1 ⟨rfl, hk⟩
  replace HF := Lib.hid (HF.out.keep hk)
  clear hk z0 z1 z2
  have t0 := HF.out.tab
  go_wp2_with fail
  refine (specTabValid_val HV.out HD.out.2.2.2.1 HF.out.2.1.here hn HD.out.2.2.2.2).mono ?_
  rintro e w2 ⟨rfl, hk⟩
  replace HF := Lib.hid (HF.out.keep hk)
  clear hk t0
  have HO := Lib.hid (down_lit w2 w.heap.size HF.out.2.2.2.size)
  replace HF := Lib.hid (HF.out.keep (grown_alloc (grown_refl w2 none) (.cells #[] 45)))
  obtain ⟨⟨t0, t1⟩, ⟨r0, r1, r2⟩, q0, q1, q2⟩ := HF.out.res
  have na : w.heap.size + 1 + 1 ≠ w.heap.size + 1 + 1 + 1 := by omega
  have nb : w.heap.size + 1 + 1 + 1 ≠ w.heap.size + 1 + 1 := by omega
  have nc : w.heap.size ≠ w.heap.size + 1 := by omega
  have nd' : w.heap.size + 1 ≠ w.heap.size := by omega
  go_wp2_with (go_at_call 39; refine (in_any _ _ _ _).mono ?_; rintro e w' ⟨rfl, rfl⟩; first | rw [HB.out] | rw [HT.out])
  exact bodyPost_ret (v := .tuple #[.slice (some ⟨w2.heap.size, 0, none⟩) 0 0, .agg #[.slice none 0 0], .agg #[.int .i64 0, .int .i64 0, .int .i64 0], .int .i64 0, .bool false]) (by simp [results, Tryz.results7, go_sem, *]) rfl ⟨_, _, [], _, _, [], rfl, ⟨rfl, rfl, rfl, rfl⟩, HO.out.fin HF.out.1.2.2.1 HF.out.1.2.2.2 (by omega) _ _ _ _, town_nil _ _, HF.out.fin _ _ _ _⟩
set_option maxRecDepth 100000 in
set_option maxHeartbeats 1000000 in
theorem specClean_read (hv : (headsB nd a b h && devB bs) = true) (hT : tabB (ll ls) = true) (hb : inB x 0 ((nd : Int) - 1) = true) (ht : inB s 1 1000000 = true) (hrb : readB bs (ll ls) = false) (hld : bs.length = nd) (hrd : DRow w w.heap.size D bs) (hnd : nd ≤ 1048576) (hpd : ∀ b, b ∈ bs → b.ps.length ≤ 1048576) (hl : ls.length = n) (hr : TRow w w.heap.size A ls) (hn : n ≤ 1048576) (hp : ∀ l, l ∈ ls → l.xs.length ≤ 1048576) :
    Calls Tryz.prog 7 #[.slice D nd cd, .agg #[.slice A n c], .agg #[.int .i64 a, .int .i64 b, .int .i64 h], .int .i64 x, .int .i64 s] w (CleanMade [] 0 [] 0 0 0 0 0 false w) := by
  have HV := Lib.hid hT
  have HB := Lib.hid hb
  have HT := Lib.hid ht
  have HR := Lib.hid hrb
  have HF := Lib.hid (CIn.start hr hrd n c a b h)
  have HD := Lib.hid (And.intro hv (And.intro hld (And.intro hpd (And.intro hl hp))))
  clear hrd hr hld hpd hl hp
  go_enter Tryz.func7, Tryz.ntmps7
  obtain ⟨z0, z1, z2⟩ := HF.out.cells
  go_wp2_with fail
  refine (specHeads_val HD.out.1 HD.out.2.1 HF.out.2.2.1.here hnd HD.out.2.2.1).mono ?_
  rintro e w1 ⟨rfl, hk⟩
  replace HF := Lib.hid (HF.out.keep hk)
  clear hk z0 z1 z2
  have t0 := HF.out.tab
  go_wp2_with fail
  refine (specTabValid_val HV.out HD.out.2.2.2.1 HF.out.2.1.here hn HD.out.2.2.2.2).mono ?_
  rintro e w2 ⟨rfl, hk⟩
  replace HF := Lib.hid (HF.out.keep hk)
  clear hk t0
  have t0 := HF.out.tab
  go_wp2_with (go_at_call 39; refine (in_any _ _ _ _).mono ?_; rintro e w' ⟨rfl, rfl⟩; first | rw [HB.out] | rw [HT.out])
  go_loopw [15] (fun i wr => ∃ k : Nat, i = .int .i64 k ∧ k ≤ 8 ∧ (∀ j : Nat, j < k → (fvalV bs (ll ls) (j : Int)).2 = true) ∧ CIn w A n c ls D bs a b h wr) (fun i _ => 8 - (intOf i).toNat)
  case atStart => exact ⟨0, rfl, Nat.zero_le _, fun j hj => absurd hj (by omega), HF.out⟩
  case round =>
    rename World => wq
    obtain ⟨k, rfl, hk, hall, hT⟩ := hrel
    clear HF t0
    have HF := Lib.hid hT
    have HJ := Lib.hid hall
    clear hT hall
    by_cases hlt : k < 8
    · have k1 : (k : Int) < 8 := by omega
      have b0 := HF.out.tab
      obtain ⟨XS, ok, hf⟩ : ∃ XS ok, fvalV bs (ll ls) (k : Int) = (XS, ok) := ⟨_, _, rfl⟩
      have HV := Lib.hid hf
      clear hf
      go_wp2_with fail
      refine (specFileValues_any _ _ _ _ _ _ _ _ _ _ HD.out.2.1 HF.out.2.2.1.here hnd HD.out.2.2.1 HD.out.2.2.2.1 HF.out.2.1.here hn HD.out.2.2.2.2).mono ?_
      rintro e w3 ⟨A2, n2, c2, rfl, hll, ho, hk2⟩
      replace HF := Lib.hid (HF.out.keep hk2)
      clear hll ho hk2 b0
      have hok : (fvalV bs (ll ls) (k : Int)).2 = ok := by rw [HV.out]
      rw [hok]
      cases ok with
      | false =>
        clear hok
        have HO := Lib.hid (down_lit w3 w.heap.size HF.out.2.2.2.size)
        replace HF := Lib.hid (HF.out.keep (grown_alloc (grown_refl w3 none) (.cells #[] 45)))
        obtain ⟨⟨t0, t1⟩, ⟨r0, r1, r2⟩, q0, q1, q2⟩ := HF.out.res
        have na : w.heap.size + 1 + 1 ≠ w.heap.size + 1 + 1 + 1 := by omega
        have nb : w.heap.size + 1 + 1 + 1 ≠ w.heap.size + 1 + 1 := by omega
        have nc : w.heap.size ≠ w.heap.size + 1 := by omega
        have nd' : w.heap.size + 1 ≠ w.heap.size := by omega
        go_wp2
        exact bodyPost_ret (v := .tuple #[.slice (some ⟨w3.heap.size, 0, none⟩) 0 0, .agg #[.slice none 0 0], .agg #[.int .i64 0, .int .i64 0, .int .i64 0], .int .i64 0, .bool false]) (by simp [results, Tryz.results7, go_sem, *]) rfl ⟨_, _, [], _, _, [], rfl, ⟨rfl, rfl, rfl, rfl⟩, HO.out.fin HF.out.1.2.2.1 HF.out.1.2.2.2 (by omega) _ _ _ _, town_nil _ _, HF.out.fin _ _ _ _⟩
      | true =>
        have HZ := Lib.hid (show ∀ j : Nat, j < k + 1 → (fvalV bs (ll ls) (j : Int)).2 = true from fun j hj => by
          rcases Nat.lt_or_ge j k with h1 | h1
          · exact HJ.out j h1
          · obtain rfl : j = k := by omega
            exact hok)
        clear hok
        go_wp2
        go_roundw
        case rel => exact ⟨k + 1, by go_num, by omega, HZ.out, HF.out⟩
        case measure => simp [intOf]; omega
    · obtain rfl : k = 8 := by omega
      have := readB_yes HJ.out
      rw [HR.out] at this
      cases this
end
end Go.Proofs.YtolpnloghogjjaaGreat
namespace Go.Proofs.YtolpnloghogjjaaGreat
open Go.ChangeShapes Go.WideShapes Go.ChangeAt Go.RowKit
set_option linter.unusedVariables false
section
variable {A D : Option Addr} {n c nd cd : Nat} {ls : List Li} {bs : List Bk} {a b h x s : Int} {w : World}
set_option maxRecDepth 100000 in
set_option maxHeartbeats 4000000 in
theorem specClean_head (hh : headB a b h x = true) (hv : (headsB nd a b h && devB bs) = true) (hb : inB x 0 ((nd : Int) - 1) = true) (ht : inB s 1 1000000 = true) (hrb : readB bs (ll ls) = true) (hld : bs.length = nd) (hrd : DRow w w.heap.size D bs) (hnd : nd ≤ 1048576) (hpd : ∀ b, b ∈ bs → b.ps.length ≤ 1048576) (hl : ls.length = n) (hr : TRow w w.heap.size A ls) (hn : n ≤ 1048576) (hp : ∀ l, l ∈ ls → l.xs.length ≤ 1048576) :
    Calls Tryz.prog 7 #[.slice D nd cd, .agg #[.slice A n c], .agg #[.int .i64 a, .int .i64 b, .int .i64 h], .int .i64 x, .int .i64 s] w (CleanMade (bs.map Bk.is) nd (ll ls) 8 a b h 0 false w) := by
  have hcase : (x == a) = true ∨ ((x == a) = false ∧ (x == b) = true) ∨ ((x == a) = false ∧ (x == b) = false ∧ (x == h) = true) := by
    unfold headB at hh
    cases h1 : (x == a) <;> cases h2 : (x == b) <;> cases h3 : (x == h) <;> simp [h1, h2, h3] at hh ⊢
  have HC := Lib.hid hcase
  clear hcase hh
  have HV := Lib.hid (readB_tab hrb).2
  have HB := Lib.hid hb
  have HT := Lib.hid ht
  have HR := Lib.hid hrb
  obtain ⟨hd, htab⟩ := readB_tab hrb
  obtain ⟨⟨_, h12⟩, hall⟩ := dev_parts hd
  have hn12 : nd ≤ 12 := by omega
  have h8n : n = 8 := by rw [← hl, ← ll_length]; exact ((tabB_iff _).1 htab).len
  have H4 := Lib.hid (And.intro (show ∀ b, b ∈ bs → b.ps.length = 4 from fun b hm => (block_parts (hall b hm)).2.1) (And.intro htab hd))
  clear hd htab h12 hall
  subst h8n
  have HF := Lib.hid (CIn.start hr hrd 8 c a b h)
  have HD := Lib.hid (And.intro hv (And.intro hld (And.intro hpd (And.intro hl hp))))
  clear hrd hr hld hpd hl hp
  go_enter Tryz.func7, Tryz.ntmps7
  obtain ⟨z0, z1, z2⟩ := HF.out.cells
  go_wp2_with fail
  refine (specHeads_val HD.out.1 HD.out.2.1 HF.out.2.2.1.here hnd HD.out.2.2.1).mono ?_
  rintro e w1 ⟨rfl, hk⟩
  replace HF := Lib.hid (HF.out.keep hk)
  clear hk z0 z1 z2
  have t0 := HF.out.tab
  go_wp2_with fail
  refine (specTabValid_val HV.out HD.out.2.2.2.1 HF.out.2.1.here hn HD.out.2.2.2.2).mono ?_
  rintro e w2 ⟨rfl, hk⟩
  replace HF := Lib.hid (HF.out.keep hk)
  clear hk t0
  have t0 := HF.out.tab
  go_wp2_with (go_at_call 39; refine (in_any _ _ _ _).mono ?_; rintro e w' ⟨rfl, rfl⟩; first | rw [HB.out] | rw [HT.out])
  go_loopw [15] (fun i wr => ∃ k : Nat, i = .int .i64 k ∧ k ≤ 8 ∧ (∀ j : Nat, j < k → (fvalV bs (ll ls) (j : Int)).2 = true) ∧ CIn w A 8 c ls D bs a b h wr) (fun i _ => 8 - (intOf i).toNat)
  case atStart => exact ⟨0, rfl, Nat.zero_le _, fun j hj => absurd hj (by omega), HF.out⟩
  case round =>
    rename World => wq
    obtain ⟨k, rfl, hk, hall, hT⟩ := hrel
    clear HF t0
    have HF := Lib.hid hT
    have HJ := Lib.hid hall
    clear hT hall
    by_cases hlt : k < 8
    · have k1 : (k : Int) < 8 := by omega
      have b0 := HF.out.tab
      obtain ⟨XS, ok, hf⟩ : ∃ XS ok, fvalV bs (ll ls) (k : Int) = (XS, ok) := ⟨_, _, rfl⟩
      have HV := Lib.hid hf
      clear hf
      go_wp2_with fail
      refine (specFileValues_any _ _ _ _ _ _ _ _ _ _ HD.out.2.1 HF.out.2.2.1.here hnd HD.out.2.2.1 HD.out.2.2.2.1 HF.out.2.1.here hn HD.out.2.2.2.2).mono ?_
      rintro e w3 ⟨A2, n2, c2, rfl, hll, ho, hk2⟩
      replace HF := Lib.hid (HF.out.keep hk2)
      clear hll ho hk2 b0
      have hok : (fvalV bs (ll ls) (k : Int)).2 = ok := by rw [HV.out]
      rw [hok]
      cases ok with
      | false =>
        rw [readB_at HR.out (by omega)] at hok
        cases hok
      | true =>
        have HZ := Lib.hid (show ∀ j : Nat, j < k + 1 → (fvalV bs (ll ls) (j : Int)).2 = true from fun j hj => by
          rcases Nat.lt_or_ge j k with h1 | h1
          · exact HJ.out j h1
          · obtain rfl : j = k := by omega
            exact hok)
        clear hok
        go_wp2
        go_roundw
        case rel => exact ⟨k + 1, by go_num, by omega, HZ.out, HF.out⟩
        case measure => simp [intOf]; omega
    · obtain rfl : k = 8 := by omega
      have b0 := HF.out.tab
      obtain ⟨z0, z1, z2⟩ := HF.out.cells
      go_wp2_with fail
      have hgs := HF.out.2.2.2.size
      refine (specCopyDev_any _ _ _ _ _ HD.out.2.1 HF.out.2.2.1.here (by omega) H4.out.1).mono ?_
      rintro e w4 ⟨D4, d4, cs, rfl, hcl, hcs, ho, hk⟩
      replace HF := Lib.hid (HF.out.keep hk)
      have HO := Lib.hid (And.intro hcl (And.intro hcs (ho.base_le hgs)))
      clear hcl hcs ho hk b0 z0 z1 z2 hgs
      have b0 := HF.out.tab
      obtain ⟨z0, z1, z2⟩ := HF.out.cells
      go_wp2_with fail
      have hgs := HF.out.2.2.2.size
      refine (specCopyTab_any _ _ _ _ _ HD.out.2.2.2.1 HF.out.2.1.here (by omega) HD.out.2.2.2.2).mono ?_
      rintro e w5 ⟨A5, c5, ys, rfl, hyl, hys, ho, hk⟩
      have K1 := grown_alloc (grown_refl w5 none) (.cells #[.slice A5 8 c5] 26)
      have K2 := grown_alloc (grown_refl (w5.alloc (.cells #[.slice A5 8 c5] 26)) none) (.cells #[.int .i64 a, .int .i64 b, .int .i64 h] 28)
      have hX : w.heap.size + 1 + 1 + 1 < w5.heap.size := (HF.out.keep hk).1.2.2.2.lt
      have hN := Blk.new (w5.alloc (.cells #[.slice A5 8 c5] 26)) 28 #[.int .i64 a, .int .i64 b, .int .i64 h]
      rw [size_alloc1] at hN
      have HS := Lib.hid (show CRet w A 8 c ls D bs a b h (w5.heap.size + 1) w5.heap.size A5 8 c5 ys a b h D4 nd d4 cs _ from
        ⟨((HF.out.keep hk).keep K1).keep K2, ⟨(Blk.new w5 _ _).keep K2, hN⟩, ((HO.out.2.2.keep hk).keep K1).keep K2, ((ho.base_le hgs).keep K1).keep K2⟩)
      have HX := Lib.hid (And.intro (And.intro HO.out.1 (And.intro HO.out.2.1 (And.intro hyl hys))) hX)
      obtain ⟨v0, v1, v2⟩ := ((HF.out.keep hk).keep K1).cells
      clear hyl hys ho hk K1 K2 hX hN hgs b0 z0 z1 z2 HO HF
      obtain ⟨z0, z1, z2⟩ := HS.out.1.cells
      have hcase := HC.out
      rcases hcase with e1 | ⟨e1, e2⟩ | ⟨e1, e2, e3⟩
      all_goals (
        go_wp2_with fail
        clear v0 v1 v2 z0 z1 z2
        have x0 := HS.out.2.1.1.cell 0
        obtain ⟨y0, y1, y2⟩ := cells3 HS.out.2.1.2
        go_wp2_with fail
        refine wp_region_held_drew (S := (fun w' => w'.cell? ⟨w5.heap.size, 0, none⟩ = some (.slice A5 8 c5) ∧ w'.cell? ⟨(w5.heap.size + 1), 0, none⟩ = some (.int .i64 a) ∧ w'.cell? ⟨(w5.heap.size + 1), 1, none⟩ = some (.int .i64 b) ∧ w'.cell? ⟨(w5.heap.size + 1), 2, none⟩ = some (.int .i64 h))) (by kernel_rfl) ?_ (fun hHeld => ?_)
        · exact ⟨x0, y0, y1, y2⟩
        replace HS := Lib.hid (HS.out.keep (grown_drew (grown_refl _ none)))
        clear x0 y0 y1 y2
        generalize World.drew _ = wz at HS hHeld ⊢
        obtain ⟨⟨t0, t1⟩, ⟨r0, r1, r2⟩, q0, q1, q2⟩ := HS.out.1.res
        have n1' : w5.heap.size ≠ w.heap.size + 1 + 1 := by have := HX.out.2; omega
        have n2' : w5.heap.size ≠ w.heap.size + 1 + 1 + 1 := by have := HX.out.2; omega
        have n3' : w5.heap.size + 1 ≠ w.heap.size + 1 + 1 := by have := HX.out.2; omega
        have n4' : w5.heap.size + 1 ≠ w.heap.size + 1 + 1 + 1 := by have := HX.out.2; omega
        have na : w.heap.size + 1 + 1 ≠ w.heap.size + 1 + 1 + 1 := by omega
        have nb : w.heap.size + 1 + 1 + 1 ≠ w.heap.size + 1 + 1 := by omega
        have nc : w.heap.size ≠ w.heap.size + 1 := by omega
        have nd' : w.heap.size + 1 ≠ w.heap.size := by omega
        refine heldY 0 91 ?_
        refine heldY 1 92 ?_
        refine heldY 2 93 ?_
        refine heldY 3 10 ?_
        refine wpAnyH_ready (rs := [4]) (by kernel_rfl) (by simp) ?_
        refine AllReadyH.cons rfl (fun K hK => ?_) AllReadyH.nil
        go_simp
        refine hK.out _ _ ?_ (fun hHeld => ?_)
        · exact ⟨cell_far hHeld.1 _ n1', cell_far hHeld.2.1 _ n3', cell_far hHeld.2.2.1 _ n3', cell_far hHeld.2.2.2 _ n3'⟩
        clear hK K
        try simp only [Act.put, List.setIfInBounds_toArray, List.set_cons_zero, List.set_cons_succ]
        refine wpAnyH_ready (rs := [5]) (by kernel_rfl) (by simp) ?_
        refine AllReadyH.cons rfl (fun K hK => ?_) AllReadyH.nil
        go_simp
        refine hK.out _ _ ?_ (fun hHeld => ?_)
        · exact ⟨cell_far3 hHeld.1 _ _ _ n2', cell_far3 hHeld.2.1 _ _ _ n4', cell_far3 hHeld.2.2.1 _ _ _ n4', cell_far3 hHeld.2.2.2 _ _ _ n4'⟩
        clear hK K
        try simp only [Act.put, List.setIfInBounds_toArray, List.set_cons_zero, List.set_cons_succ]
        refine heldY 6 13 ?_
        refine heldY 7 14 ?_
        refine wpAnyH_done (by kernel_rfl) ?_ _
        go_wp2
        exact bodyPost_ret (v := .tuple #[.slice D4 nd d4, .agg #[.slice A5 8 c5], .agg #[.int .i64 a, .int .i64 b, .int .i64 h], .int .i64 0, .bool false]) (by simp [results, Tryz.results7, go_sem, *]) rfl
          ⟨_, _, cs, _, _, ys, rfl, HX.out.1, (HS.out.fin _ _ _ _).1, (HS.out.fin _ _ _ _).2.1, (HS.out.fin _ _ _ _).2.2⟩)
end
end Go.Proofs.YtolpnloghogjjaaGreat
namespace Go.Proofs.YtolpnloghogjjaaGreat
open Go.ChangeShapes Go.WideShapes Go.ChangeAt Go.RowKit
set_option linter.unusedVariables false
section
variable {w wr w' : World} {A D A1 D1 D2 : Option Addr} {n c m1 c1 n1 d1 n2 d2 X Y : Nat} {ls ts : List Li} {bs cs cs2 : List Bk} {a b h a1 b1 h1 a2 b2 h2 : Int}
/-- Boxes and results' variables, where something behind them is written to. -/
theorem CIn.far (H : CIn w A n c ls D bs a b h wr) {g : Nat} (hg : w.heap.size + 1 + 1 + 1 < g) (o : Nat) (u : Value) : CIn w A n c ls D bs a b h (wr.setCell ⟨g, o, none⟩ u) :=
  ⟨⟨H.1.1.far (p := ⟨g, o, none⟩) (by dsimp only; omega) u, H.1.2.1.far (p := ⟨g, o, none⟩) (by dsimp only; omega) u, H.1.2.2.1.far (p := ⟨g, o, none⟩) (by dsimp only; omega) u, H.1.2.2.2.far (p := ⟨g, o, none⟩) (by dsimp only; omega) u⟩,
    H.2.1.grown (grown_one wr g o u) (fun k e => by injection e with e; omega), H.2.2.1.low (by omega) o u, grown_put H.2.2.2 (p := ⟨g, o, none⟩) (by dsimp only; omega) u⟩
/-- Another device, and other heads in their variable. -/
theorem CRet.heads (H : CRet w A n c ls D bs a b h X Y A1 m1 c1 ts a1 b1 h1 D1 n1 d1 cs wr) (hd : DOwn wr w.heap.size (.slice D2 n2 d2) cs2) (hX : w.heap.size + 1 + 1 + 1 < X) (hne : Y ≠ X) :
    CRet w A n c ls D bs a b h X Y A1 m1 c1 ts a2 b2 h2 D2 n2 d2 cs2 (((wr.setCell ⟨X, 0, none⟩ (.int .i64 a2)).setCell ⟨X, 1, none⟩ (.int .i64 b2)).setCell ⟨X, 2, none⟩ (.int .i64 h2)) := by
  have k0 := H.2.1.2
  have k1 := k0.put 0 (.int .i64 a2)
  have k2 := k1.put 1 (.int .i64 b2)
  exact ⟨((H.1.far hX 0 _).far hX 1 _).far hX 2 _, ⟨((H.2.1.1.far (p := ⟨X, 0, none⟩) hne _).far (p := ⟨X, 1, none⟩) hne _).far (p := ⟨X, 2, none⟩) hne _, k2.put 2 _⟩,
    ((hd.var k0 (by decide) (by decide) 0 _).var k1 (by decide) (by decide) 1 _).var k2 (by decide) (by decide) 2 _,
    ((H.2.2.2.var k0 (by decide) (by decide) 0 _).var k1 (by decide) (by decide) 1 _).var k2 (by decide) (by decide) 2 _⟩
/-- A number is put into a list of the table. -/
theorem CRet.list (H : CRet w A n c ls D bs a b h X Y A1 m1 c1 ts a1 b1 h1 D1 n1 d1 cs wr) {g cl f : Nat} {xs : List Int} (hf : ts[f]? = some ⟨some ⟨g, 0, none⟩, cl, xs⟩) : (∃ q, Blk wr g 3 q) ∧ w.heap.size ≤ g ∧ g ≠ X ∧ g ≠ Y ∧ g ≠ w.heap.size ∧ g ≠ w.heap.size + 1 ∧ g ≠ w.heap.size + 1 + 1 ∧ g ≠ w.heap.size + 1 + 1 + 1 := by
  have h0 := H.2.2.2.2.1 _ (List.mem_of_getElem? hf)
  obtain ⟨q, hq⟩ := own_blk h0
  have ne : ∀ {V : Nat} {t : TypeId} {q : Array Value}, Blk wr V t q → t ≠ 3 → g ≠ V := fun hV ht e => own_var h0 hV ht (by rw [e]; rfl)
  exact ⟨⟨q, hq⟩, (VOwn.lt h0 g rfl).1, ne H.2.1.2 (by decide), ne H.2.1.1 (by decide), ne H.1.1.1 (by decide), ne H.1.1.2.1 (by decide), ne H.1.1.2.2.1 (by decide), ne H.1.1.2.2.2 (by decide)⟩
theorem CRet.set (H : CRet w A n c ls D bs a b h X Y A1 m1 c1 ts a1 b1 h1 D1 n1 d1 cs wr) {g cl f : Nat} {xs : List Int} (hf : ts[f]? = some ⟨some ⟨g, 0, none⟩, cl, xs⟩) (i : Nat) (v : Int) :
    CRet w A n c ls D bs a b h X Y A1 m1 c1 (ts.set f ⟨some ⟨g, 0, none⟩, cl, xs.set i v⟩) a1 b1 h1 D1 n1 d1 cs (wr.setCell ⟨g, i, none⟩ (.int .i64 v)) := by
  obtain ⟨⟨q, hq⟩, hlo, nX, nY, n0, n1, n2, n3⟩ := H.list hf
  exact ⟨H.1.far (by omega) i _, ⟨H.2.1.1.far (p := ⟨g, i, none⟩) (fun e => nY e.symm) _, H.2.1.2.far (p := ⟨g, i, none⟩) (fun e => nX e.symm) _⟩, H.2.2.1.var hq (by decide) (by decide) i _, H.2.2.2.set hf i v⟩
end
theorem ll_tset {ts : List Li} {f i : Nat} {l : Li} {v : Int} (hf : ts[f]? = some l) (A : Option Addr) (c : Nat) : ll (ts.set f ⟨A, c, l.xs.set i v⟩) = tset (ll ts) f i v := by
  rw [ll_set, tset_row (ll_at hf)]
/-- What the model's CleanBlock answers, after the pages were moved. -/
def CleanPost (l : List (Int × List Pg)) (T : List (List Int)) (a b h : Int) (n nn : Nat) (m mv : Int) (o : Option MSt) (w : World) (e : Ending) (w' : World) : Prop :=
  ((o = none ∨ m = 100) ∧ CleanMade l n T 8 a b h 0 false w e w') ∨ ∃ y, o = some y ∧ m ≠ 100 ∧ CleanMade (y.l.set nn (m + 1, [pz, pz, pz, pz])) n y.T 8 y.a y.b y.h mv true w e w'
section
variable {A D : Option Addr} {n c nd cd : Nat} {ls : List Li} {bs : List Bk} {a b h s : Int} {w : World} {nn : Nat} {m : Int} {ps : List Pg} {o : Option MSt}
set_option maxRecDepth 100000 in
set_option maxHeartbeats 8000000 in
theorem specClean_moves (hm : MovesIs nd (movFrom (isUsed (ll ls) nn) 0 ps) s ⟨bs.map Bk.is, ll ls, a, b, h⟩ o) (hh : headB a b h nn = false) (hv : (headsB nd a b h && devB bs) = true) (ht : inB s 1 1000000 = true) (hrb : readB bs (ll ls) = true) (hq : (bs.map Bk.is)[nn]? = some (m, ps)) (hld : bs.length = nd) (hrd : DRow w w.heap.size D bs) (hnd : nd ≤ 1048576) (hpd : ∀ b, b ∈ bs → b.ps.length ≤ 1048576) (hl : ls.length = n) (hr : TRow w w.heap.size A ls) (hn : n ≤ 1048576) (hp : ∀ l, l ∈ ls → l.xs.length ≤ 1048576) :
    Calls Tryz.prog 7 #[.slice D nd cd, .agg #[.slice A n c], .agg #[.int .i64 a, .int .i64 b, .int .i64 h], .int .i64 (nn : Int), .int .i64 s] w (CleanPost (bs.map Bk.is) (ll ls) a b h nd nn m ((movFrom (isUsed (ll ls) nn) 0 ps).length : Nat) o w) := by
  have hI := MInv.start hld hv hrb hq (head_no hh)
  have h4 : ps.length = 4 := hI.four
  obtain ⟨Ab, cb, hbk⟩ := is_some hq
  have hnnd : nn < nd := by have := (List.getElem?_eq_some_iff.1 hbk).1; omega
  have hb : inB (nn : Int) 0 ((nd : Int) - 1) = true := inB_iff.2 ⟨by omega, by omega⟩
  obtain ⟨g, off, _, _, _, _, rfl, _⟩ := hrd.at_ (i := nn) (by omega)
  obtain ⟨_, gT, oT, _, _, _, _, _, rfl, _⟩ := hr.open_ (readB_tab hrb).2 (show 0 < 8 by omega) (show 0 < 6 by omega)
  obtain ⟨tot, htot⟩ : ∃ k, (movFrom (isUsed (ll ls) nn) 0 ps).length = k := ⟨_, rfl⟩
  have htot4 : tot ≤ 4 := by have h1 := mov_len (isUsed (ll ls) nn) ps 0; omega
  obtain ⟨hs0, hs9⟩ := inB_iff.1 ht
  have e1 : ((nn : Int) == a) = false := beq_eq_false_iff_ne.2 (head_no hh).1
  have e2 : ((nn : Int) == b) = false := beq_eq_false_iff_ne.2 (head_no hh).2.1
  have e3 : ((nn : Int) == h) = false := beq_eq_false_iff_ne.2 (head_no hh).2.2
  have HM := Lib.hid (And.intro hm (And.intro hI htot))
  have HK := Lib.hid (And.intro hbk (And.intro h4 (And.intro hq hrb)))
  rw [htot]
  clear hm hh hI hq htot hbk h4
  have HV := Lib.hid (readB_tab hrb).2
  have HB := Lib.hid hb
  have HT := Lib.hid ht
  have HR := Lib.hid hrb
  obtain ⟨hd, htab⟩ := readB_tab hrb
  obtain ⟨⟨_, h12⟩, hall⟩ := dev_parts hd
  have hn12 : nd ≤ 12 := by omega
  have h8n : n = 8 := by rw [← hl, ← ll_length]; exact ((tabB_iff _).1 htab).len
  have H4 := Lib.hid (And.intro (show ∀ b, b ∈ bs → b.ps.length = 4 from fun b hm => (block_parts (hall b hm)).2.1) (And.intro htab hd))
  clear hd htab h12 hall
  subst h8n
  have hnn12 : (nn : Int) < 12 := by omega
  have HF := Lib.hid (CIn.start hr hrd 8 c a b h)
  have HD := Lib.hid (And.intro hv (And.intro hld (And.intro hpd (And.intro hl hp))))
  clear hrd hr hld hpd hl hp
  go_enter Tryz.func7, Tryz.ntmps7
  obtain ⟨z0, z1, z2⟩ := HF.out.cells
  go_wp2_with fail
  refine (specHeads_val HD.out.1 HD.out.2.1 HF.out.2.2.1.here hnd HD.out.2.2.1).mono ?_
  rintro e w1 ⟨rfl, hk⟩
  replace HF := Lib.hid (HF.out.keep hk)
  clear hk z0 z1 z2
  have t0 := HF.out.tab
  go_wp2_with fail
  refine (specTabValid_val HV.out HD.out.2.2.2.1 HF.out.2.1.here hn HD.out.2.2.2.2).mono ?_
  rintro e w2 ⟨rfl, hk⟩
  replace HF := Lib.hid (HF.out.keep hk)
  clear hk t0
  have t0 := HF.out.tab
  go_wp2_with (go_at_call 39; refine (in_any _ _ _ _).mono ?_; rintro e w' ⟨rfl, rfl⟩; first | rw [HB.out] | rw [HT.out])
  go_loopw [15] (fun i wr => ∃ k : Nat, i = .int .i64 k ∧ k ≤ 8 ∧ (∀ j : Nat, j < k → (fvalV bs (ll ls) (j : Int)).2 = true) ∧ CIn w (some ⟨gT, oT, none⟩) 8 c ls (some ⟨g, off, none⟩) bs a b h wr) (fun i _ => 8 - (intOf i).toNat)
  case atStart => exact ⟨0, rfl, Nat.zero_le _, fun j hj => absurd hj (by omega), HF.out⟩
  case round =>
    rename World => wq
    obtain ⟨k, rfl, hk, hall, hT⟩ := hrel
    clear HF t0
    have HF := Lib.hid hT
    have HJ := Lib.hid hall
    clear hT hall
    by_cases hlt : k < 8
    · have k1 : (k : Int) < 8 := by omega
      have b0 := HF.out.tab
      obtain ⟨XS, ok, hf⟩ : ∃ XS ok, fvalV bs (ll ls) (k : Int) = (XS, ok) := ⟨_, _, rfl⟩
      have HV := Lib.hid hf
      clear hf
      go_wp2_with fail
      refine (specFileValues_any _ _ _ _ _ _ _ _ _ _ HD.out.2.1 HF.out.2.2.1.here hnd HD.out.2.2.1 HD.out.2.2.2.1 HF.out.2.1.here hn HD.out.2.2.2.2).mono ?_
      rintro e w3 ⟨A2, n2, c2, rfl, hll, ho, hk2⟩
      replace HF := Lib.hid (HF.out.keep hk2)
      clear hll ho hk2 b0
      have hok : (fvalV bs (ll ls) (k : Int)).2 = ok := by rw [HV.out]
      rw [hok]
      cases ok with
      | false =>
        rw [readB_at HR.out (by omega)] at hok
        cases hok
      | true =>
        have HZ := Lib.hid (show ∀ j : Nat, j < k + 1 → (fvalV bs (ll ls) (j : Int)).2 = true from fun j hj => by
          rcases Nat.lt_or_ge j k with h1 | h1
          · exact HJ.out j h1
          · obtain rfl : j = k := by omega
            exact hok)
        clear hok
        go_wp2
        go_roundw
        case rel => exact ⟨k + 1, by go_num, by omega, HZ.out, HF.out⟩
        case measure => simp [intOf]; omega
    · obtain rfl : k = 8 := by omega
      have b0 := HF.out.tab
      obtain ⟨z0, z1, z2⟩ := HF.out.cells
      go_wp2_with fail
      have hgs := HF.out.2.2.2.size
      refine (specCopyDev_any _ _ _ _ _ HD.out.2.1 HF.out.2.2.1.here (by omega) H4.out.1).mono ?_
      rintro e w4 ⟨D4, d4, cs, rfl, hcl, hcs, ho, hk⟩
      replace HF := Lib.hid (HF.out.keep hk)
      have HO := Lib.hid (And.intro hcl (And.intro hcs (ho.base_le hgs)))
      clear hcl hcs ho hk b0 z0 z1 z2 hgs
      have b0 := HF.out.tab
      obtain ⟨z0, z1, z2⟩ := HF.out.cells
      go_wp2_with fail
      have hgs := HF.out.2.2.2.size
      refine (specCopyTab_any _ _ _ _ _ HD.out.2.2.2.1 HF.out.2.1.here (by omega) HD.out.2.2.2.2).mono ?_
      rintro e w5 ⟨A5, c5, ys, rfl, hyl, hys, ho, hk⟩
      have K1 := grown_alloc (grown_refl w5 none) (.cells #[.slice A5 8 c5] 26)
      have K2 := grown_alloc (grown_refl (w5.alloc (.cells #[.slice A5 8 c5] 26)) none) (.cells #[.int .i64 a, .int .i64 b, .int .i64 h] 28)
      have hX : w.heap.size + 1 + 1 + 1 < w5.heap.size := (HF.out.keep hk).1.2.2.2.lt
      have hN := Blk.new (w5.alloc (.cells #[.slice A5 8 c5] 26)) 28 #[.int .i64 a, .int .i64 b, .int .i64 h]
      rw [size_alloc1] at hN
      have HS := Lib.hid (show CRet w (some ⟨gT, oT, none⟩) 8 c ls (some ⟨g, off, none⟩) bs a b h (w5.heap.size + 1) w5.heap.size A5 8 c5 ys a b h D4 nd d4 cs _ from
        ⟨((HF.out.keep hk).keep K1).keep K2, ⟨(Blk.new w5 _ _).keep K2, hN⟩, ((HO.out.2.2.keep hk).keep K1).keep K2, ((ho.base_le hgs).keep K1).keep K2⟩)
      have HX := Lib.hid (And.intro (And.intro HO.out.1 (And.intro HO.out.2.1 (And.intro hyl hys))) hX)
      obtain ⟨v0, v1, v2⟩ := ((HF.out.keep hk).keep K1).cells
      clear hyl hys ho hk K1 K2 hX hN hgs b0 z0 z1 z2 HO HF
      obtain ⟨z0, z1, z2⟩ := HS.out.1.cells
      obtain ⟨gA, capA, eA, _⟩ := TOwn.head HS.out.2.2.2 HX.out.1.2.2.1 (by omega)
      injection eA with eA1 _ eA2
      subst eA1
      clear eA2
      go_wp2
      go_loopw [18, 21, 22] (fun xv mv kv wr => ∃ (k q dx : Nat) (Dx : Option Addr) (cs : List Bk) (ys : List Li) (y : MSt), xv = .slice Dx nd dx ∧ mv = .int .i64 q ∧ kv = .int .i64 k ∧ k ≤ 4 ∧ MovesIs nd (movFrom (isUsed (ll ls) nn) k (ps.drop k)) (s + q) y o ∧ q + (movFrom (isUsed (ll ls) nn) k (ps.drop k)).length = tot ∧ MInv nd nn (m, ps) y ∧ (cs.map Bk.is = y.l ∧ ll ys = y.T ∧ ys.length = 8) ∧
        CRet w (some ⟨gT, oT, none⟩) 8 c ls (some ⟨g, off, none⟩) bs a b h (w5.heap.size + 1) w5.heap.size (some ⟨gA, 0, none⟩) 8 c5 ys y.a y.b y.h Dx nd dx cs wr) (fun _ _ kv _ => 4 - (intOf kv).toNat)
      case atStart => exact ⟨0, 0, d4, D4, cs, ys, _, rfl, rfl, rfl, Nat.zero_le _, by rw [List.drop_zero, show s + ((0 : Nat) : Int) = s by omega]; exact HM.out.1, by rw [List.drop_zero, Nat.zero_add]; exact HM.out.2.2, HM.out.2.1, ⟨HX.out.1.2.1, HX.out.1.2.2.2, HX.out.1.2.2.1⟩, HS.out⟩
      case round =>
        rename World => wr
        clear HS HM v0 v1 v2 z0 z1 z2
        obtain ⟨k, q, dx, Dx, cs, ys, y, rfl, rfl, rfl, hk, hmv, hqt, hI, ⟨hcs, hys, hyl⟩, hS⟩ := hrel
        have HS := Lib.hid hS
        have HI := Lib.hid (And.intro hI (And.intro hcs (And.intro hys hyl)))
        clear hS hI hcs hys hyl
        by_cases hlt : k < 4
        · have k0 : decide ((0 : Int) ≤ k) = true := decide_eq_true (by omega)
          have k1 : (k : Int) < 4 := by omega
          have nn0 : decide ((0 : Int) ≤ nn) = true := decide_eq_true (by omega)
          have nn1 : (nn : Int) < nd := by omega
          obtain ⟨p, hp⟩ : ∃ p, ps[k]? = some p := ⟨_, List.getElem?_eq_getElem (by have := HK.out.2.1; omega)⟩
          have hrow := HS.out.1.2.2.1
          obtain ⟨g', off', m', Ab', cb', ps', e0, _, hgw, hb', c0, c1, hpr⟩ := hrow.at_ (i := nn) (by have := HD.out.2.1; omega)
          rw [HK.out.1] at hb'
          injection e0 with e0
          injection e0 with e4 e5
          subst e4; subst e5
          injection hb' with hb'
          injection hb' with e5 e6 e7 e8
          subst e5; subst e6; subst e7; subst e8
          obtain ⟨g2, off2, e9, _, hg2, hp5⟩ := hpr (by have := HK.out.2.1; omega)
          obtain ⟨p0, p1, p2, p3, p4⟩ := hp5 _ _ hp
          subst e9
          rw [HK.out.2.1] at c1
          obtain ⟨f, x1, x2, x3, x4⟩ := p
          dsimp only at p0 p1 p2 p3 p4
          have K1 := grown_alloc (grown_refl wr none) (.cells #[.bool f, .int .i64 x1, .int .i64 x2, .int .i64 x3, .int .i64 x4] 72)
          have HP := Lib.hid (Blk.new wr 72 #[.bool f, .int .i64 x1, .int .i64 x2, .int .i64 x3, .int .i64 x4])
          have HW := HS
          have KW := Lib.hid K1
          replace HS := Lib.hid (HS.out.keep K1)
          obtain ⟨u0, u1, u2, u3, u4⟩ := cells5 HP.out
          clear K1 hrow hpr hp5 hgw hg2
          cases f with
          | false =>
            have hu : isUsed (ll ls) nn k = false := by
              cases hu : isUsed (ll ls) nn k
              · rfl
              · have := (used_page HK.out.2.2.2 HK.out.2.2.1 hp hu).1
                cases this
            rw [mov_no hp hu] at hmv hqt
            have HR2 := Lib.hid (And.intro hmv hqt)
            clear hmv hqt hp hu
            go_wp2_with fail
            go_quiet (fail)
            replace HS := Lib.hid (HS.out.keep (grown_drewN (grown_refl _ none) nq))
            clear c0 c1 p0 p1 p2 p3 p4 u0 u1 u2 u3 u4 HP
            generalize World.drewN _ nq = wu at HS ⊢
            go_wp2
            go_roundw
            case rel => exact ⟨k + 1, q, dx, Dx, cs, ys, y, rfl, rfl, by go_num, by omega, HR2.out.1, HR2.out.2, HI.out.1, HI.out.2, HS.out⟩
            case measure => simp [intOf]; omega
          | true =>
            obtain ⟨fn, jn, ea, eb, hf8, hj6⟩ := HI.out.1.args hp rfl
            dsimp only at ea eb
            subst ea; subst eb
            obtain ⟨_, g', off', gx, ox, cl, xs, z, e0, hll, h6, hz, hc⟩ := HS.out.1.2.1.open_ H4.out.2.1 hf8 hj6
            injection e0 with e0
            injection e0 with e4 e5
            subst e4; subst e5
            have hus := used_is_at HK.out.2.2.2 HK.out.2.2.1 hp rfl rfl hc
            have t0 := HS.out.1.tab
            have d0 := HS.out.1.2.1.cellf hll h6
            have d1 := (HS.out.1.2.1.inner hll).cellf hz
            have f0 : decide ((0 : Int) ≤ fn) = true := decide_eq_true (by omega)
            have f1 : (fn : Int) < 8 := by omega
            have j0 : decide ((0 : Int) ≤ jn) = true := decide_eq_true (by omega)
            have j1 : (jn : Int) < 6 := by omega
            by_cases hze : z = (nn : Int) * 4 + k
            · have hu : isUsed (ll ls) nn k = true := by rw [hus, decide_eq_true hze]
              have e5 : (z != (nn : Int) * 4 + k) = false := by simp [bne, hze]
              rw [mov_yes hp hu] at hmv hqt
              obtain ⟨n1, l1, a1, b1, h1, v, hA, hsz, hmv⟩ := hmv
              simp only [List.length_cons] at hqt
              have q4 : (q : Int) < 4 := by omega
              have hAc := AppendIs.of hA (bk_is HI.out.2.1)
              have hcl : cs.length = nd := by rw [← HI.out.1.len, ← HI.out.2.1, List.length_map]
              have hdev : devB cs = true := (devB_list HI.out.2.1).trans HI.out.1.dev
              have hall := (dev_parts hdev).2
              have hsm : ∀ b, b ∈ cs → b.ps.length ≤ 1048576 := fun b hm => by have := (block_parts (hall b hm)).2.1; omega
              obtain ⟨xs', y0, hT1, hT2, hT3, _⟩ := HI.out.1.tab.cell hf8 hj6
              have HA := Lib.hid (And.intro hAc (And.intro hcl (And.intro hsm (And.intro hsz (And.intro hA (And.intro hT1 (And.intro hT2 (And.intro hT3 hp))))))))
              have HR2 := Lib.hid (And.intro hmv hqt)
              have HJ2 := Lib.hid (And.intro hf8 hj6)
              clear hmv hqt hp hu hus hll h6 hz hc hA hAc hcl hdev hall hsm hsz hT1 hT2 hT3 hze
              go_wp2_with fail
              go_quiet (fail)
              have HK2 := Lib.hid (grown_trans KW.out (grown_drewN (grown_refl _ none) nq))
              replace HP := Lib.hid (HP.out.keep (grown_drewN (grown_refl _ none) nq))
              clear c0 c1 p0 p1 p2 p3 p4 u0 u1 u2 u3 u4 t0 d0 d1 e5 KW HS
              generalize World.drewN _ nq = wu at HP HK2 ⊢
              have HS := Lib.hid (HW.out.keep (grown_put HK2.out (p := ⟨wr.heap.size, 4, none⟩) (Nat.le_refl _) (.int .i64 (s + q))))
              have HP2 := Lib.hid (show Blk (wu.setCell ⟨wr.heap.size, 4, none⟩ (.int .i64 (s + q))) wr.heap.size 72 #[.bool true, .int .i64 fn, .int .i64 jn, .int .i64 x3, .int .i64 (s + q)] from HP.out.put 4 _)
              have q40 := HP.out.frozen 4
              have q41 : wu.cell? ⟨wr.heap.size, 4, none⟩ = some (.int .i64 x4) := HP.out.cell 4
              obtain ⟨u0, u1, u2, u3, u4⟩ := cells5 HP2.out
              obtain ⟨zz0, zz1, zz2⟩ := cells3 HS.out.2.1.2
              clear HP HW HK2
              go_wp2_with fail
              have hgs := HS.out.1.2.2.2.size
              refine (specAppend_val HA.out.1 HA.out.2.1 HS.out.2.2.1.row.here (by omega) HA.out.2.2.1).mono ?_
              rintro e w7 ⟨D7, c7, cs7, rfl, hcl7, hcs7, ho7, hk7⟩
              have K3 := grown_alloc (grown_refl w7 none) (.cells #[.int .i64 a1, .int .i64 b1, .int .i64 h1] 28)
              have HO := Lib.hid (And.intro hcl7 (And.intro hcs7 ((ho7.base_le hgs).keep K3)))
              replace HS := Lib.hid ((HS.out.keep hk7).keep K3)
              replace HP2 := Lib.hid ((HP2.out.keep hk7).keep K3)
              have HN := Lib.hid (Blk.new w7 28 #[.int .i64 a1, .int .i64 b1, .int .i64 h1])
              clear hcl7 hcs7 ho7 hk7 K3 hgs q40 q41 u0 u1 u2 u3 u4 zz0 zz1 zz2
              have hmv := HR2.out.1
              rcases hmv with ⟨hv0, ho⟩ | ⟨hv0, hmv⟩
              · have e6 : decide (v < 0) = true := decide_eq_true hv0
                have HF := Lib.hid HS.out.1
                have HQ0 := Lib.hid ho
                clear hv0 ho HS HP2 HN HO
                have x0 := HF.out.tab
                obtain ⟨y0, y1, y2⟩ := HF.out.cells
                go_wp2_with fail
                refine wp_region_held_drew (S := (fun w' => w'.cell? ⟨w.heap.size, 0, none⟩ = some (.slice (some ⟨gT, oT, none⟩) 8 c) ∧ w'.cell? ⟨w.heap.size + 1, 0, none⟩ = some (.int .i64 a) ∧ w'.cell? ⟨w.heap.size + 1, 1, none⟩ = some (.int .i64 b) ∧ w'.cell? ⟨w.heap.size + 1, 2, none⟩ = some (.int .i64 h))) (by kernel_rfl) ?_ (fun hHeld => ?_)
                · exact ⟨x0, y0, y1, y2⟩
                replace HF := Lib.hid (HF.out.keep (grown_drew (grown_refl _ none)))
                clear x0 y0 y1 y2
                generalize World.drew _ = wq at HF hHeld ⊢
                have x0 := HF.out.tab
                obtain ⟨y0, y1, y2⟩ := HF.out.cells
                have n1' : w.heap.size ≠ w.heap.size + 1 + 1 := by omega
                have n2' : w.heap.size ≠ w.heap.size + 1 + 1 + 1 := by omega
                have n3' : w.heap.size + 1 ≠ w.heap.size + 1 + 1 := by omega
                have n4' : w.heap.size + 1 ≠ w.heap.size + 1 + 1 + 1 := by omega
                have na : w.heap.size + 1 + 1 ≠ w.heap.size + 1 + 1 + 1 := by omega
                have nb : w.heap.size + 1 + 1 + 1 ≠ w.heap.size + 1 + 1 := by omega
                have nc : w.heap.size ≠ w.heap.size + 1 := by omega
                have nd' : w.heap.size + 1 ≠ w.heap.size := by omega
                refine heldY 0 140 ?_
                refine heldY 2 142 ?_
                refine heldY 4 144 ?_
                refine wpAnyH_ready (rs := [1]) (by kernel_rfl) (by simp) ?_
                refine AllReadyH.cons rfl (fun K hK => ?_) AllReadyH.nil
                go_simp
                go_at_call 41; have hgs := HF.out.2.2.2.size; refine (specCopyDev_any _ _ _ _ _ HD.out.2.1 HF.out.2.2.1.here (by omega) H4.out.1).mono ?_; rintro e w5 ⟨A5, c5, cs, rfl, hcl, hcs, ho5, hk⟩; have HO := Lib.hid (And.intro hcl (And.intro hcs (ho5.base_le hgs))); replace HF := Lib.hid (HF.out.keep hk); clear hcl hcs ho5 hk hgs x0 y0 y1 y2; have x0 := HF.out.tab; obtain ⟨y0, y1, y2⟩ := HF.out.cells
                refine hK.out _ _ ?_ (fun hHeld => ?_)
                · exact ⟨x0, y0, y1, y2⟩
                clear hK K
                try simp only [Act.put, List.setIfInBounds_toArray, List.set_cons_zero, List.set_cons_succ]
                refine wpAnyH_ready (rs := [3]) (by kernel_rfl) (by simp) ?_
                refine AllReadyH.cons rfl (fun K hK => ?_) AllReadyH.nil
                go_simp
                go_at_call 42; have hgs := HF.out.2.2.2.size; refine (specCopyTab_any _ _ _ _ _ HD.out.2.2.2.1 HF.out.2.1.here (by omega) HD.out.2.2.2.2).mono ?_; rintro e w6 ⟨A6, c6, ts, rfl, htl, hts, ho6, hk⟩; replace HO := Lib.hid (And.intro HO.out.1 (And.intro HO.out.2.1 (HO.out.2.2.keep hk))); have HQ := Lib.hid (And.intro htl (And.intro hts (ho6.base_le hgs))); replace HF := Lib.hid (HF.out.keep hk); clear htl hts ho6 hk hgs x0 y0 y1 y2; have x0 := HF.out.tab; obtain ⟨y0, y1, y2⟩ := HF.out.cells
                refine hK.out _ _ ?_ (fun hHeld => ?_)
                · exact ⟨x0, y0, y1, y2⟩
                clear hK K
                try simp only [Act.put, List.setIfInBounds_toArray, List.set_cons_zero, List.set_cons_succ]
                refine heldY 5 10 ?_
                obtain ⟨⟨t0, t1⟩, ⟨r0, r1, r2⟩, q0, q1, q2⟩ := HF.out.res
                refine wpAnyH_ready (rs := [6]) (by kernel_rfl) (by simp) ?_
                refine AllReadyH.cons rfl (fun K hK => ?_) AllReadyH.nil
                go_simp
                refine hK.out _ _ ?_ (fun hHeld => ?_)
                · exact ⟨cell_far hHeld.1 _ n1', cell_far hHeld.2.1 _ n3', cell_far hHeld.2.2.1 _ n3', cell_far hHeld.2.2.2 _ n3'⟩
                clear hK K
                try simp only [Act.put, List.setIfInBounds_toArray, List.set_cons_zero, List.set_cons_succ]
                refine wpAnyH_ready (rs := [7]) (by kernel_rfl) (by simp) ?_
                refine AllReadyH.cons rfl (fun K hK => ?_) AllReadyH.nil
                go_simp
                refine hK.out _ _ ?_ (fun hHeld => ?_)
                · exact ⟨cell_far3 hHeld.1 _ _ _ n2', cell_far3 hHeld.2.1 _ _ _ n4', cell_far3 hHeld.2.2.1 _ _ _ n4', cell_far3 hHeld.2.2.2 _ _ _ n4'⟩
                clear hK K
                try simp only [Act.put, List.setIfInBounds_toArray, List.set_cons_zero, List.set_cons_succ]
                refine heldY 8 13 ?_
                refine heldY 9 14 ?_
                refine wpAnyH_done (by kernel_rfl) ?_ _
                go_wp2
                exact bodyPost_ret (v := .tuple #[.slice A5 nd c5, .agg #[.slice A6 8 c6], .agg #[.int .i64 a, .int .i64 b, .int .i64 h], .int .i64 0, .bool false]) (by simp [results, Tryz.results7, go_sem, *]) rfl
                  (.inl ⟨.inl HQ0.out, _, _, cs, _, _, ts, rfl, ⟨HO.out.1, HO.out.2.1, HQ.out.1, HQ.out.2.1⟩, HO.out.2.2.fin HF.out.1.2.2.1 HF.out.1.2.2.2 (by omega) _ _ _ _, HQ.out.2.2.fin HF.out.1.2.2.1 HF.out.1.2.2.2 (by omega) _ _ _ _, HF.out.fin _ _ _ _⟩)
              · have e6 : decide (v < 0) = false := decide_eq_false (by omega)
                obtain ⟨e1', hin, _, _, hI2, _⟩ := HI.out.1.step HA.out.2.2.2.2.2.2.2.2 rfl HA.out.2.2.2.2.1 hv0
                subst e1'
                have HQ := Lib.hid (And.intro hI2 hmv)
                clear hv0 hmv hin hI2
                obtain ⟨zz0, zz1, zz2⟩ := cells3 HS.out.2.1.2
                obtain ⟨zf0, zf1, zf2⟩ := frozen3 HS.out.2.1.2
                obtain ⟨hh0, hh1, hh2⟩ := cells3 HN.out
                have hXZ : w.heap.size + 1 + 1 + 1 < w5.heap.size + 1 := by have := HX.out.2; omega
                have HS4 := Lib.hid (HS.out.heads (a2 := a1) (b2 := b1) (h2 := h1) HO.out.2.2 hXZ (by omega))
                have nPZ : wr.heap.size ≠ w5.heap.size + 1 := fun e => by
                  have h1 := HP2.out
                  have h2 := HS.out.2.1.2
                  rw [e] at h1
                  unfold Blk at h1 h2
                  rw [h2] at h1
                  injection h1 with h1
                  injection h1 with _ h3
                  exact absurd h3 (by decide)
                have HP3 := Lib.hid (((HP2.out.far (p := ⟨w5.heap.size + 1, 0, none⟩) nPZ (.int .i64 a1)).far (p := ⟨w5.heap.size + 1, 1, none⟩) nPZ (.int .i64 b1)).far (p := ⟨w5.heap.size + 1, 2, none⟩) nPZ (.int .i64 h1))
                clear nPZ hXZ
                obtain ⟨gl, cl', hli, hio, hgl, _⟩ := HS4.out.2.2.2.inner (f := fn) (xs := xs') (by rw [HI.out.2.2.1]; exact HA.out.2.2.2.2.2.1) (by have := HA.out.2.2.2.2.2.2.1; omega)
                have s0 := HS4.out.2.1.1.cell 0
                have s1 : _ = some (Value.int .i64 (fn : Int)) := HP3.out.cell 1
                have s2 : _ = some (Value.int .i64 (jn : Int)) := HP3.out.cell 2
                have s3 := HS4.out.2.2.2.at_ HI.out.2.2.2 hli
                dsimp only at s3
                rw [HA.out.2.2.2.2.2.2.1] at s3
                have r0 : _ = some (Value.int .i64 y0) := VOwn.at_ hio (iv_length xs') (iv_at HA.out.2.2.2.2.2.2.2.1)
                have r1 := VOwn.frozen hio (iv_length xs') jn
                have HL := Lib.hid (And.intro hli (HS4.out.list hli))
                clear hli hio
                have nY : w5.heap.size ≠ gl := fun e => HL.out.2.2.2.2.1 e.symm
                have nP : wr.heap.size ≠ gl := fun e => own_var (HS4.out.2.2.2.2.1 _ (List.mem_of_getElem? HL.out.1)) HP3.out (by decide) (by rw [e]; rfl)
                have nA : gA ≠ gl := fun e => by
                  rcases HS4.out.2.2.2.inner_ne (List.mem_of_getElem? HL.out.1) with h1 | h1
                  · simp [Li.row, Value.ownBlock] at h1
                  · exact h1 (by rw [e]; rfl)
                go_wp2_with fail
                refine wp_region_held_drew (S := (fun w' => w'.cell? ⟨w5.heap.size, 0, none⟩ = some (.slice (some ⟨gA, 0, none⟩) 8 c5) ∧ w'.cell? ⟨wr.heap.size, 1, none⟩ = some (.int .i64 fn) ∧ w'.cell? ⟨wr.heap.size, 2, none⟩ = some (.int .i64 jn) ∧ w'.cell? ⟨gA, fn, none⟩ = some (.slice (some ⟨gl, 0, none⟩) 6 cl'))) (by kernel_rfl) ?_ (fun hHeld => ?_)
                · exact ⟨s0, s1, s2, s3⟩
                replace HS4 := Lib.hid (HS4.out.keep (grown_drew (grown_refl _ none)))
                clear s0 s1 s2 s3 r0 r1 zz0 zz1 zz2 zf0 zf1 zf2 hh0 hh1 hh2
                generalize World.drew _ = wd at HS4 hHeld ⊢
                have hio := HS4.out.2.2.2.2.1 _ (List.mem_of_getElem? HL.out.1)
                have r0 : wd.cell? ⟨gl, jn, none⟩ = some (.int .i64 y0) := VOwn.at_ hio (iv_length xs') (iv_at HA.out.2.2.2.2.2.2.2.1)
                have r1 : wd.frozen? ⟨gl, jn, none⟩ = false := VOwn.frozen hio (iv_length xs') jn
                clear hio
                refine heldY 0 147 ?_
                refine heldY 1 148 ?_
                refine heldY 2 149 ?_
                refine heldY 3 150 ?_
                refine heldY 4 151 ?_
                refine heldY 5 152 ?_
                refine heldY 6 153 ?_
                refine heldY 7 154 ?_
                refine heldY 8 155 ?_
                refine heldY 9 156 ?_
                refine wpAnyH_ready (rs := [10]) (by kernel_rfl) (by simp) ?_
                refine AllReadyH.cons rfl (fun K hK => ?_) AllReadyH.nil
                go_simp
                refine hK.out _ _ ?_ (fun hHeld => ?_)
                · exact ⟨cell_far hHeld.1 _ nY, cell_far hHeld.2.1 _ nP, cell_far hHeld.2.2.1 _ nP, cell_far hHeld.2.2.2 _ nA⟩
                clear hK K
                try simp only [Act.put, List.setIfInBounds_toArray, List.set_cons_zero, List.set_cons_succ]
                refine wpAnyH_done (by kernel_rfl) ?_ _
                replace HS4 := Lib.hid (HS4.out.set HL.out.1 jn v)
                go_wp2
                go_roundw
                case rel =>
                  refine ⟨k + 1, q + 1, c7, D7, cs7, ys.set fn ⟨some ⟨gl, 0, none⟩, cl', xs'.set jn v⟩, _, rfl, by go_num, by go_num, by omega, ?_, by have := HR2.out.2; omega, HQ.out.1, ⟨HO.out.2.1, ?_, by rw [List.length_set]; exact HI.out.2.2.2⟩, HS4.out⟩
                  · rw [show s + ((q + 1 : Nat) : Int) = s + q + 1 by omega]
                    exact HQ.out.2
                  · show ll _ = tset y.T (fn : Int).toNat (jn : Int).toNat v
                    rw [Int.toNat_natCast, Int.toNat_natCast, ← HI.out.2.2.1]
                    exact ll_tset HL.out.1 _ _
                case measure => simp [intOf]; omega
            · have hu : isUsed (ll ls) nn k = false := by rw [hus, decide_eq_false hze]
              have e5 : (z != (nn : Int) * 4 + k) = true := by rw [bne_iff_ne]; exact hze
              rw [mov_no hp hu] at hmv hqt
              have HR2 := Lib.hid (And.intro hmv hqt)
              clear hmv hqt hp hu hus hze hll h6 hz hc
              go_wp2_with fail
              go_quiet (fail)
              replace HS := Lib.hid (HS.out.keep (grown_drewN (grown_refl _ none) nq))
              clear c0 c1 p0 p1 p2 p3 p4 u0 u1 u2 u3 u4 HP t0 d0 d1
              generalize World.drewN _ nq = wu at HS ⊢
              go_wp2
              go_roundw
              case rel => exact ⟨k + 1, q, dx, Dx, cs, ys, y, rfl, rfl, by go_num, by omega, HR2.out.1, HR2.out.2, HI.out.1, HI.out.2, HS.out⟩
              case measure => simp [intOf]; omega
        · obtain rfl : k = 4 := by omega
          rw [mov_end _ HK.out.2.1] at hmv hqt
          have ho : o = some y := hmv
          have hq2 : q = tot := by simpa using hqt
          subst hq2
          have hdev : devB cs = true := (devB_list HI.out.2.1).trans HI.out.1.dev
          have hcl : cs.length = nd := by rw [← HI.out.1.len, ← HI.out.2.1, List.length_map]
          have hall := (dev_parts hdev).2
          have hsm : ∀ b, b ∈ cs → b.ps.length ≤ 1048576 := fun b hm => by have := (block_parts (hall b hm)).2.1; omega
          obtain ⟨m1, ps1, he⟩ : ∃ m1 ps1, eraseIs m ps = (m1, ps1) := ⟨_, _, rfl⟩
          obtain ⟨r, hr⟩ : ∃ r, (!decide (m = 100)) = r := ⟨_, rfl⟩
          have hE : EraseAtIs nd cs (nn : Int) nd ((cs.map Bk.is).set nn (m1, ps1)) r := .inr (.inr ⟨nn, m, m1, ps, ps1, rfl, hdev, by rw [HI.out.2.1]; exact HI.out.1.blk, he, hr.symm, rfl, rfl⟩)
          have HQ := Lib.hid (And.intro hE (And.intro hcl (And.intro hsm (And.intro ho (And.intro he HI.out.2)))))
          have HE := Lib.hid hr
          clear hmv hqt ho hdev hcl hall hsm he hE HI hr
          go_wp2_with fail
          have hgs := HS.out.1.2.2.2.size
          refine (specEraseAt_val HQ.out.1 HQ.out.2.1 HS.out.2.2.1.row (by omega) HQ.out.2.2.1).mono ?_
          rintro e w6 ⟨D6, d6, cs6, rfl, hl6, hi6, ho6, hk6⟩
          replace HS := Lib.hid (HS.out.keep hk6)
          have HS2 := Lib.hid (show CRet w (some ⟨gT, oT, none⟩) 8 c ls (some ⟨g, off, none⟩) bs a b h (w5.heap.size + 1) w5.heap.size (some ⟨gA, 0, none⟩) 8 c5 ys y.a y.b y.h D6 nd d6 cs6 w6 from ⟨HS.out.1, HS.out.2.1, ho6.base_le hgs, HS.out.2.2.2⟩)
          have HO := Lib.hid (And.intro hl6 hi6)
          clear hl6 hi6 ho6 hk6 hgs HS
          have hr := HE.out
          by_cases hm : m = 100
          · rw [decide_eq_true hm] at hr
            subst hr
            have HF := Lib.hid HS2.out.1
            have HQ0 := Lib.hid hm
            clear hm HS2 HO HQ
            have x0 := HF.out.tab
            obtain ⟨y0, y1, y2⟩ := HF.out.cells
            go_wp2_with fail
            refine wp_region_held_drew (S := (fun w' => w'.cell? ⟨w.heap.size, 0, none⟩ = some (.slice (some ⟨gT, oT, none⟩) 8 c) ∧ w'.cell? ⟨w.heap.size + 1, 0, none⟩ = some (.int .i64 a) ∧ w'.cell? ⟨w.heap.size + 1, 1, none⟩ = some (.int .i64 b) ∧ w'.cell? ⟨w.heap.size + 1, 2, none⟩ = some (.int .i64 h))) (by kernel_rfl) ?_ (fun hHeld => ?_)
            · exact ⟨x0, y0, y1, y2⟩
            replace HF := Lib.hid (HF.out.keep (grown_drew (grown_refl _ none)))
            clear x0 y0 y1 y2
            generalize World.drew _ = wq at HF hHeld ⊢
            have x0 := HF.out.tab
            obtain ⟨y0, y1, y2⟩ := HF.out.cells
            have n1' : w.heap.size ≠ w.heap.size + 1 + 1 := by omega
            have n2' : w.heap.size ≠ w.heap.size + 1 + 1 + 1 := by omega
            have n3' : w.heap.size + 1 ≠ w.heap.size + 1 + 1 := by omega
            have n4' : w.heap.size + 1 ≠ w.heap.size + 1 + 1 + 1 := by omega
            have na : w.heap.size + 1 + 1 ≠ w.heap.size + 1 + 1 + 1 := by omega
            have nb : w.heap.size + 1 + 1 + 1 ≠ w.heap.size + 1 + 1 := by omega
            have nc : w.heap.size ≠ w.heap.size + 1 := by omega
            have nd' : w.heap.size + 1 ≠ w.heap.size := by omega
            refine heldY 0 167 ?_
            refine heldY 2 169 ?_
            refine heldY 4 171 ?_
            refine wpAnyH_ready (rs := [1]) (by kernel_rfl) (by simp) ?_
            refine AllReadyH.cons rfl (fun K hK => ?_) AllReadyH.nil
            go_simp
            go_at_call 41; have hgs := HF.out.2.2.2.size; refine (specCopyDev_any _ _ _ _ _ HD.out.2.1 HF.out.2.2.1.here (by omega) H4.out.1).mono ?_; rintro e w5 ⟨A5, c5, cs, rfl, hcl, hcs, ho5, hk⟩; have HO := Lib.hid (And.intro hcl (And.intro hcs (ho5.base_le hgs))); replace HF := Lib.hid (HF.out.keep hk); clear hcl hcs ho5 hk hgs x0 y0 y1 y2; have x0 := HF.out.tab; obtain ⟨y0, y1, y2⟩ := HF.out.cells
            refine hK.out _ _ ?_ (fun hHeld => ?_)
            · exact ⟨x0, y0, y1, y2⟩
            clear hK K
            try simp only [Act.put, List.setIfInBounds_toArray, List.set_cons_zero, List.set_cons_succ]
            refine wpAnyH_ready (rs := [3]) (by kernel_rfl) (by simp) ?_
            refine AllReadyH.cons rfl (fun K hK => ?_) AllReadyH.nil
            go_simp
            go_at_call 42; have hgs := HF.out.2.2.2.size; refine (specCopyTab_any _ _ _ _ _ HD.out.2.2.2.1 HF.out.2.1.here (by omega) HD.out.2.2.2.2).mono ?_; rintro e w6 ⟨A6, c6, ts, rfl, htl, hts, ho6, hk⟩; replace HO := Lib.hid (And.intro HO.out.1 (And.intro HO.out.2.1 (HO.out.2.2.keep hk))); have HQ := Lib.hid (And.intro htl (And.intro hts (ho6.base_le hgs))); replace HF := Lib.hid (HF.out.keep hk); clear htl hts ho6 hk hgs x0 y0 y1 y2; have x0 := HF.out.tab; obtain ⟨y0, y1, y2⟩ := HF.out.cells
            refine hK.out _ _ ?_ (fun hHeld => ?_)
            · exact ⟨x0, y0, y1, y2⟩
            clear hK K
            try simp only [Act.put, List.setIfInBounds_toArray, List.set_cons_zero, List.set_cons_succ]
            refine heldY 5 10 ?_
            obtain ⟨⟨t0, t1⟩, ⟨r0, r1, r2⟩, q0, q1, q2⟩ := HF.out.res
            refine wpAnyH_ready (rs := [6]) (by kernel_rfl) (by simp) ?_
            refine AllReadyH.cons rfl (fun K hK => ?_) AllReadyH.nil
            go_simp
            refine hK.out _ _ ?_ (fun hHeld => ?_)
            · exact ⟨cell_far hHeld.1 _ n1', cell_far hHeld.2.1 _ n3', cell_far hHeld.2.2.1 _ n3', cell_far hHeld.2.2.2 _ n3'⟩
            clear hK K
            try simp only [Act.put, List.setIfInBounds_toArray, List.set_cons_zero, List.set_cons_succ]
            refine wpAnyH_ready (rs := [7]) (by kernel_rfl) (by simp) ?_
            refine AllReadyH.cons rfl (fun K hK => ?_) AllReadyH.nil
            go_simp
            refine hK.out _ _ ?_ (fun hHeld => ?_)
            · exact ⟨cell_far3 hHeld.1 _ _ _ n2', cell_far3 hHeld.2.1 _ _ _ n4', cell_far3 hHeld.2.2.1 _ _ _ n4', cell_far3 hHeld.2.2.2 _ _ _ n4'⟩
            clear hK K
            try simp only [Act.put, List.setIfInBounds_toArray, List.set_cons_zero, List.set_cons_succ]
            refine heldY 8 13 ?_
            refine heldY 9 14 ?_
            refine wpAnyH_done (by kernel_rfl) ?_ _
            go_wp2
            exact bodyPost_ret (v := .tuple #[.slice A5 nd c5, .agg #[.slice A6 8 c6], .agg #[.int .i64 a, .int .i64 b, .int .i64 h], .int .i64 0, .bool false]) (by simp [results, Tryz.results7, go_sem, *]) rfl
              (.inl ⟨.inr HQ0.out, _, _, cs, _, _, ts, rfl, ⟨HO.out.1, HO.out.2.1, HQ.out.1, HQ.out.2.1⟩, HO.out.2.2.fin HF.out.1.2.2.1 HF.out.1.2.2.2 (by omega) _ _ _ _, HQ.out.2.2.fin HF.out.1.2.2.1 HF.out.1.2.2.2 (by omega) _ _ _ _, HF.out.fin _ _ _ _⟩)
          · rw [decide_eq_false hm] at hr
            subst hr
            have HQ0 := Lib.hid hm
            clear hm
            obtain ⟨z1, hz1⟩ : ∃ z, y.a = z := ⟨_, rfl⟩
            obtain ⟨z2, hz2⟩ : ∃ z, y.b = z := ⟨_, rfl⟩
            obtain ⟨z3, hz3⟩ : ∃ z, y.h = z := ⟨_, rfl⟩
            rw [hz1, hz2, hz3] at HS2
            have HS := HS2
            have HZ := Lib.hid (And.intro hz1 (And.intro hz2 hz3))
            clear hz1 hz2 hz3 HS2
            have x0 := HS.out.2.1.1.cell 0
            obtain ⟨y0, y1, y2⟩ := cells3 HS.out.2.1.2
            go_wp2_with fail
            refine wp_region_held_drew (S := (fun w' => w'.cell? ⟨w5.heap.size, 0, none⟩ = some (.slice (some ⟨gA, 0, none⟩) 8 c5) ∧ w'.cell? ⟨(w5.heap.size + 1), 0, none⟩ = some (.int .i64 z1) ∧ w'.cell? ⟨(w5.heap.size + 1), 1, none⟩ = some (.int .i64 z2) ∧ w'.cell? ⟨(w5.heap.size + 1), 2, none⟩ = some (.int .i64 z3))) (by kernel_rfl) ?_ (fun hHeld => ?_)
            · exact ⟨x0, y0, y1, y2⟩
            replace HS := Lib.hid (HS.out.keep (grown_drew (grown_refl _ none)))
            clear x0 y0 y1 y2
            generalize World.drew _ = wz at HS hHeld ⊢
            obtain ⟨⟨t0, t1⟩, ⟨r0, r1, r2⟩, q0, q1, q2⟩ := HS.out.1.res
            have n1' : w5.heap.size ≠ w.heap.size + 1 + 1 := by have := HX.out.2; omega
            have n2' : w5.heap.size ≠ w.heap.size + 1 + 1 + 1 := by have := HX.out.2; omega
            have n3' : w5.heap.size + 1 ≠ w.heap.size + 1 + 1 := by have := HX.out.2; omega
            have n4' : w5.heap.size + 1 ≠ w.heap.size + 1 + 1 + 1 := by have := HX.out.2; omega
            have na : w.heap.size + 1 + 1 ≠ w.heap.size + 1 + 1 + 1 := by omega
            have nb : w.heap.size + 1 + 1 + 1 ≠ w.heap.size + 1 + 1 := by omega
            have nc : w.heap.size ≠ w.heap.size + 1 := by omega
            have nd' : w.heap.size + 1 ≠ w.heap.size := by omega
            refine heldY 0 172 ?_
            refine heldY 1 173 ?_
            refine heldY 2 174 ?_
            refine heldY 3 175 ?_
            refine heldY 4 10 ?_
            refine wpAnyH_ready (rs := [5]) (by kernel_rfl) (by simp) ?_
            refine AllReadyH.cons rfl (fun K hK => ?_) AllReadyH.nil
            go_simp
            refine hK.out _ _ ?_ (fun hHeld => ?_)
            · exact ⟨cell_far hHeld.1 _ n1', cell_far hHeld.2.1 _ n3', cell_far hHeld.2.2.1 _ n3', cell_far hHeld.2.2.2 _ n3'⟩
            clear hK K
            try simp only [Act.put, List.setIfInBounds_toArray, List.set_cons_zero, List.set_cons_succ]
            refine wpAnyH_ready (rs := [6]) (by kernel_rfl) (by simp) ?_
            refine AllReadyH.cons rfl (fun K hK => ?_) AllReadyH.nil
            go_simp
            refine hK.out _ _ ?_ (fun hHeld => ?_)
            · exact ⟨cell_far3 hHeld.1 _ _ _ n2', cell_far3 hHeld.2.1 _ _ _ n4', cell_far3 hHeld.2.2.1 _ _ _ n4', cell_far3 hHeld.2.2.2 _ _ _ n4'⟩
            clear hK K
            try simp only [Act.put, List.setIfInBounds_toArray, List.set_cons_zero, List.set_cons_succ]
            refine heldY 7 13 ?_
            refine heldY 8 14 ?_
            refine wpAnyH_done (by kernel_rfl) ?_ _
            go_wp2
            exact bodyPost_ret (v := .tuple #[.slice D6 nd d6, .agg #[.slice (some ⟨gA, 0, none⟩) 8 c5], .agg #[.int .i64 z1, .int .i64 z2, .int .i64 z3], .int .i64 q, .bool true]) (by simp [results, Tryz.results7, go_sem, *]) rfl (by
              have he := HQ.out.2.2.2.2.1
              simp only [eraseIs, if_neg HQ0.out, Prod.mk.injEq] at he
              obtain ⟨rfl, rfl⟩ := he
              refine .inr ⟨y, HQ.out.2.2.2.1, HQ0.out, ?_⟩
              rw [HZ.out.1, HZ.out.2.1, HZ.out.2.2]
              exact ⟨_, _, cs6, _, _, ys, rfl, ⟨HO.out.1, by rw [HO.out.2, HQ.out.2.2.2.2.2.1], HQ.out.2.2.2.2.2.2.2, HQ.out.2.2.2.2.2.2.1⟩, (HS.out.fin _ _ _ _).1, (HS.out.fin _ _ _ _).2.1, (HS.out.fin _ _ _ _).2.2⟩)
theorem has_in {n : Nat} {x : Int} {V : Bool} (h : hasB n x = V) : inB x 0 ((n : Int) - 1) = V := by
  subst h
  rw [Bool.eq_iff_iff]
  simp [inB, hasB]
  omega
theorem specClean_val {x : Int} {n1 m1 : Nat} {l1 : List (Int × List Pg)} {T1 : List (List Int)} {a1 b1 h1 mv : Int} {ok : Bool} (H : CleanIs nd bs (ll ls) a b h x s n1 l1 m1 T1 a1 b1 h1 mv ok) (hld : bs.length = nd) (hrd : DRow w w.heap.size D bs) (hnd : nd ≤ 1048576) (hpd : ∀ b, b ∈ bs → b.ps.length ≤ 1048576) (hl : ls.length = n) (hr : TRow w w.heap.size A ls) (hn : n ≤ 1048576) (hp : ∀ l, l ∈ ls → l.xs.length ≤ 1048576) :
    Calls Tryz.prog 7 #[.slice D nd cd, .agg #[.slice A n c], .agg #[.int .i64 a, .int .i64 b, .int .i64 h], .int .i64 x, .int .i64 s] w (CleanMade l1 n1 T1 m1 a1 b1 h1 mv ok w) := by
  rcases H with ⟨hc, rfl, rfl, rfl, rfl, rfl, rfl, rfl, rfl, rfl⟩ | ⟨hc, nn, m, ps, rfl, hnn, hq, rfl, rfl, H⟩
  · cases hv : (headsB nd a b h && devB bs)
    · exact specClean_heads hv hld hrd hnd hpd hl hr hn hp
    · cases hT : tabB (ll ls)
      · exact specClean_tab hv hT hld hrd hnd hpd hl hr hn hp
      · cases hb : hasB nd x
        · exact specClean_block hv hT (has_in hb) hld hrd hnd hpd hl hr hn hp
        · cases ht : inB s 1 1000000
          · exact specClean_stamp hv hT (has_in hb) ht hld hrd hnd hpd hl hr hn hp
          · have hrb : readB bs (ll ls) = false := by simpa only [cleanB, hv, hb, ht, Bool.true_and] using hc
            exact specClean_read hv hT (has_in hb) ht hrb hld hrd hnd hpd hl hr hn hp
  · obtain ⟨hv, hb, ht, hrb⟩ := clean_parts hc
    rcases H with ⟨hh, rfl, rfl, rfl, rfl, rfl, rfl, rfl⟩ | ⟨hh, o, hm, H⟩
    · exact specClean_head hh hv (has_in hb) ht hrb hld hrd hnd hpd hl hr hn hp
    · refine (specClean_moves hm hh hv ht hrb hq hld hrd hnd hpd hl hr hn hp).mono fun e' w' hpost => ?_
      rcases H with ⟨e, rfl, rfl, rfl, rfl, rfl, rfl, rfl⟩ | ⟨y, e, em, rfl, rfl, rfl, rfl, rfl, rfl, rfl⟩ | ⟨y, e, em, rfl, rfl, rfl, rfl, rfl, rfl, rfl⟩
      · rcases hpost with ⟨_, hf⟩ | ⟨y, e2, _⟩
        · exact hf
        · rw [e] at e2; cases e2
      · rcases hpost with ⟨_, hf⟩ | ⟨y, e2, h3, _⟩
        · exact hf
        · exact absurd em h3
      · rcases hpost with ⟨h3 | h3, hf⟩ | ⟨y2, e2, h3, hf⟩
        · rw [e] at h3; cases h3
        · exact absurd h3 em
        · rw [e] at e2
          injection e2 with e2
          subst e2
          exact hf
end
end Go.Proofs.YtolpnloghogjjaaGreat
