/- Plain facts on the table of a device.
   What the program's TableOf answers.
   What the model's TableOf answers. -/
import Derived.Test.YtfiajbkmklcaiaaTables4
import Derived.Test.YtfiajbkmklcaiaaLawDev
import Derived.Test.YtfiajbkmklcaiaaTables2
import Derived.Test.YtfiajbkmklcaiaaTables7
import Derived.Test.YtfiajbkmklcaiaaHand
namespace Go.Proofs.Ytfiajbkmklcaiaa

theorem full_in {bs : List Bk} (hd : devB bs = true) {k : Nat} {p : Pg} (hp : pageAt bs k = some p) (hf : p.f = true) : ∃ f j : Nat, p.a = (f : Int) ∧ p.b = (j : Int) ∧ f < 8 ∧ j < 6 := by
  obtain ⟨_, hall⟩ := dev_parts hd
  unfold pageAt at hp
  rw [Option.bind_eq_some_iff] at hp
  obtain ⟨b, hb, hq⟩ := hp
  obtain ⟨_, h4, ho⟩ := block_parts (hall b (List.mem_of_getElem? hb))
  have hlt := (List.getElem?_eq_some_iff.1 hq).1
  unfold ordB at ho
  rw [List.all_eq_true] at ho
  have h1 := ho (k % 4) (by simpa using hlt)
  unfold okAt at h1
  rw [Bool.and_eq_true] at h1
  have h2 := h1.1
  have e : b.ps.getD (k % 4) pz = p := by simp [List.getD_eq_getElem?_getD, hq]
  rw [e] at h2
  unfold pgB at h2
  rw [hf] at h2
  simp only [pageB, if_true, Bool.and_eq_true] at h2
  obtain ⟨⟨⟨ha, hb'⟩, _⟩, _⟩ := h2
  have ha' := inB_iff.1 ha
  have hb2 := inB_iff.1 hb'
  exact ⟨p.a.toNat, p.b.toNat, by omega, by omega, by omega, by omega⟩
/-- The table names no page for the file and the place of page p, or one with a lesser stamp. -/
def newerB (bs : List Bk) (xss : List (List Int)) (p : Pg) : Bool :=
  match cellO xss p.a.toNat p.b.toNat with
  | some x => if x = -1 then true else (match pageAt bs x.toNat with
    | some q => decide (q.d < p.d)
    | none => true)
  | none => false
/-- Page k taken into account. -/
def ofStep (bs : List Bk) (xss : List (List Int)) (k : Nat) : List (List Int) :=
  match pageAt bs k with
  | some p => if p.f && newerB bs xss p then tset xss p.a.toNat p.b.toNat k else xss
  | none => xss
/-- The table of the first k pages. -/
def tabTo (bs : List Bk) : Nat → List (List Int)
  | 0 => noTab
  | k + 1 => ofStep bs (tabTo bs k) k
/-- What TableOf answers. -/
def tabOf (bs : List Bk) : List (List Int) := if devB bs then tabTo bs (4 * bs.length) else []
/-- What holds of the table of the first k pages. -/
structure OfInv (bs : List Bk) (k : Nat) (xss : List (List Int)) : Prop where
  tv : TV xss
  ent : ∀ (f j : Nat) (x : Int), cellO xss f j = some x → x = -1 ∨ ∃ (a : Nat) (q : Pg), x = (a : Int) ∧ a < k ∧ pageAt bs a = some q ∧ q.f = true
theorem noTab_cell {f j : Nat} {x : Int} (h : cellO noTab f j = some x) : x = -1 := by
  obtain ⟨xs, h1, h2⟩ := cellO_some h
  have e := List.eq_of_mem_replicate (List.mem_of_getElem? h1)
  subst e
  exact List.eq_of_mem_replicate (List.mem_of_getElem? h2)
theorem noTab_tv : TV noTab := by
  refine ⟨by simp [noTab], fun xs hx => ?_, fun f j x h => ?_, fun f j f' j' x h _ h0 => ?_⟩
  · rw [List.eq_of_mem_replicate hx]; simp [m6]
  · have := noTab_cell h; omega
  · have := noTab_cell h; omega
theorem of_inv {bs : List Bk} (hd : devB bs = true) : ∀ k : Nat, k ≤ 48 → OfInv bs k (tabTo bs k)
  | 0, _ => ⟨noTab_tv, fun f j x h => .inl (noTab_cell h)⟩
  | k + 1, hk => by
    have ih := of_inv hd k (by omega)
    have up : OfInv bs (k + 1) (tabTo bs k) := ⟨ih.tv, fun f j x h => by
      rcases ih.ent f j x h with h1 | ⟨a, q, h1, h2, h3⟩
      · exact .inl h1
      · exact .inr ⟨a, q, h1, by omega, h3⟩⟩
    show OfInv bs (k + 1) (ofStep bs (tabTo bs k) k)
    unfold ofStep
    split
    · rename_i p hp
      split
      · rename_i h
        rw [Bool.and_eq_true] at h
        obtain ⟨f, j, ea, eb, hf8, hj6⟩ := full_in hd hp h.1
        rw [ea, eb]
        simp only [Int.toNat_natCast]
        refine ⟨tset_valid ih.tv hf8 hj6 (by omega) ?_, fun f' j' x hx => ?_⟩
        · rintro ⟨_, f', j', hc, _⟩
          rcases ih.ent f' j' _ hc with h1 | ⟨a, q, h1, h2, _⟩ <;> omega
        · rw [tset_cell ih.tv hf8 hj6] at hx
          split at hx
          · injection hx with hx
            exact .inr ⟨k, p, hx.symm, by omega, hp, h.1⟩
          · exact up.ent f' j' x hx
      · exact up
    · exact up
/-- The step, case by case. -/
theorem of_old {bs : List Bk} {xss : List (List Int)} {k : Nat} {p : Pg} (hp : pageAt bs k = some p) (hf : p.f = false) : ofStep bs xss k = xss := by simp [ofStep, hp, hf]
theorem of_new {bs : List Bk} {xss : List (List Int)} {k f j : Nat} {p : Pg} (hp : pageAt bs k = some p) (hf : p.f = true) (ha : p.a = (f : Int)) (hb : p.b = (j : Int)) (hn : newerB bs xss p = true) : ofStep bs xss k = tset xss f j k := by
  simp [ofStep, hp, hf, hn, ha, hb]
theorem of_less {bs : List Bk} {xss : List (List Int)} {k : Nat} {p : Pg} (hp : pageAt bs k = some p) (hn : newerB bs xss p = false) : ofStep bs xss k = xss := by simp [ofStep, hp, hn]
theorem newer_none {bs : List Bk} {xss : List (List Int)} {p : Pg} {f j : Nat} (ha : p.a = (f : Int)) (hb : p.b = (j : Int)) (hc : cellO xss f j = some (-1)) : newerB bs xss p = true := by simp [newerB, ha, hb, hc]
theorem newer_some {bs : List Bk} {xss : List (List Int)} {p q : Pg} {f j a : Nat} (ha : p.a = (f : Int)) (hb : p.b = (j : Int)) (hc : cellO xss f j = some (a : Int)) (hq : pageAt bs a = some q) : newerB bs xss p = decide (q.d < p.d) := by
  have : ¬ ((a : Int) = -1) := by omega
  simp [newerB, ha, hb, hc, hq, this]
theorem of_yes {bs : List Bk} (h : devB bs = true) : tabOf bs = tabTo bs (4 * bs.length) := by simp [tabOf, h]
theorem of_no {bs : List Bk} (h : devB bs = false) : tabOf bs = [] := by simp [tabOf, h]
theorem of_len {bs : List Bk} {k : Nat} (hd : devB bs = true) (hk : k ≤ 48) : (tabTo bs k).length = 8 := (of_inv hd k hk).tv.len
/-- A device that is equal has the same table. -/
theorem of_is {bs cs : List Bk} (h : cs.map Bk.is = bs.map Bk.is) : tabOf cs = tabOf bs := by
  have hp : ∀ a, pageAt cs a = pageAt bs a := fun a => page_is h a
  have hs : ∀ k, tabTo cs k = tabTo bs k := by
    intro k
    induction k with
    | zero => rfl
    | succ k ih =>
      simp only [tabTo, ofStep, newerB, ih, hp]
      rfl
  unfold tabOf
  rw [devB_is h, hs, is_length h]
end Go.Proofs.Ytfiajbkmklcaiaa
namespace Go.Proofs.Ytfiajbkmklcaiaa
open Go.ChangeShapes Go.WideShapes Go.ChangeAt Go.RowKit
set_option linter.unusedVariables false
set_option linter.unusedSimpArgs false

/-- What isNewerThanNamed has in memory. -/
def NIn (w : World) (A : Option Addr) (bs : List Bk) (At : Option Addr) (ct : Nat) (ls : List Li) (f j : Nat) (v d : Int) (wr : World) : Prop :=
  Blk wr w.heap.size 25 #[.slice At 8 ct] ∧ Blk wr (w.heap.size + 1) 37 #[.bool true, .int .i64 (f : Int), .int .i64 (j : Int), .int .i64 v, .int .i64 d] ∧ DRow wr w.heap.size A bs ∧ TRow wr w.heap.size At ls ∧ w.grownBy wr none
theorem NIn.start {w : World} {A : Option Addr} {bs : List Bk} {At : Option Addr} {ls : List Li} (hr : DRow w w.heap.size A bs) (ht : TRow w w.heap.size At ls) (ct f j : Nat) (v d : Int) :
    NIn w A bs At ct ls f j v d ((w.alloc (.cells #[.slice At 8 ct] 25)).alloc (.cells #[.bool true, .int .i64 (f : Int), .int .i64 (j : Int), .int .i64 v, .int .i64 d] 37)) := by
  refine ⟨(Blk.new w _ _).alloc _, ?_, (hr.alloc _).alloc _, (ht.alloc _).alloc _, grown_alloc (grown_alloc (grown_refl _ _) _) _⟩
  have H := Blk.new (w.alloc (.cells #[.slice At 8 ct] 25)) 37 #[.bool true, .int .i64 (f : Int), .int .i64 (j : Int), .int .i64 v, .int .i64 d]
  simpa only [size_alloc1] using H
theorem NIn.keep {w wr w' : World} {A : Option Addr} {bs : List Bk} {At : Option Addr} {ct : Nat} {ls : List Li} {f j : Nat} {v d : Int} (H : NIn w A bs At ct ls f j v d wr) (k : wr.grownBy w' none) : NIn w A bs At ct ls f j v d w' :=
  ⟨H.1.keep k, H.2.1.keep k, H.2.2.1.kept k, H.2.2.2.1.kept k, grown_trans H.2.2.2.2 k⟩
set_option maxHeartbeats 1000000 in
theorem isNewer_none (A : Option Addr) (n c : Nat) (bs : List Bk) (At : Option Addr) (ct : Nat) (ls : List Li) (f j : Nat) (v d : Int) (w : World) (hl : bs.length = n) (hr : DRow w w.heap.size A bs) (hd : devB bs = true) (ht : TRow w w.heap.size At ls) (hv : tabB (ll ls) = true) (hf : f < 8) (hj : j < 6) (hc : cellO (ll ls) f j = some (-1)) :
    Calls Try.prog 63 #[.slice A n c, .agg #[.slice At 8 ct], .agg #[.bool true, .int .i64 (f : Int), .int .i64 (j : Int), .int .i64 v, .int .i64 d]] w (KeptV (.bool true) w) := by
  obtain ⟨h8, g, off, gx, ox, cl, xs, y, rfl, hll, h6, hy, hcy⟩ := ht.open_ hv hf hj
  rw [hcy] at hc
  injection hc with hc
  subst hc
  have h0 := NIn.start hr ht ct f j v d
  have b0 := h0.1.cell 0
  obtain ⟨p0, p1, p2, p3, p4⟩ := cells5 h0.2.1
  have c0 := h0.2.2.2.1.cellf hll h6
  have c1 := (h0.2.2.2.1.inner hll).cellf hy
  have f0 : decide ((0 : Int) ≤ f) = true := decide_eq_true (by omega)
  have f1 : (f : Int) < 8 := by omega
  have j0 : decide ((0 : Int) ≤ j) = true := decide_eq_true (by omega)
  have j1 : (j : Int) < 6 := by omega
  have H0 := Lib.hid h0
  clear hl hr hd ht hv hll h6 hy hcy h8 h0
  go_enter Try.func63, Try.ntmps63
  go_wp2
  go_quiet (fail)
  all_goals go_wp2
  have H1 := Lib.hid (H0.out.keep (grown_drewN (grown_refl _ none) (nq + 1)))
  refine wp_region_held_drew (S := (fun w' => w'.cell? ⟨w.heap.size + 1, 4, none⟩ = some (.int .i64 d))) (by kernel_rfl) ?_ (fun hHeld => ?_)
  · exact H1.out.2.1.cell 4
  refine held_yes (i := 0) (d := some 18) (v := ?_) rfl rfl (by kernel_rfl) (by kernel_rfl) (by kernel_rfl) (fun _ _ _ h => h) (by rfl) ?_ (by assumption) ?_
  rotate_left
  · (intro w hSw; (try dsimp only at hSw); go_simp; (first | done | with_reducible rfl))
  try simp only [Act.put, List.setIfInBounds_toArray, List.set_cons_zero, List.set_cons_succ]
  refine held_yes (i := 1) (d := some 19) (v := ?_) rfl rfl (by kernel_rfl) (by kernel_rfl) (by kernel_rfl) (fun _ _ _ h => h) (by rfl) ?_ (by assumption) ?_
  rotate_left
  · (intro w hSw; (try dsimp only at hSw); go_simp; (first | done | with_reducible rfl))
  try simp only [Act.put, List.setIfInBounds_toArray, List.set_cons_zero, List.set_cons_succ]
  refine held_yes (i := 2) (d := some 20) (v := ?_) rfl rfl (by kernel_rfl) (by kernel_rfl) (by kernel_rfl) (fun _ _ _ h => h) (by rfl) ?_ (by assumption) ?_
  rotate_left
  · (intro w hSw; (try dsimp only at hSw); go_simp; (first | done | with_reducible rfl))
  try simp only [Act.put, List.setIfInBounds_toArray, List.set_cons_zero, List.set_cons_succ]
  refine held_no (i := 3) (d := some 21) rfl rfl (by kernel_rfl) (by kernel_rfl) (by kernel_rfl) (fun _ _ _ h => h) (by rfl) (by assumption) ?_
  try simp only [Act.put, List.setIfInBounds_toArray, List.set_cons_zero, List.set_cons_succ]
  refine held_no (i := 4) (d := some 22) rfl rfl (by kernel_rfl) (by kernel_rfl) (by kernel_rfl) (fun _ _ _ h => h) (by rfl) (by assumption) ?_
  try simp only [Act.put, List.setIfInBounds_toArray, List.set_cons_zero, List.set_cons_succ]
  refine held_no (i := 5) (d := some 23) rfl rfl (by kernel_rfl) (by kernel_rfl) (by kernel_rfl) (fun _ _ _ h => h) (by rfl) (by assumption) ?_
  try simp only [Act.put, List.setIfInBounds_toArray, List.set_cons_zero, List.set_cons_succ]
  refine held_no (i := 6) (d := some 24) rfl rfl (by kernel_rfl) (by kernel_rfl) (by kernel_rfl) (fun _ _ _ h => h) (by rfl) (by assumption) ?_
  try simp only [Act.put, List.setIfInBounds_toArray, List.set_cons_zero, List.set_cons_succ]
  refine held_no (i := 7) (d := some 25) rfl rfl (by kernel_rfl) (by kernel_rfl) (by kernel_rfl) (fun _ _ _ h => h) (by rfl) (by assumption) ?_
  try simp only [Act.put, List.setIfInBounds_toArray, List.set_cons_zero, List.set_cons_succ]
  refine held_no (i := 8) (d := some 26) rfl rfl (by kernel_rfl) (by kernel_rfl) (by kernel_rfl) (fun _ _ _ h => h) (by rfl) (by assumption) ?_
  try simp only [Act.put, List.setIfInBounds_toArray, List.set_cons_zero, List.set_cons_succ]
  refine held_no (i := 9) (d := some 27) rfl rfl (by kernel_rfl) (by kernel_rfl) (by kernel_rfl) (fun _ _ _ h => h) (by rfl) (by assumption) ?_
  try simp only [Act.put, List.setIfInBounds_toArray, List.set_cons_zero, List.set_cons_succ]
  refine held_yes (i := 10) (d := some 28) (v := ?_) rfl rfl (by kernel_rfl) (by kernel_rfl) (by kernel_rfl) (fun _ _ _ h => h) (by rfl) ?_ (by assumption) ?_
  rotate_left
  · (intro w hSw; (try dsimp only at hSw); go_simp; (first | done | with_reducible rfl))
  try simp only [Act.put, List.setIfInBounds_toArray, List.set_cons_zero, List.set_cons_succ]
  refine wpAnyH_ready (rs := [11]) (by kernel_rfl) (by simp) ?_
  refine AllReadyH.cons rfl (fun K hK => ?_) AllReadyH.nil
  go_simp
  refine hK.out _ _ ?_ (fun hHeld => ?_)
  · first | with_reducible assumption | exact H1.out.2.1.cell 4 | exact H3.out.2.1.cell 4
  clear hK K
  try simp only [Act.put, List.setIfInBounds_toArray, List.set_cons_zero, List.set_cons_succ]
  refine wpAnyH_done (by kernel_rfl) ?_ _
  go_wp2
  go_ret
  exact ⟨rfl, H1.out.2.2.2.2⟩
set_option maxHeartbeats 1000000 in
theorem isNewer_some (A : Option Addr) (n c : Nat) (bs : List Bk) (At : Option Addr) (ct : Nat) (ls : List Li) (f j : Nat) (v d : Int) (a : Nat) (q : Pg) (w : World) (hl : bs.length = n) (hr : DRow w w.heap.size A bs) (hd : devB bs = true) (ht : TRow w w.heap.size At ls) (hv : tabB (ll ls) = true) (hf : f < 8) (hj : j < 6) (hc : cellO (ll ls) f j = some (a : Int)) (hq : pageAt bs a = some q) :
    Calls Try.prog 63 #[.slice A n c, .agg #[.slice At 8 ct], .agg #[.bool true, .int .i64 (f : Int), .int .i64 (j : Int), .int .i64 v, .int .i64 d]] w (KeptV (.bool (decide (q.d < d))) w) := by
  obtain ⟨h8, g, off, gx, ox, cl, xs, y, rfl, hll, h6, hy, hcy⟩ := ht.open_ hv hf hj
  rw [hcy] at hc
  injection hc with hc
  subst hc
  have h0 := NIn.start hr ht ct f j v d
  have b0 := h0.1.cell 0
  obtain ⟨p0, p1, p2, p3, p4⟩ := cells5 h0.2.1
  have c0 := h0.2.2.2.1.cellf hll h6
  have c1 := (h0.2.2.2.1.inner hll).cellf hy
  have f0 : decide ((0 : Int) ≤ f) = true := decide_eq_true (by omega)
  have f1 : (f : Int) < 8 := by omega
  have j0 : decide ((0 : Int) ≤ j) = true := decide_eq_true (by omega)
  have j1 : (j : Int) < 6 := by omega
  have H0 := Lib.hid h0
  have HD := Lib.hid (And.intro hl (And.intro hd hq))
  have hfd : ∀ w : World, (Instr.field 37 (.agg #[.bool q.f, .int .i64 q.a, .int .i64 q.b, .int .i64 q.c, .int .i64 q.d]) 4).run Try.prog w = .ok (.int .i64 q.d) w := fun _ => by kernel_rfl
  have a1 : ((a : Int) == -1) = false := by rw [beq_eq_false_iff_ne]; omega
  clear hl hr hd ht hv hll h6 hy hcy h8 h0 hq
  go_enter Try.func63, Try.ntmps63
  go_wp2
  go_quiet (fail)
  all_goals go_wp2
  have H2 := Lib.hid (H0.out.keep (grown_drewN (grown_refl _ none) (nq + 1)))
  have HROW := Lib.hid H2.out.2.2.1.here
  refine wp_region_held_drew (S := (fun w' => w'.cell? ⟨w.heap.size + 1, 4, none⟩ = some (.int .i64 d))) (by kernel_rfl) ?_ (fun hHeld => ?_)
  · first | exact H3.out.2.1.cell 4 | exact H2.out.2.1.cell 4
  refine held_yes (i := 0) (d := some 18) (v := ?_) rfl rfl (by kernel_rfl) (by kernel_rfl) (by kernel_rfl) (fun _ _ _ h => h) (by rfl) ?_ (by assumption) ?_
  rotate_left
  · (intro w hSw; (try dsimp only at hSw); go_simp; (first | done | with_reducible rfl))
  try simp only [Act.put, List.setIfInBounds_toArray, List.set_cons_zero, List.set_cons_succ]
  refine held_yes (i := 1) (d := some 19) (v := ?_) rfl rfl (by kernel_rfl) (by kernel_rfl) (by kernel_rfl) (fun _ _ _ h => h) (by rfl) ?_ (by assumption) ?_
  rotate_left
  · (intro w hSw; (try dsimp only at hSw); go_simp; (first | done | with_reducible rfl))
  try simp only [Act.put, List.setIfInBounds_toArray, List.set_cons_zero, List.set_cons_succ]
  refine held_yes (i := 2) (d := some 20) (v := ?_) rfl rfl (by kernel_rfl) (by kernel_rfl) (by kernel_rfl) (fun _ _ _ h => h) (by rfl) ?_ (by assumption) ?_
  rotate_left
  · (intro w hSw; (try dsimp only at hSw); go_simp; (first | done | with_reducible rfl))
  try simp only [Act.put, List.setIfInBounds_toArray, List.set_cons_zero, List.set_cons_succ]
  refine held_yes (i := 3) (d := some 21) (v := ?_) rfl rfl (by kernel_rfl) (by kernel_rfl) (by kernel_rfl) (fun _ _ _ h => h) (by rfl) ?_ (by assumption) ?_
  rotate_left
  · (intro w hSw; (try dsimp only at hSw); go_simp; (first | done | with_reducible rfl))
  try simp only [Act.put, List.setIfInBounds_toArray, List.set_cons_zero, List.set_cons_succ]
  refine held_yes (i := 4) (d := some 22) (v := ?_) rfl rfl (by kernel_rfl) (by kernel_rfl) (by kernel_rfl) (fun _ _ _ h => h) (by rfl) ?_ (by assumption) ?_
  rotate_left
  · (intro w hSw; (try dsimp only at hSw); go_simp; (first | done | with_reducible rfl))
  try simp only [Act.put, List.setIfInBounds_toArray, List.set_cons_zero, List.set_cons_succ]
  refine held_yes (i := 5) (d := some 23) (v := ?_) rfl rfl (by kernel_rfl) (by kernel_rfl) (by kernel_rfl) (fun _ _ _ h => h) (by rfl) ?_ (by assumption) ?_
  rotate_left
  · (intro w hSw; (try dsimp only at hSw); go_simp; (first | done | with_reducible rfl))
  try simp only [Act.put, List.setIfInBounds_toArray, List.set_cons_zero, List.set_cons_succ]
  refine held_yes (i := 6) (d := some 24) (v := ?_) rfl rfl (by kernel_rfl) (by kernel_rfl) (by kernel_rfl) (fun _ _ _ h => h) (by rfl) ?_ (by assumption) ?_
  rotate_left
  · (intro w hSw; (try dsimp only at hSw); go_simp; (first | done | with_reducible rfl))
  try simp only [Act.put, List.setIfInBounds_toArray, List.set_cons_zero, List.set_cons_succ]
  refine wpAnyH_ready (rs := [7]) (by kernel_rfl) (by simp) ?_
  refine AllReadyH.cons rfl (fun K hK => ?_) AllReadyH.nil
  go_simp
  go_at_call 62; (with_reducible refine (pageOf_at _ _ _ bs a q _ HD.out.1 HROW.out HD.out.2.1 HD.out.2.2).mono ?_); rintro e w2 ⟨rfl, hk⟩; have H3 := Lib.hid (H2.out.keep hk); clear hk
  refine hK.out _ _ ?_ (fun hHeld => ?_)
  · first | exact H3.out.2.1.cell 4 | exact H2.out.2.1.cell 4
  clear hK K
  try simp only [Act.put, List.setIfInBounds_toArray, List.set_cons_zero, List.set_cons_succ]
  refine held_yes (i := 8) (d := some 26) (v := ?_) rfl rfl (by kernel_rfl) (by kernel_rfl) (by kernel_rfl) (fun _ _ _ h => h) (by rfl) ?_ (by assumption) ?_
  rotate_left
  · (intro w hSw; (try dsimp only at hSw); go_simp; (first | done | with_reducible rfl))
  try simp only [Act.put, List.setIfInBounds_toArray, List.set_cons_zero, List.set_cons_succ]
  refine held_yes (i := 9) (d := some 27) (v := ?_) rfl rfl (by kernel_rfl) (by kernel_rfl) (by kernel_rfl) (fun _ _ _ h => h) (by rfl) ?_ (by assumption) ?_
  rotate_left
  · (intro w hSw; (try dsimp only at hSw); go_simp; (first | done | with_reducible rfl))
  try simp only [Act.put, List.setIfInBounds_toArray, List.set_cons_zero, List.set_cons_succ]
  refine held_yes (i := 10) (d := some 28) (v := ?_) rfl rfl (by kernel_rfl) (by kernel_rfl) (by kernel_rfl) (fun _ _ _ h => h) (by rfl) ?_ (by assumption) ?_
  rotate_left
  · (intro w hSw; (try dsimp only at hSw); go_simp; (first | done | with_reducible rfl))
  try simp only [Act.put, List.setIfInBounds_toArray, List.set_cons_zero, List.set_cons_succ]
  refine wpAnyH_ready (rs := [11]) (by kernel_rfl) (by simp) ?_
  refine AllReadyH.cons rfl (fun K hK => ?_) AllReadyH.nil
  go_simp
  refine hK.out _ _ ?_ (fun hHeld => ?_)
  · first | with_reducible assumption | exact H1.out.2.1.cell 4 | exact H3.out.2.1.cell 4
  clear hK K
  try simp only [Act.put, List.setIfInBounds_toArray, List.set_cons_zero, List.set_cons_succ]
  refine wpAnyH_done (by kernel_rfl) ?_ _
  go_wp2
  go_ret
  exact ⟨rfl, H3.out.2.2.2.2⟩
/-- The loop over the pages, at page k: the table lies in variable V, its row in block g. -/
def OfR (w : World) (A : Option Addr) (bs : List Bk) (V g ct k : Nat) (wr : World) : Prop :=
  (∃ cs, cs.length = 8 ∧ ll cs = tabTo bs k ∧ TOwn wr w.heap.size (.slice (some ⟨g, 0, none⟩) 8 ct) cs) ∧ Blk wr V 25 #[.slice (some ⟨g, 0, none⟩) 8 ct] ∧ Blk wr w.heap.size 25 #[.slice none 0 0] ∧ DRow wr w.heap.size A bs ∧ w.grownBy wr none
theorem OfR.keep {w wr w' : World} {A : Option Addr} {bs : List Bk} {V g ct k : Nat} (H : OfR w A bs V g ct k wr) (q : wr.grownBy w' none) : OfR w A bs V g ct k w' := by
  obtain ⟨⟨cs, h1, h2, h3⟩, h4, h5, h6, h7⟩ := H
  exact ⟨⟨cs, h1, h2, h3.keep q⟩, h4.keep q, h5.keep q, h6.kept q, grown_trans h7 q⟩
theorem OfR.next {w wr : World} {A : Option Addr} {bs : List Bk} {V g ct k : Nat} (H : OfR w A bs V g ct k wr) (h : ofStep bs (tabTo bs k) k = tabTo bs k) : OfR w A bs V g ct (k + 1) wr := by
  obtain ⟨⟨cs, h1, h2, h3⟩, h4⟩ := H
  exact ⟨⟨cs, h1, by rw [h2]; exact h.symm, h3⟩, h4⟩
/-- What is needed of the table to read or write the cell of file f and place j. -/
theorem OfR.open_ {w wr : World} {A : Option Addr} {bs : List Bk} {V g ct k : Nat} (H : OfR w A bs V g ct k wr) (hd : devB bs = true) (hk : k ≤ 48) {f j : Nat} (hf : f < 8) (hj : j < 6) :
    ∃ (gl cl : Nat) (x : Int), wr.cell? ⟨g, f, none⟩ = some (.slice (some ⟨gl, 0, none⟩) 6 cl) ∧ wr.cell? ⟨gl, j, none⟩ = some (.int .i64 x) ∧ wr.frozen? ⟨gl, j, none⟩ = false ∧ cellO (tabTo bs k) f j = some x ∧ w.heap.size ≤ gl ∧ gl ≠ g ∧
      (∀ {t : TypeId} {V' : Nat} {cc : Array Value}, Blk wr V' t cc → (3 : TypeId) ≠ t → gl ≠ V') ∧
      ∀ y : Int, ofStep bs (tabTo bs k) k = tset (tabTo bs k) f j y → OfR w A bs V g ct (k + 1) (wr.setCell ⟨gl, j, none⟩ (.int .i64 y)) := by
  obtain ⟨⟨cs, h1, h2, h3⟩, h4, h5, h6, h7⟩ := H
  obtain ⟨xs, x, e1, e6, e2, e3⟩ := (of_inv hd k hk).tv.cell hf hj
  obtain ⟨gl, cl, hli, hio, hgl, hglz⟩ := h3.inner (f := f) (xs := xs) (by rw [h2]; exact e1) (by omega)
  have c0 := h3.at_ h1 hli
  dsimp only at c0
  rw [e6] at c0
  have hVg : gl ≠ g := by
    rcases VOwn.ne hio h3.1 int_ne with e | e
    · simp [Value.ownBlock] at e
    · simpa [Value.ownBlock] using e
  have n4 : gl ≠ V := VOwn.ne_blk hio h4 (by decide)
  have n5 : gl ≠ w.heap.size := VOwn.ne_blk hio h5 (by decide)
  refine ⟨gl, cl, x, c0, VOwn.at_ hio (iv_length xs) (iv_at e2), VOwn.frozen hio (iv_length xs) j, e3, hgl, hVg, fun hb ht => VOwn.ne_blk hio hb ht, fun y hy => ?_⟩
  refine ⟨⟨_, by rw [List.length_set]; exact h1, ?_, h3.set hli j y⟩, h4.far (p := ⟨gl, j, none⟩) (fun e => n4 e.symm) _, h5.far (p := ⟨gl, j, none⟩) (fun e => n5 e.symm) _, ?_, grown_put h7 (p := ⟨gl, j, none⟩) hgl _⟩
  · rw [ll_set, h2, show tabTo bs (k + 1) = ofStep bs (tabTo bs k) k from rfl, hy, tset_row e1]
  · exact h6.keep (by simp [World.setCell]) fun q hq _ => World.cell?_setCell_other wr ⟨gl, j, none⟩ q _ (fun e => by subst e; dsimp only at hq; omega)
theorem OfR.tab {w wr : World} {A : Option Addr} {bs : List Bk} {V g ct k : Nat} (H : OfR w A bs V g ct k wr) (hd : devB bs = true) (hk : k ≤ 48) : ∃ cs, ll cs = tabTo bs k ∧ tabB (ll cs) = true ∧ TRow wr wr.heap.size (some ⟨g, 0, none⟩) cs := by
  obtain ⟨⟨cs, h1, h2, h3⟩, _⟩ := H
  exact ⟨cs, h2, by rw [h2]; exact (tabB_iff _).2 (of_inv hd k hk).tv, h3.row⟩
theorem tableOf_no (A : Option Addr) (n c : Nat) (bs : List Bk) (w : World) (hl : bs.length = n) (hr : DRow w w.heap.size A bs) (hn : n ≤ 1048576) (hp : ∀ b, b ∈ bs → b.ps.length ≤ 1048576) (hd : devB bs = false) :
    Calls Try.prog 19 #[.slice A n c] w (TabMade [] 0 w) := by
  have HD := Lib.hid (And.intro hl (And.intro hd (And.intro hp (hr.alloc (.cells #[.slice none 0 0] 25)).here)))
  clear hl hr hp hd
  go_enter Try.func19, Try.ntmps19
  go_wp2_with fail
  refine (deviceValid_val HD.out.1 HD.out.2.1 _ HD.out.2.2.2 hn HD.out.2.2.1).mono ?_
  rintro e w1 ⟨rfl, hk⟩
  have hb := (Blk.new w 25 #[.slice none 0 0]).keep hk
  have HG := Lib.hid (grown_trans (grown_alloc (grown_refl w none) (.cells #[.slice none 0 0] 25)) hk)
  have z0 : w1.cell? ⟨w.heap.size, 0, none⟩ = some (.slice none 0 0) := hb.cell 0
  have z1 : w1.frozen? ⟨w.heap.size, 0, none⟩ = false := hb.frozen 0
  clear hb hk
  go_wp2
  exact bodyPost_ret (v := .agg #[.slice none 0 0]) (by simp [results, Try.results19, go_sem, *]) rfl ⟨none, 0, [], rfl, rfl, rfl, town_nil _ _, grown_put HG.out (p := ⟨w.heap.size, 0, none⟩) (Nat.le_refl _) _⟩
set_option maxHeartbeats 2000000 in
theorem tableOf_yes (A : Option Addr) (n c : Nat) (bs : List Bk) (w : World) (hl : bs.length = n) (hr : DRow w w.heap.size A bs) (hd : devB bs = true) :
    Calls Try.prog 19 #[.slice A n c] w (TabMade (tabTo bs (4 * n)) 8 w) := by
  obtain ⟨⟨h1, h12⟩, hall⟩ := dev_parts hd
  have HD := Lib.hid (And.intro hl (And.intro hd (And.intro (fun (b : Bk) (hm : b ∈ bs) => show b.ps.length = 4 from (block_parts (hall b hm)).2.1) (hr.alloc (.cells #[.slice none 0 0] 25)).here)))
  have hr1 := hr.alloc (.cells #[.slice none 0 0] 25)
  have HR := Lib.hid hr1
  have hn12 : n ≤ 12 := by omega
  have hn1 : 1 ≤ n := by omega
  clear hl hr hall hd hr1 h1 h12
  go_enter Try.func19, Try.ntmps19
  go_wp2_with fail
  refine (deviceValid_val HD.out.1 HD.out.2.1 _ HD.out.2.2.2 (by omega) (fun b hm => by have := HD.out.2.2.1 b hm; omega)).mono ?_
  rintro e w1 ⟨rfl, hk1⟩
  go_wp2_with fail
  refine (emptyTable_any w1).mono ?_
  rintro e w2 ⟨At, ct, cs, rfl, hcl, hcs, ho, hk2⟩
  obtain ⟨gt, _, e, hgt, _⟩ := ho.head hcl (by omega)
  injection e with e1 _ e3
  subst e1; subst e3
  have hG1 := grown_trans (grown_alloc (grown_refl w none) (.cells #[.slice none 0 0] 25)) hk1
  have hka : w2.grownBy (w2.alloc (.cells #[.slice (some ⟨gt, 0, none⟩) 8 ct] 25)) none := grown_alloc (grown_refl _ _) _
  have H0 : OfR w A bs w2.heap.size gt ct 0 (w2.alloc (.cells #[.slice (some ⟨gt, 0, none⟩) 8 ct] 25)) :=
    ⟨⟨cs, hcl, hcs, (ho.keep hka).base_le hG1.size⟩, Blk.new w2 _ _, (((Blk.new w 25 #[.slice none 0 0]).keep hk1).keep hk2).keep hka, (((HR.out.kept hk1).kept hk2).kept hka), grown_trans (grown_trans hG1 hk2) hka⟩
  have hgw : w.heap.size ≤ gt := Nat.le_trans hG1.size hgt
  have HS := Lib.hid H0
  clear hk1 hk2 hcl hcs ho hG1 hka H0 hgt
  go_wp2
  go_loopw [4] (fun i wr => ∃ k : Nat, i = .int .i64 k ∧ k ≤ 4 * n ∧ OfR w A bs w2.heap.size gt ct k wr) (fun i _ => 4 * n - (intOf i).toNat)
  case atStart => exact ⟨0, rfl, Nat.zero_le _, HS.out⟩
  case round =>
    clear HS HR
    rename World => wo
    obtain ⟨k, rfl, hk, hR⟩ := hrel
    by_cases hlt : k < 4 * n
    · have hk8 : (k : Int) < (n : Int) * 4 := by omega
      have hk48 : k ≤ 48 := by omega
      obtain ⟨p, hp⟩ := page_some (bs := bs) HD.out.2.2.1 (a := k) (by have := HD.out.1; omega)
      have HX := Lib.hid (And.intro hR (And.intro hp hR.2.2.2.1.here))
      clear hR hp
      go_wp2_with fail
      refine (pageOf_at _ _ _ bs k p wo HD.out.1 HX.out.2.2 HD.out.2.1 HX.out.2.1).mono ?_
      rintro e w3 ⟨rfl, hk3⟩
      obtain ⟨fl, fa, pb, v, d⟩ := p
      dsimp only
      have hR3 := HX.out.1.keep hk3
      cases fl
      · have HZ := Lib.hid ((hR3.keep (grown_alloc (grown_refl _ none) (.cells #[.bool false, .int .i64 fa, .int .i64 pb, .int .i64 v, .int .i64 d] 37))).next (of_old HX.out.2.1 rfl))
        clear hk3 hR3
        go_wp2
        go_roundw
        case rel => exact ⟨k + 1, by go_num, by omega, HZ.out⟩
        case measure => simp [intOf]; omega
      · obtain ⟨f, j, ea, eb, hf8, hj6⟩ := full_in HD.out.2.1 HX.out.2.1 rfl
        dsimp only at ea eb
        subst ea; subst eb
        have hR4 := hR3.keep (grown_alloc (grown_refl _ none) (.cells #[.bool true, .int .i64 (f : Int), .int .i64 (j : Int), .int .i64 v, .int .i64 d] 37))
        have hP4 := Blk.new w3 37 #[.bool true, .int .i64 (f : Int), .int .i64 (j : Int), .int .i64 v, .int .i64 d]
        obtain ⟨cs4, hcs4, hv4, ht4⟩ := hR4.tab HD.out.2.1 hk48
        have b3 : w3.cell? ⟨w2.heap.size, 0, none⟩ = some (.slice (some ⟨gt, 0, none⟩) 8 ct) := hR3.2.1.cell 0
        have l3 := hR3.2.1.lt
        have hnew : ∃ V, newerB bs (tabTo bs k) ⟨true, f, j, v, d⟩ = V ∧ Calls Try.prog 63 #[.slice A n c, .agg #[.slice (some ⟨gt, 0, none⟩) 8 ct], .agg #[.bool true, .int .i64 (f : Int), .int .i64 (j : Int), .int .i64 v, .int .i64 d]] (w3.alloc (.cells #[.bool true, .int .i64 (f : Int), .int .i64 (j : Int), .int .i64 v, .int .i64 d] 37)) (KeptV (.bool V) (w3.alloc (.cells #[.bool true, .int .i64 (f : Int), .int .i64 (j : Int), .int .i64 v, .int .i64 d] 37))) := by
          obtain ⟨xs, x, _, _, _, e3⟩ := (of_inv HD.out.2.1 k hk48).tv.cell hf8 hj6
          have e4 : cellO (ll cs4) f j = some x := by rw [hcs4]; exact e3
          rcases (of_inv HD.out.2.1 k hk48).ent f j x e3 with rfl | ⟨a, q, rfl, _, hq, _⟩
          · exact ⟨true, newer_none rfl rfl e3, isNewer_none A n c bs _ ct cs4 f j v d _ HD.out.1 hR4.2.2.2.1.here HD.out.2.1 ht4 hv4 hf8 hj6 e4⟩
          · exact ⟨_, newer_some rfl rfl e3 hq, isNewer_some A n c bs _ ct cs4 f j v d a q _ HD.out.1 hR4.2.2.2.1.here HD.out.2.1 ht4 hv4 hf8 hj6 e4 hq⟩
        obtain ⟨V, hV, hcall⟩ := hnew
        have HN := Lib.hid (And.intro hV (And.intro hcall (And.intro hR4 hP4)))
        clear hk3 hR3 hR4 hP4 hcs4 hv4 ht4 hV hcall
        go_wp2_with fail
        refine HN.out.2.1.mono ?_
        rintro e w5 ⟨rfl, hk5⟩
        have hR5 := HN.out.2.2.1.keep hk5
        have hP5 := HN.out.2.2.2.keep hk5
        clear b3 l3
        cases V
        · have HZ := Lib.hid (hR5.next (of_less HX.out.2.1 HN.out.1))
          clear hk5 hR5 hP5
          go_wp2
          go_roundw
          case rel => exact ⟨k + 1, by go_num, by omega, HZ.out⟩
          case measure => simp [intOf]; omega
        · have b3 : w5.cell? ⟨w2.heap.size, 0, none⟩ = some (.slice (some ⟨gt, 0, none⟩) 8 ct) := hR5.2.1.cell 0
          obtain ⟨p0, p1, p2, p3, p4⟩ := cells5 hP5
          have hR6 := hR5.keep (grown_drew (grown_refl w5 none))
          obtain ⟨gl, cl, x, c0, c1, c2f, _, hgl, hne, hnb, hput⟩ := hR6.open_ HD.out.2.1 hk48 hf8 hj6
          have hst := of_new (f := f) (j := j) HX.out.2.1 rfl rfl rfl HN.out.1
          have hfin := hput (k : Int) hst
          have n3 : gl ≠ w2.heap.size := hnb hR6.2.1 (by decide)
          have n5 : gl ≠ w3.heap.size := hnb (hP5.drew) (by decide)
          have m3 : w2.heap.size ≠ gl := fun e => n3 e.symm
          have m5 : w3.heap.size ≠ gl := fun e => n5 e.symm
          have mg : gt ≠ gl := fun e => hne e.symm
          have HSS := Lib.hid (And.intro ((hR6.2.1.far (p := ⟨gl, j, none⟩) m3 (.int .i64 (k : Int))).cell 0) (And.intro ((hP5.drew.far (p := ⟨gl, j, none⟩) m5 (.int .i64 (k : Int))).cell 1) (And.intro ((hP5.drew.far (p := ⟨gl, j, none⟩) m5 (.int .i64 (k : Int))).cell 2) ((World.cell?_setCell_other w5.drew ⟨gl, j, none⟩ ⟨gt, f, none⟩ (.int .i64 (k : Int)) (fun e => by injection e with e; omega)).trans c0))))
          have HZ := Lib.hid hfin
          have f0 : decide ((0 : Int) ≤ f) = true := decide_eq_true (by omega)
          have f1 : (f : Int) < 8 := by omega
          have j0 : decide ((0 : Int) ≤ j) = true := decide_eq_true (by omega)
          have j1 : (j : Int) < 6 := by omega
          clear hk5 hR5 hP5 hR6 hst hfin hput hnb
          go_wp2
          refine wp_region_held_drew (S := (fun w' => w'.cell? ⟨w2.heap.size, 0, none⟩ = some (.slice (some ⟨gt, 0, none⟩) 8 ct) ∧ w'.cell? ⟨w3.heap.size, 1, none⟩ = some (.int .i64 (f : Int)) ∧ w'.cell? ⟨w3.heap.size, 2, none⟩ = some (.int .i64 (j : Int)) ∧ w'.cell? ⟨gt, f, none⟩ = some (.slice (some ⟨gl, 0, none⟩) 6 cl))) (by kernel_rfl) ?_ (fun hHeld => ?_)
          · exact ⟨b3, p1, p2, c0⟩
          refine held_yes (i := 0) (d := some 29) (v := ?_) rfl rfl (by kernel_rfl) (by kernel_rfl) (by kernel_rfl) (fun _ _ _ h => h) (by rfl) ?_ (by assumption) ?_
          rotate_left
          · (intro w hSw; (try dsimp only at hSw); go_simp; (first | done | with_reducible rfl))
          try simp only [Act.put, List.setIfInBounds_toArray, List.set_cons_zero, List.set_cons_succ]
          refine held_yes (i := 1) (d := some 30) (v := ?_) rfl rfl (by kernel_rfl) (by kernel_rfl) (by kernel_rfl) (fun _ _ _ h => h) (by rfl) ?_ (by assumption) ?_
          rotate_left
          · (intro w hSw; (try dsimp only at hSw); go_simp; (first | done | with_reducible rfl))
          try simp only [Act.put, List.setIfInBounds_toArray, List.set_cons_zero, List.set_cons_succ]
          refine held_yes (i := 2) (d := some 31) (v := ?_) rfl rfl (by kernel_rfl) (by kernel_rfl) (by kernel_rfl) (fun _ _ _ h => h) (by rfl) ?_ (by assumption) ?_
          rotate_left
          · (intro w hSw; (try dsimp only at hSw); go_simp; (first | done | with_reducible rfl))
          try simp only [Act.put, List.setIfInBounds_toArray, List.set_cons_zero, List.set_cons_succ]
          refine held_yes (i := 3) (d := some 32) (v := ?_) rfl rfl (by kernel_rfl) (by kernel_rfl) (by kernel_rfl) (fun _ _ _ h => h) (by rfl) ?_ (by assumption) ?_
          rotate_left
          · (intro w hSw; (try dsimp only at hSw); go_simp; (first | done | with_reducible rfl))
          try simp only [Act.put, List.setIfInBounds_toArray, List.set_cons_zero, List.set_cons_succ]
          refine held_yes (i := 4) (d := some 33) (v := ?_) rfl rfl (by kernel_rfl) (by kernel_rfl) (by kernel_rfl) (fun _ _ _ h => h) (by rfl) ?_ (by assumption) ?_
          rotate_left
          · (intro w hSw; (try dsimp only at hSw); go_simp; (first | done | with_reducible rfl))
          try simp only [Act.put, List.setIfInBounds_toArray, List.set_cons_zero, List.set_cons_succ]
          refine held_yes (i := 5) (d := some 34) (v := ?_) rfl rfl (by kernel_rfl) (by kernel_rfl) (by kernel_rfl) (fun _ _ _ h => h) (by rfl) ?_ (by assumption) ?_
          rotate_left
          · (intro w hSw; (try dsimp only at hSw); go_simp; (first | done | with_reducible rfl))
          try simp only [Act.put, List.setIfInBounds_toArray, List.set_cons_zero, List.set_cons_succ]
          refine held_yes (i := 6) (d := some 35) (v := ?_) rfl rfl (by kernel_rfl) (by kernel_rfl) (by kernel_rfl) (fun _ _ _ h => h) (by rfl) ?_ (by assumption) ?_
          rotate_left
          · (intro w hSw; (try dsimp only at hSw); go_simp; (first | done | with_reducible rfl))
          try simp only [Act.put, List.setIfInBounds_toArray, List.set_cons_zero, List.set_cons_succ]
          refine held_yes (i := 7) (d := some 36) (v := ?_) rfl rfl (by kernel_rfl) (by kernel_rfl) (by kernel_rfl) (fun _ _ _ h => h) (by rfl) ?_ (by assumption) ?_
          rotate_left
          · (intro w hSw; (try dsimp only at hSw); go_simp; (first | done | with_reducible rfl))
          try simp only [Act.put, List.setIfInBounds_toArray, List.set_cons_zero, List.set_cons_succ]
          refine held_yes (i := 8) (d := some 37) (v := ?_) rfl rfl (by kernel_rfl) (by kernel_rfl) (by kernel_rfl) (fun _ _ _ h => h) (by rfl) ?_ (by assumption) ?_
          rotate_left
          · (intro w hSw; (try dsimp only at hSw); go_simp; (first | done | with_reducible rfl))
          try simp only [Act.put, List.setIfInBounds_toArray, List.set_cons_zero, List.set_cons_succ]
          refine held_yes (i := 9) (d := some 38) (v := ?_) rfl rfl (by kernel_rfl) (by kernel_rfl) (by kernel_rfl) (fun _ _ _ h => h) (by rfl) ?_ (by assumption) ?_
          rotate_left
          · (intro w hSw; (try dsimp only at hSw); go_simp; (first | done | with_reducible rfl))
          try simp only [Act.put, List.setIfInBounds_toArray, List.set_cons_zero, List.set_cons_succ]
          refine wpAnyH_ready (rs := [10]) (by kernel_rfl) (by simp) ?_
          refine AllReadyH.cons rfl (fun K hK => ?_) AllReadyH.nil
          go_simp
          refine hK.out _ _ ?_ (fun hHeld => ?_)
          · exact HSS.out
          clear hK K
          try simp only [Act.put, List.setIfInBounds_toArray, List.set_cons_zero, List.set_cons_succ]
          refine wpAnyH_done (by kernel_rfl) ?_ _
          go_wp2
          go_roundw
          case rel => exact ⟨k + 1, by go_num, by omega, HZ.out⟩
          case measure => simp [intOf]; omega
    · obtain rfl : k = 4 * n := by omega
      have z0 : wo.cell? ⟨w.heap.size, 0, none⟩ = some (.slice none 0 0) := hR.2.2.1.cell 0
      have z1 : wo.frozen? ⟨w.heap.size, 0, none⟩ = false := hR.2.2.1.frozen 0
      have b3 : wo.cell? ⟨w2.heap.size, 0, none⟩ = some (.slice (some ⟨gt, 0, none⟩) 8 ct) := hR.2.1.cell 0
      have e8 : decide (((4 * n : Nat) : Int) < (n : Int) * 4) = false := decide_eq_false (by omega)
      obtain ⟨⟨cs, h1, h2, h3⟩, h4, h5, h6, h7⟩ := hR
      have HZ := Lib.hid (And.intro h1 (And.intro h2 (And.intro (h3.put h5 0 (.slice (some ⟨gt, 0, none⟩) 8 ct)) (grown_put h7 (p := ⟨w.heap.size, 0, none⟩) (Nat.le_refl _) (.slice (some ⟨gt, 0, none⟩) 8 ct)))))
      clear h1 h2 h3 h4 h5 h6 h7
      go_wp2
      exact bodyPost_ret (v := .agg #[.slice (some ⟨gt, 0, none⟩) 8 ct]) (by simp [results, Try.results19, go_sem, *]) rfl ⟨_, _, cs, rfl, HZ.out.1, HZ.out.2.1, HZ.out.2.2.1, HZ.out.2.2.2⟩
end Go.Proofs.Ytfiajbkmklcaiaa
namespace Go.Proofs.Ytfiajbkmklcaiaa
open Go.ChangeShapes Go.WideShapes Go.ChangeAt Go.RowKit
set_option linter.unusedVariables false
set_option linter.unusedSimpArgs false

theorem specTableOf_no (A : Option Addr) (n c : Nat) (bs : List Bk) (w : World) (hl : bs.length = n) (hr : DRow w w.heap.size A bs) (hn : n ≤ 1048576) (hp : ∀ b, b ∈ bs → b.ps.length ≤ 1048576) (hd : devB bs = false) :
    Calls Try.prog 21 #[.slice A n c] w (TabMade [] 0 w) := by
  have HD := Lib.hid (And.intro hl (And.intro hd (And.intro hp (hr.alloc (.cells #[.slice none 0 0] 25)).here)))
  clear hl hr hp hd
  go_enter Try.func21, Try.ntmps21
  go_wp2_with fail
  refine (specDeviceValid_val HD.out.1 HD.out.2.1 _ HD.out.2.2.2 hn HD.out.2.2.1).mono ?_
  rintro e w1 ⟨rfl, hk⟩
  have hb := (Blk.new w 25 #[.slice none 0 0]).keep hk
  have HG := Lib.hid (grown_trans (grown_alloc (grown_refl w none) (.cells #[.slice none 0 0] 25)) hk)
  have z0 : w1.cell? ⟨w.heap.size, 0, none⟩ = some (.slice none 0 0) := hb.cell 0
  have z1 : w1.frozen? ⟨w.heap.size, 0, none⟩ = false := hb.frozen 0
  clear hb hk
  go_wp2
  exact bodyPost_ret (v := .agg #[.slice none 0 0]) (by simp [results, Try.results21, go_sem, *]) rfl ⟨none, 0, [], rfl, rfl, rfl, town_nil _ _, grown_put HG.out (p := ⟨w.heap.size, 0, none⟩) (Nat.le_refl _) _⟩
set_option maxHeartbeats 4000000 in
theorem specTableOf_yes (A : Option Addr) (n c : Nat) (bs : List Bk) (w : World) (hl : bs.length = n) (hr : DRow w w.heap.size A bs) (hd : devB bs = true) :
    Calls Try.prog 21 #[.slice A n c] w (TabMade (tabTo bs (4 * n)) 8 w) := by
  obtain ⟨⟨h1, h12⟩, hall⟩ := dev_parts hd
  have HD := Lib.hid (And.intro hl (And.intro hd (And.intro (fun (b : Bk) (hm : b ∈ bs) => show b.ps.length = 4 from (block_parts (hall b hm)).2.1) (hr.alloc (.cells #[.slice none 0 0] 25)).here)))
  have hr1 := hr.alloc (.cells #[.slice none 0 0] 25)
  have HR := Lib.hid hr1
  have hn12 : n ≤ 12 := by omega
  have hn1 : 1 ≤ n := by omega
  have hsm : n ≤ 1048576 := by omega
  clear hl hr hall hd hr1 h1 h12
  go_enter Try.func21, Try.ntmps21
  go_wp2_with fail
  refine (specDeviceValid_val HD.out.1 HD.out.2.1 _ HD.out.2.2.2 (by omega) (fun b hm => by have := HD.out.2.2.1 b hm; omega)).mono ?_
  rintro e w1 ⟨rfl, hk1⟩
  go_wp2_with fail
  refine (specNew_any w1).mono ?_
  rintro e w2 ⟨At, ct, cs, rfl, hcl, hcs, ho, hk2⟩
  obtain ⟨gt, _, e, hgt, _⟩ := ho.head hcl (by omega)
  injection e with e1 _ e3
  subst e1; subst e3
  have hG1 := grown_trans (grown_alloc (grown_refl w none) (.cells #[.slice none 0 0] 25)) hk1
  have hka : w2.grownBy (w2.alloc (.cells #[.slice (some ⟨gt, 0, none⟩) 8 ct] 25)) none := grown_alloc (grown_refl _ _) _
  have H0 : OfR w A bs w2.heap.size gt ct 0 (w2.alloc (.cells #[.slice (some ⟨gt, 0, none⟩) 8 ct] 25)) :=
    ⟨⟨cs, hcl, hcs, (ho.keep hka).base_le hG1.size⟩, Blk.new w2 _ _, (((Blk.new w 25 #[.slice none 0 0]).keep hk1).keep hk2).keep hka, (((HR.out.kept hk1).kept hk2).kept hka), grown_trans (grown_trans hG1 hk2) hka⟩
  have hgw : w.heap.size ≤ gt := Nat.le_trans hG1.size hgt
  have HS := Lib.hid H0
  clear hk1 hk2 hcl hcs ho hG1 hka H0 hgt
  go_wp2
  go_loopw [4] (fun i wr => ∃ k : Nat, i = .int .i64 k ∧ k ≤ 4 * n ∧ OfR w A bs w2.heap.size gt ct k wr) (fun i _ => 4 * n - (intOf i).toNat)
  case atStart => exact ⟨0, rfl, Nat.zero_le _, HS.out⟩
  case round =>
    clear HS HR
    rename World => wo
    obtain ⟨k, rfl, hk, hR⟩ := hrel
    by_cases hlt : k < 4 * n
    · have hk8 : (k : Int) < 4 * (n : Int) := by omega
      have hk48 : k ≤ 48 := by omega
      obtain ⟨p, hp⟩ := page_some (bs := bs) HD.out.2.2.1 (a := k) (by have := HD.out.1; omega)
      have HX := Lib.hid (And.intro hR (And.intro hp hR.2.2.2.1.here))
      clear hR hp
      go_wp2_with fail
      refine (specReadPage_at _ _ _ bs k p wo HD.out.1 HX.out.2.2 HD.out.2.1 HX.out.2.1).mono ?_
      rintro e w3 ⟨rfl, hk3⟩
      obtain ⟨fl, fa, pb, v, d⟩ := p
      dsimp only
      have hR3 := HX.out.1.keep hk3
      cases fl
      · have HZ := Lib.hid ((hR3.keep (grown_alloc (grown_refl _ none) (.cells #[.bool false, .int .i64 fa, .int .i64 pb, .int .i64 v, .int .i64 d] 37))).next (of_old HX.out.2.1 rfl))
        clear hk3 hR3
        go_wp2
        go_roundw
        case rel => exact ⟨k + 1, by go_num, by omega, HZ.out⟩
        case measure => simp [intOf]; omega
      · obtain ⟨f, j, ea, eb, hf8, hj6⟩ := full_in HD.out.2.1 HX.out.2.1 rfl
        dsimp only at ea eb
        subst ea; subst eb
        have hR4 := hR3.keep (grown_alloc (grown_refl _ none) (.cells #[.bool true, .int .i64 (f : Int), .int .i64 (j : Int), .int .i64 v, .int .i64 d] 37))
        have hP4 := Blk.new w3 37 #[.bool true, .int .i64 (f : Int), .int .i64 (j : Int), .int .i64 v, .int .i64 d]
        obtain ⟨w4, hw4⟩ : ∃ w4, w3.alloc (.cells #[.bool true, .int .i64 (f : Int), .int .i64 (j : Int), .int .i64 v, .int .i64 d] 37) = w4 := ⟨_, rfl⟩
        have f0 : decide ((0 : Int) ≤ f) = true := decide_eq_true (by omega)
        have f1 : (f : Int) < 8 := by omega
        have j0 : decide ((0 : Int) ≤ j) = true := decide_eq_true (by omega)
        have j1 : (j : Int) < 6 := by omega
        rw [hw4] at hR4 hP4
        have HN := Lib.hid (And.intro hR4 (And.intro hP4 hw4))
        have hq : ∃ x q V, cellO (tabTo bs k) f j = some x ∧ ReadIs n bs x q ∧ newerB bs (tabTo bs k) ⟨true, f, j, v, d⟩ = V ∧ ((q.f = false ∧ V = true) ∨ (q.f = true ∧ V = decide (q.d < d))) := by
          obtain ⟨xs, x, _, _, _, e3⟩ := (of_inv HD.out.2.1 k hk48).tv.cell hf8 hj6
          rcases (of_inv HD.out.2.1 k hk48).ent f j x e3 with rfl | ⟨a, q, rfl, _, hq, hqf⟩
          · exact ⟨-1, pz, true, e3, .inr (.inl ⟨HD.out.2.1, by simp [hasP], rfl⟩), newer_none rfl rfl e3, .inl ⟨rfl, rfl⟩⟩
          · exact ⟨a, q, _, e3, .inr (.inr ⟨a, rfl, HD.out.2.1, hq⟩), newer_some rfl rfl e3 hq, .inr ⟨hqf, rfl⟩⟩
        obtain ⟨x, ⟨qf, qa, qb, qc, qd⟩, V, hcx, hri, hnv, hqV⟩ := hq
        obtain ⟨gl, cl, x', c0, c1, c2f, hcx', hgl, hne, hnb, hput⟩ := hR4.open_ HD.out.2.1 hk48 hf8 hj6
        rw [hcx] at hcx'
        injection hcx' with hcx'
        subst hcx'
        have HRI := Lib.hid hri
        have HNV0 := Lib.hid (And.intro hnv hqV)
        have gtl : gt < w4.heap.size := World.block_lt_of_cell? w4 _ c0
        have gll : gl < w4.heap.size := World.block_lt_of_cell? w4 _ c1
        have HSf := Lib.hid (fun (w' : World) (hg : w4.grownBy w' none) => show w'.cell? ⟨w2.heap.size, 0, none⟩ = some (.slice (some ⟨gt, 0, none⟩) 8 ct) ∧ w'.cell? ⟨w3.heap.size, 1, none⟩ = some (.int .i64 (f : Int)) ∧ w'.cell? ⟨w3.heap.size, 2, none⟩ = some (.int .i64 (j : Int)) ∧ w'.cell? ⟨gt, f, none⟩ = some (.slice (some ⟨gl, 0, none⟩) 6 cl) ∧ w'.cell? ⟨gl, j, none⟩ = some (.int .i64 x) from ⟨(hR4.2.1.keep hg).cell 0, (hP4.keep hg).cell 1, (hP4.keep hg).cell 2, (World.cell?_of_block (hg.block gt gtl (by simp))).trans c0, (World.cell?_of_block (hg.block gl gll (by simp))).trans c1⟩)
        have HROW := Lib.hid (show DRow w4.drew w4.drew.heap.size A bs from (hR4.2.2.2.1.drew).here)
        have HROW2 := Lib.hid (show DRow (w4.drew.alloc (.cells #[.bool false, .int .i64 0, .int .i64 0, .int .i64 0, .int .i64 0] 37)) (w4.drew.alloc (.cells #[.bool false, .int .i64 0, .int .i64 0, .int .i64 0, .int .i64 0] 37)).heap.size A bs from (hR4.2.2.2.1.drew.alloc _).here)
        clear hk3 hR3 hR4 hP4 hw4 hri hnv hqV hcx c0 c1 c2f hgl hne hnb hput gtl gll
        go_upto_region 9 with fail
        have hw4 := HN.out.2.2
        simp only [hw4]
        go_cut [7, 8] (fun s7 s8 wx => ∃ V7 : Nat, s7 = .pointer (some ⟨V7, 0, none⟩) ∧ s8 = .bool qf ∧ wx.cell? ⟨V7, 4, none⟩ = some (.int .i64 qd) ∧ w4.grownBy wx none)
        case first =>
          clear hw4
          refine wp_region_held_drew (S := (fun w' => w'.cell? ⟨w2.heap.size, 0, none⟩ = some (.slice (some ⟨gt, 0, none⟩) 8 ct) ∧ w'.cell? ⟨w3.heap.size, 1, none⟩ = some (.int .i64 (f : Int)) ∧ w'.cell? ⟨w3.heap.size, 2, none⟩ = some (.int .i64 (j : Int)) ∧ w'.cell? ⟨gt, f, none⟩ = some (.slice (some ⟨gl, 0, none⟩) 6 cl) ∧ w'.cell? ⟨gl, j, none⟩ = some (.int .i64 x))) (by kernel_rfl) ?_ (fun hHeld => ?_)
          · exact HSf.out _ (grown_drew (grown_refl w4 none))
          refine held_yes (i := 0) (d := some 30) (v := ?_) rfl rfl (by kernel_rfl) (by kernel_rfl) (by kernel_rfl) (fun _ _ _ h => h) (by rfl) ?_ (by assumption) ?_
          rotate_left
          · (intro w hSw; (try dsimp only at hSw); go_simp; (first | done | with_reducible rfl))
          try simp only [Act.put, List.setIfInBounds_toArray, List.set_cons_zero, List.set_cons_succ]
          refine held_yes (i := 1) (d := some 31) (v := ?_) rfl rfl (by kernel_rfl) (by kernel_rfl) (by kernel_rfl) (fun _ _ _ h => h) (by rfl) ?_ (by assumption) ?_
          rotate_left
          · (intro w hSw; (try dsimp only at hSw); go_simp; (first | done | with_reducible rfl))
          try simp only [Act.put, List.setIfInBounds_toArray, List.set_cons_zero, List.set_cons_succ]
          refine held_yes (i := 2) (d := some 32) (v := ?_) rfl rfl (by kernel_rfl) (by kernel_rfl) (by kernel_rfl) (fun _ _ _ h => h) (by rfl) ?_ (by assumption) ?_
          rotate_left
          · (intro w hSw; (try dsimp only at hSw); go_simp; (first | done | with_reducible rfl))
          try simp only [Act.put, List.setIfInBounds_toArray, List.set_cons_zero, List.set_cons_succ]
          refine held_yes (i := 3) (d := some 33) (v := ?_) rfl rfl (by kernel_rfl) (by kernel_rfl) (by kernel_rfl) (fun _ _ _ h => h) (by rfl) ?_ (by assumption) ?_
          rotate_left
          · (intro w hSw; (try dsimp only at hSw); go_simp; (first | done | with_reducible rfl))
          try simp only [Act.put, List.setIfInBounds_toArray, List.set_cons_zero, List.set_cons_succ]
          refine held_yes (i := 4) (d := some 34) (v := ?_) rfl rfl (by kernel_rfl) (by kernel_rfl) (by kernel_rfl) (fun _ _ _ h => h) (by rfl) ?_ (by assumption) ?_
          rotate_left
          · (intro w hSw; (try dsimp only at hSw); go_simp; (first | done | with_reducible rfl))
          try simp only [Act.put, List.setIfInBounds_toArray, List.set_cons_zero, List.set_cons_succ]
          refine held_yes (i := 5) (d := some 35) (v := ?_) rfl rfl (by kernel_rfl) (by kernel_rfl) (by kernel_rfl) (fun _ _ _ h => h) (by rfl) ?_ (by assumption) ?_
          rotate_left
          · (intro w hSw; (try dsimp only at hSw); go_simp; (first | done | with_reducible rfl))
          try simp only [Act.put, List.setIfInBounds_toArray, List.set_cons_zero, List.set_cons_succ]
          refine held_yes (i := 6) (d := some 36) (v := ?_) rfl rfl (by kernel_rfl) (by kernel_rfl) (by kernel_rfl) (fun _ _ _ h => h) (by rfl) ?_ (by assumption) ?_
          rotate_left
          · (intro w hSw; (try dsimp only at hSw); go_simp; (first | done | with_reducible rfl))
          try simp only [Act.put, List.setIfInBounds_toArray, List.set_cons_zero, List.set_cons_succ]
          refine held_yes (i := 7) (d := some 37) (v := ?_) rfl rfl (by kernel_rfl) (by kernel_rfl) (by kernel_rfl) (fun _ _ _ h => h) (by rfl) ?_ (by assumption) ?_
          rotate_left
          · (intro w hSw; (try dsimp only at hSw); go_simp; (first | done | with_reducible rfl))
          try simp only [Act.put, List.setIfInBounds_toArray, List.set_cons_zero, List.set_cons_succ]
          refine held_yes (i := 8) (d := some 38) (v := ?_) rfl rfl (by kernel_rfl) (by kernel_rfl) (by kernel_rfl) (fun _ _ _ h => h) (by rfl) ?_ (by assumption) ?_
          rotate_left
          · (intro w hSw; (try dsimp only at hSw); go_simp; (first | done | with_reducible rfl))
          try simp only [Act.put, List.setIfInBounds_toArray, List.set_cons_zero, List.set_cons_succ]
          refine held_yes (i := 9) (d := some 39) (v := ?_) rfl rfl (by kernel_rfl) (by kernel_rfl) (by kernel_rfl) (fun _ _ _ h => h) (by rfl) ?_ (by assumption) ?_
          rotate_left
          · (intro w hSw; (try dsimp only at hSw); go_simp; (first | done | with_reducible rfl))
          try simp only [Act.put, List.setIfInBounds_toArray, List.set_cons_zero, List.set_cons_succ]
          refine held_yes (i := 10) (d := some 40) (v := ?_) rfl rfl (by kernel_rfl) (by kernel_rfl) (by kernel_rfl) (fun _ _ _ h => h) (by rfl) ?_ (by assumption) ?_
          rotate_left
          · (intro w hSw; (try dsimp only at hSw); go_simp; (first | done | with_reducible rfl))
          try simp only [Act.put, List.setIfInBounds_toArray, List.set_cons_zero, List.set_cons_succ]
          refine wpAnyH_ready (rs := [11, 15]) (by kernel_rfl) (by simp) ?_
          refine AllReadyH.cons rfl (fun K hK => ?_) (AllReadyH.cons rfl (fun K hK => ?_) AllReadyH.nil)
          · go_simp
            go_at_call 66
            refine (specReadPage_val HRI.out HD.out.1 HROW.out hsm (fun b hm => by have := HD.out.2.2.1 b hm; omega)).mono ?_
            rintro e w5 ⟨rfl, hk⟩
            dsimp only
            have hg5 := grown_trans (grown_drew (grown_refl w4 none)) hk
            refine hK.out _ _ ?_ (fun hHeld => ?_)
            · exact HSf.out _ hg5
            clear hK K
            try simp only [Act.put, List.setIfInBounds_toArray, List.set_cons_zero, List.set_cons_succ]
            refine held_yes (i := 12) (d := some 29) (v := ?_) rfl rfl (by kernel_rfl) (by kernel_rfl) (by kernel_rfl) (fun _ _ _ h => h) (by rfl) ?_ (by assumption) ?_
            rotate_left
            · (intro w hSw; (try dsimp only at hSw); go_simp; (first | done | with_reducible rfl))
            try simp only [Act.put, List.setIfInBounds_toArray, List.set_cons_zero, List.set_cons_succ]
            refine held_yes (i := 13) (d := some 42) (v := ?_) rfl rfl (by kernel_rfl) (by kernel_rfl) (by kernel_rfl) (fun _ _ _ h => h) (by rfl) ?_ (by assumption) ?_
            rotate_left
            · (intro w hSw; (try dsimp only at hSw); go_simp; (first | done | with_reducible rfl))
            try simp only [Act.put, List.setIfInBounds_toArray, List.set_cons_zero, List.set_cons_succ]
            refine held_yes (i := 14) (d := some 43) (v := ?_) rfl rfl (by kernel_rfl) (by kernel_rfl) (by kernel_rfl) (fun _ _ _ h => h) (by rfl) ?_ (by assumption) ?_
            rotate_left
            · (intro w hSw; (try dsimp only at hSw); go_simp; (first | done | with_reducible rfl))
            try simp only [Act.put, List.setIfInBounds_toArray, List.set_cons_zero, List.set_cons_succ]
            refine wpAnyH_ready (rs := [15]) (by kernel_rfl) (by simp) ?_
            refine AllReadyH.cons rfl (fun K hK => ?_) AllReadyH.nil
            have hb0 := Blk.new w5 37 #[.bool false, .int .i64 0, .int .i64 0, .int .i64 0, .int .i64 0]
            go_simp
            refine hK.out _ _ ?_ (fun hHeld => ?_)
            · exact HSf.out _ (grown_alloc hg5 _)
            clear hK K
            try simp only [Act.put, List.setIfInBounds_toArray, List.set_cons_zero, List.set_cons_succ]
            have hb := hb0
            obtain ⟨d0, d1, d2, d3, d4⟩ := cells5 hb
            have q0 := hb.frozen 0
            have q1 := hb.frozen 1
            have q2 := hb.frozen 2
            have q3 := hb.frozen 3
            have q4 := hb.frozen 4
            refine wpAnyH_ready (rs := [16]) (by kernel_rfl) (by simp) ?_
            refine AllReadyH.cons rfl (fun K hK => ?_) AllReadyH.nil
            go_simp
            refine hK.out _ _ ?_ (fun hHeld => ?_)
            · exact HSf.out _ (grown_alloc hg5 _)
            clear hK K
            try simp only [Act.put, List.setIfInBounds_toArray, List.set_cons_zero, List.set_cons_succ]
            refine wpAnyH_ready (rs := [17]) (by kernel_rfl) (by simp) ?_
            refine AllReadyH.cons rfl (fun K hK => ?_) AllReadyH.nil
            go_simp
            refine hK.out _ _ ?_ (fun hHeld => ?_)
            · first | with_reducible assumption | exact HSf.out _ (grown_alloc hg5 _)
            clear hK K
            try simp only [Act.put, List.setIfInBounds_toArray, List.set_cons_zero, List.set_cons_succ]
            refine wpAnyH_done (by kernel_rfl) ?_ _
            go_wp2_with fail
            go_meet
            exact ⟨_, rfl, rfl, (Blk.new w5 37 #[.bool qf, .int .i64 qa, .int .i64 qb, .int .i64 qc, .int .i64 qd]).cell 4, grown_alloc hg5 _⟩
          · have hb0 := Blk.new w4.drew 37 #[.bool false, .int .i64 0, .int .i64 0, .int .i64 0, .int .i64 0]
            have hg4 := grown_alloc (grown_drew (grown_refl w4 none)) (.cells #[.bool false, .int .i64 0, .int .i64 0, .int .i64 0, .int .i64 0] 37)
            go_simp
            refine hK.out _ _ ?_ (fun hHeld => ?_)
            · exact HSf.out _ hg4
            clear hK K
            try simp only [Act.put, List.setIfInBounds_toArray, List.set_cons_zero, List.set_cons_succ]
            refine wpAnyH_ready (rs := [11]) (by kernel_rfl) (by simp) ?_
            refine AllReadyH.cons rfl (fun K hK => ?_) AllReadyH.nil
            go_simp
            go_at_call 66
            refine (specReadPage_val HRI.out HD.out.1 (HROW2.out) hsm (fun b hm => by have := HD.out.2.2.1 b hm; omega)).mono ?_
            rintro e w5 ⟨rfl, hk⟩
            dsimp only
            have hg5 := grown_trans hg4 hk
            have hb1 := hb0.keep hk
            refine hK.out _ _ ?_ (fun hHeld => ?_)
            · exact HSf.out _ hg5
            clear hK K
            try simp only [Act.put, List.setIfInBounds_toArray, List.set_cons_zero, List.set_cons_succ]
            refine held_yes (i := 12) (d := some 29) (v := ?_) rfl rfl (by kernel_rfl) (by kernel_rfl) (by kernel_rfl) (fun _ _ _ h => h) (by rfl) ?_ (by assumption) ?_
            rotate_left
            · (intro w hSw; (try dsimp only at hSw); go_simp; (first | done | with_reducible rfl))
            try simp only [Act.put, List.setIfInBounds_toArray, List.set_cons_zero, List.set_cons_succ]
            refine held_yes (i := 13) (d := some 42) (v := ?_) rfl rfl (by kernel_rfl) (by kernel_rfl) (by kernel_rfl) (fun _ _ _ h => h) (by rfl) ?_ (by assumption) ?_
            rotate_left
            · (intro w hSw; (try dsimp only at hSw); go_simp; (first | done | with_reducible rfl))
            try simp only [Act.put, List.setIfInBounds_toArray, List.set_cons_zero, List.set_cons_succ]
            refine held_yes (i := 14) (d := some 43) (v := ?_) rfl rfl (by kernel_rfl) (by kernel_rfl) (by kernel_rfl) (fun _ _ _ h => h) (by rfl) ?_ (by assumption) ?_
            rotate_left
            · (intro w hSw; (try dsimp only at hSw); go_simp; (first | done | with_reducible rfl))
            try simp only [Act.put, List.setIfInBounds_toArray, List.set_cons_zero, List.set_cons_succ]
            have hb := (show Blk w5 w4.heap.size 37 #[.bool false, .int .i64 0, .int .i64 0, .int .i64 0, .int .i64 0] from hb1)
            obtain ⟨d0, d1, d2, d3, d4⟩ := cells5 hb
            have q0 := hb.frozen 0
            have q1 := hb.frozen 1
            have q2 := hb.frozen 2
            have q3 := hb.frozen 3
            have q4 := hb.frozen 4
            have hz := hg5.size
            refine wpAnyH_ready (rs := [16]) (by kernel_rfl) (by simp) ?_
            refine AllReadyH.cons rfl (fun K hK => ?_) AllReadyH.nil
            go_simp
            refine hK.out _ _ ?_ (fun hHeld => ?_)
            · exact HSf.out _ (grown_put5n hg5 (Nat.le_refl _) (.bool qf) (.int .i64 qa) (.int .i64 qb) (.int .i64 qc) (.int .i64 qd))
            clear hK K
            try simp only [Act.put, List.setIfInBounds_toArray, List.set_cons_zero, List.set_cons_succ]
            refine wpAnyH_ready (rs := [17]) (by kernel_rfl) (by simp) ?_
            refine AllReadyH.cons rfl (fun K hK => ?_) AllReadyH.nil
            go_simp
            refine hK.out _ _ ?_ (fun hHeld => ?_)
            · first | with_reducible assumption | exact HSf.out _ (grown_put5n hg5 (Nat.le_refl _) (.bool qf) (.int .i64 qa) (.int .i64 qb) (.int .i64 qc) (.int .i64 qd))
            clear hK K
            try simp only [Act.put, List.setIfInBounds_toArray, List.set_cons_zero, List.set_cons_succ]
            refine wpAnyH_done (by kernel_rfl) ?_ _
            go_wp2_with fail
            go_meet
            exact ⟨_, rfl, rfl, (hb.set5 (.bool qf) (.int .i64 qa) (.int .i64 qb) (.int .i64 qc) (.int .i64 qd)).cell 4, grown_put5n hg5 (Nat.le_refl _) (.bool qf) (.int .i64 qa) (.int .i64 qb) (.int .i64 qc) (.int .i64 qd)⟩
        case rest =>
          clear hw4 HSf HROW HROW2
          obtain ⟨V7, rfl, rfl, hc7, hgx⟩ := hcut
          rename World => wx
          have hR5 := HN.out.1.keep hgx
          have hP5 := HN.out.2.1.keep hgx
          have l4 : wx.cell? ⟨w3.heap.size, 4, none⟩ = some (.int .i64 d) := hP5.cell 4
          clear hgx
          rcases HNV0.out.2 with ⟨e1, e2⟩ | ⟨e1, e2⟩
          · dsimp only at e1
            subst e1; subst e2
            have HNV := Lib.hid HNV0.out.1
            clear HNV0
            have b3 : wx.cell? ⟨w2.heap.size, 0, none⟩ = some (.slice (some ⟨gt, 0, none⟩) 8 ct) := hR5.2.1.cell 0
            obtain ⟨p0, p1, p2, p3, p4⟩ := cells5 hP5
            have hR6 := hR5.keep (grown_drew (grown_refl wx none))
            obtain ⟨gl, cl, x, c0, c1, c2f, _, hgl, hne, hnb, hput⟩ := hR6.open_ HD.out.2.1 hk48 hf8 hj6
            have hst := of_new (f := f) (j := j) HX.out.2.1 rfl rfl rfl HNV.out
            have hfin := hput (k : Int) hst
            have n3 : gl ≠ w2.heap.size := hnb hR6.2.1 (by decide)
            have n5 : gl ≠ w3.heap.size := hnb (hP5.drew) (by decide)
            have m3 : w2.heap.size ≠ gl := fun e => n3 e.symm
            have m5 : w3.heap.size ≠ gl := fun e => n5 e.symm
            have mg : gt ≠ gl := fun e => hne e.symm
            have HSS := Lib.hid (And.intro ((hR6.2.1.far (p := ⟨gl, j, none⟩) m3 (.int .i64 (k : Int))).cell 0) (And.intro ((hP5.drew.far (p := ⟨gl, j, none⟩) m5 (.int .i64 (k : Int))).cell 1) (And.intro ((hP5.drew.far (p := ⟨gl, j, none⟩) m5 (.int .i64 (k : Int))).cell 2) ((World.cell?_setCell_other wx.drew ⟨gl, j, none⟩ ⟨gt, f, none⟩ (.int .i64 (k : Int)) (fun e => by injection e with e; omega)).trans c0))))
            have HZ := Lib.hid hfin
            clear hR5 hP5 hR6 hst hfin hput hnb
            go_wp2
            refine wp_region_held_drew (S := (fun w' => w'.cell? ⟨w2.heap.size, 0, none⟩ = some (.slice (some ⟨gt, 0, none⟩) 8 ct) ∧ w'.cell? ⟨w3.heap.size, 1, none⟩ = some (.int .i64 (f : Int)) ∧ w'.cell? ⟨w3.heap.size, 2, none⟩ = some (.int .i64 (j : Int)) ∧ w'.cell? ⟨gt, f, none⟩ = some (.slice (some ⟨gl, 0, none⟩) 6 cl))) (by kernel_rfl) ?_ (fun hHeld => ?_)
            · exact ⟨b3, p1, p2, c0⟩
            refine held_yes (i := 0) (d := some 53) (v := ?_) rfl rfl (by kernel_rfl) (by kernel_rfl) (by kernel_rfl) (fun _ _ _ h => h) (by rfl) ?_ (by assumption) ?_
            rotate_left
            · (intro w hSw; (try dsimp only at hSw); go_simp; (first | done | with_reducible rfl))
            try simp only [Act.put, List.setIfInBounds_toArray, List.set_cons_zero, List.set_cons_succ]
            refine held_yes (i := 1) (d := some 54) (v := ?_) rfl rfl (by kernel_rfl) (by kernel_rfl) (by kernel_rfl) (fun _ _ _ h => h) (by rfl) ?_ (by assumption) ?_
            rotate_left
            · (intro w hSw; (try dsimp only at hSw); go_simp; (first | done | with_reducible rfl))
            try simp only [Act.put, List.setIfInBounds_toArray, List.set_cons_zero, List.set_cons_succ]
            refine held_yes (i := 2) (d := some 55) (v := ?_) rfl rfl (by kernel_rfl) (by kernel_rfl) (by kernel_rfl) (fun _ _ _ h => h) (by rfl) ?_ (by assumption) ?_
            rotate_left
            · (intro w hSw; (try dsimp only at hSw); go_simp; (first | done | with_reducible rfl))
            try simp only [Act.put, List.setIfInBounds_toArray, List.set_cons_zero, List.set_cons_succ]
            refine held_yes (i := 3) (d := some 56) (v := ?_) rfl rfl (by kernel_rfl) (by kernel_rfl) (by kernel_rfl) (fun _ _ _ h => h) (by rfl) ?_ (by assumption) ?_
            rotate_left
            · (intro w hSw; (try dsimp only at hSw); go_simp; (first | done | with_reducible rfl))
            try simp only [Act.put, List.setIfInBounds_toArray, List.set_cons_zero, List.set_cons_succ]
            refine held_yes (i := 4) (d := some 57) (v := ?_) rfl rfl (by kernel_rfl) (by kernel_rfl) (by kernel_rfl) (fun _ _ _ h => h) (by rfl) ?_ (by assumption) ?_
            rotate_left
            · (intro w hSw; (try dsimp only at hSw); go_simp; (first | done | with_reducible rfl))
            try simp only [Act.put, List.setIfInBounds_toArray, List.set_cons_zero, List.set_cons_succ]
            refine held_yes (i := 5) (d := some 58) (v := ?_) rfl rfl (by kernel_rfl) (by kernel_rfl) (by kernel_rfl) (fun _ _ _ h => h) (by rfl) ?_ (by assumption) ?_
            rotate_left
            · (intro w hSw; (try dsimp only at hSw); go_simp; (first | done | with_reducible rfl))
            try simp only [Act.put, List.setIfInBounds_toArray, List.set_cons_zero, List.set_cons_succ]
            refine held_yes (i := 6) (d := some 59) (v := ?_) rfl rfl (by kernel_rfl) (by kernel_rfl) (by kernel_rfl) (fun _ _ _ h => h) (by rfl) ?_ (by assumption) ?_
            rotate_left
            · (intro w hSw; (try dsimp only at hSw); go_simp; (first | done | with_reducible rfl))
            try simp only [Act.put, List.setIfInBounds_toArray, List.set_cons_zero, List.set_cons_succ]
            refine held_yes (i := 7) (d := some 60) (v := ?_) rfl rfl (by kernel_rfl) (by kernel_rfl) (by kernel_rfl) (fun _ _ _ h => h) (by rfl) ?_ (by assumption) ?_
            rotate_left
            · (intro w hSw; (try dsimp only at hSw); go_simp; (first | done | with_reducible rfl))
            try simp only [Act.put, List.setIfInBounds_toArray, List.set_cons_zero, List.set_cons_succ]
            refine held_yes (i := 8) (d := some 61) (v := ?_) rfl rfl (by kernel_rfl) (by kernel_rfl) (by kernel_rfl) (fun _ _ _ h => h) (by rfl) ?_ (by assumption) ?_
            rotate_left
            · (intro w hSw; (try dsimp only at hSw); go_simp; (first | done | with_reducible rfl))
            try simp only [Act.put, List.setIfInBounds_toArray, List.set_cons_zero, List.set_cons_succ]
            refine held_yes (i := 9) (d := some 62) (v := ?_) rfl rfl (by kernel_rfl) (by kernel_rfl) (by kernel_rfl) (fun _ _ _ h => h) (by rfl) ?_ (by assumption) ?_
            rotate_left
            · (intro w hSw; (try dsimp only at hSw); go_simp; (first | done | with_reducible rfl))
            try simp only [Act.put, List.setIfInBounds_toArray, List.set_cons_zero, List.set_cons_succ]
            refine wpAnyH_ready (rs := [10]) (by kernel_rfl) (by simp) ?_
            refine AllReadyH.cons rfl (fun K hK => ?_) AllReadyH.nil
            go_simp
            refine hK.out _ _ ?_ (fun hHeld => ?_)
            · exact HSS.out
            clear hK K
            try simp only [Act.put, List.setIfInBounds_toArray, List.set_cons_zero, List.set_cons_succ]
            refine wpAnyH_done (by kernel_rfl) ?_ _
            go_wp2
            go_roundw
            case rel => exact ⟨k + 1, by go_num, by omega, HZ.out⟩
            case measure => simp [intOf]; omega
          · dsimp only at e1 e2
            subst e1
            by_cases hlt2 : qd < d
            · have e3 : V = true := by rw [e2]; exact decide_eq_true hlt2
              subst e3
              have HNV := Lib.hid HNV0.out.1
              clear HNV0 e2
              have b3 : wx.cell? ⟨w2.heap.size, 0, none⟩ = some (.slice (some ⟨gt, 0, none⟩) 8 ct) := hR5.2.1.cell 0
              obtain ⟨p0, p1, p2, p3, p4⟩ := cells5 hP5
              have hR6 := hR5.keep (grown_drew (grown_refl wx none))
              obtain ⟨gl, cl, x, c0, c1, c2f, _, hgl, hne, hnb, hput⟩ := hR6.open_ HD.out.2.1 hk48 hf8 hj6
              have hst := of_new (f := f) (j := j) HX.out.2.1 rfl rfl rfl HNV.out
              have hfin := hput (k : Int) hst
              have n3 : gl ≠ w2.heap.size := hnb hR6.2.1 (by decide)
              have n5 : gl ≠ w3.heap.size := hnb (hP5.drew) (by decide)
              have m3 : w2.heap.size ≠ gl := fun e => n3 e.symm
              have m5 : w3.heap.size ≠ gl := fun e => n5 e.symm
              have mg : gt ≠ gl := fun e => hne e.symm
              have HSS := Lib.hid (And.intro ((hR6.2.1.far (p := ⟨gl, j, none⟩) m3 (.int .i64 (k : Int))).cell 0) (And.intro ((hP5.drew.far (p := ⟨gl, j, none⟩) m5 (.int .i64 (k : Int))).cell 1) (And.intro ((hP5.drew.far (p := ⟨gl, j, none⟩) m5 (.int .i64 (k : Int))).cell 2) ((World.cell?_setCell_other wx.drew ⟨gl, j, none⟩ ⟨gt, f, none⟩ (.int .i64 (k : Int)) (fun e => by injection e with e; omega)).trans c0))))
              have HZ := Lib.hid hfin
              clear hR5 hP5 hR6 hst hfin hput hnb
              go_wp2
              refine wp_region_held_drew (S := (fun w' => w'.cell? ⟨w2.heap.size, 0, none⟩ = some (.slice (some ⟨gt, 0, none⟩) 8 ct) ∧ w'.cell? ⟨w3.heap.size, 1, none⟩ = some (.int .i64 (f : Int)) ∧ w'.cell? ⟨w3.heap.size, 2, none⟩ = some (.int .i64 (j : Int)) ∧ w'.cell? ⟨gt, f, none⟩ = some (.slice (some ⟨gl, 0, none⟩) 6 cl))) (by kernel_rfl) ?_ (fun hHeld => ?_)
              · exact ⟨b3, p1, p2, c0⟩
              refine held_yes (i := 0) (d := some 53) (v := ?_) rfl rfl (by kernel_rfl) (by kernel_rfl) (by kernel_rfl) (fun _ _ _ h => h) (by rfl) ?_ (by assumption) ?_
              rotate_left
              · (intro w hSw; (try dsimp only at hSw); go_simp; (first | done | with_reducible rfl))
              try simp only [Act.put, List.setIfInBounds_toArray, List.set_cons_zero, List.set_cons_succ]
              refine held_yes (i := 1) (d := some 54) (v := ?_) rfl rfl (by kernel_rfl) (by kernel_rfl) (by kernel_rfl) (fun _ _ _ h => h) (by rfl) ?_ (by assumption) ?_
              rotate_left
              · (intro w hSw; (try dsimp only at hSw); go_simp; (first | done | with_reducible rfl))
              try simp only [Act.put, List.setIfInBounds_toArray, List.set_cons_zero, List.set_cons_succ]
              refine held_yes (i := 2) (d := some 55) (v := ?_) rfl rfl (by kernel_rfl) (by kernel_rfl) (by kernel_rfl) (fun _ _ _ h => h) (by rfl) ?_ (by assumption) ?_
              rotate_left
              · (intro w hSw; (try dsimp only at hSw); go_simp; (first | done | with_reducible rfl))
              try simp only [Act.put, List.setIfInBounds_toArray, List.set_cons_zero, List.set_cons_succ]
              refine held_yes (i := 3) (d := some 56) (v := ?_) rfl rfl (by kernel_rfl) (by kernel_rfl) (by kernel_rfl) (fun _ _ _ h => h) (by rfl) ?_ (by assumption) ?_
              rotate_left
              · (intro w hSw; (try dsimp only at hSw); go_simp; (first | done | with_reducible rfl))
              try simp only [Act.put, List.setIfInBounds_toArray, List.set_cons_zero, List.set_cons_succ]
              refine held_yes (i := 4) (d := some 57) (v := ?_) rfl rfl (by kernel_rfl) (by kernel_rfl) (by kernel_rfl) (fun _ _ _ h => h) (by rfl) ?_ (by assumption) ?_
              rotate_left
              · (intro w hSw; (try dsimp only at hSw); go_simp; (first | done | with_reducible rfl))
              try simp only [Act.put, List.setIfInBounds_toArray, List.set_cons_zero, List.set_cons_succ]
              refine held_yes (i := 5) (d := some 58) (v := ?_) rfl rfl (by kernel_rfl) (by kernel_rfl) (by kernel_rfl) (fun _ _ _ h => h) (by rfl) ?_ (by assumption) ?_
              rotate_left
              · (intro w hSw; (try dsimp only at hSw); go_simp; (first | done | with_reducible rfl))
              try simp only [Act.put, List.setIfInBounds_toArray, List.set_cons_zero, List.set_cons_succ]
              refine held_yes (i := 6) (d := some 59) (v := ?_) rfl rfl (by kernel_rfl) (by kernel_rfl) (by kernel_rfl) (fun _ _ _ h => h) (by rfl) ?_ (by assumption) ?_
              rotate_left
              · (intro w hSw; (try dsimp only at hSw); go_simp; (first | done | with_reducible rfl))
              try simp only [Act.put, List.setIfInBounds_toArray, List.set_cons_zero, List.set_cons_succ]
              refine held_yes (i := 7) (d := some 60) (v := ?_) rfl rfl (by kernel_rfl) (by kernel_rfl) (by kernel_rfl) (fun _ _ _ h => h) (by rfl) ?_ (by assumption) ?_
              rotate_left
              · (intro w hSw; (try dsimp only at hSw); go_simp; (first | done | with_reducible rfl))
              try simp only [Act.put, List.setIfInBounds_toArray, List.set_cons_zero, List.set_cons_succ]
              refine held_yes (i := 8) (d := some 61) (v := ?_) rfl rfl (by kernel_rfl) (by kernel_rfl) (by kernel_rfl) (fun _ _ _ h => h) (by rfl) ?_ (by assumption) ?_
              rotate_left
              · (intro w hSw; (try dsimp only at hSw); go_simp; (first | done | with_reducible rfl))
              try simp only [Act.put, List.setIfInBounds_toArray, List.set_cons_zero, List.set_cons_succ]
              refine held_yes (i := 9) (d := some 62) (v := ?_) rfl rfl (by kernel_rfl) (by kernel_rfl) (by kernel_rfl) (fun _ _ _ h => h) (by rfl) ?_ (by assumption) ?_
              rotate_left
              · (intro w hSw; (try dsimp only at hSw); go_simp; (first | done | with_reducible rfl))
              try simp only [Act.put, List.setIfInBounds_toArray, List.set_cons_zero, List.set_cons_succ]
              refine wpAnyH_ready (rs := [10]) (by kernel_rfl) (by simp) ?_
              refine AllReadyH.cons rfl (fun K hK => ?_) AllReadyH.nil
              go_simp
              refine hK.out _ _ ?_ (fun hHeld => ?_)
              · exact HSS.out
              clear hK K
              try simp only [Act.put, List.setIfInBounds_toArray, List.set_cons_zero, List.set_cons_succ]
              refine wpAnyH_done (by kernel_rfl) ?_ _
              go_wp2
              go_roundw
              case rel => exact ⟨k + 1, by go_num, by omega, HZ.out⟩
              case measure => simp [intOf]; omega
            · have e3 : V = false := by rw [e2]; exact decide_eq_false hlt2
              have HZ := Lib.hid (hR5.next (of_less HX.out.2.1 (HNV0.out.1.trans e3)))
              clear HNV0 e2 e3 hR5 hP5
              go_wp2
              go_roundw
              case rel => exact ⟨k + 1, by go_num, by omega, HZ.out⟩
              case measure => simp [intOf]; omega
    · obtain rfl : k = 4 * n := by omega
      have z0 : wo.cell? ⟨w.heap.size, 0, none⟩ = some (.slice none 0 0) := hR.2.2.1.cell 0
      have z1 : wo.frozen? ⟨w.heap.size, 0, none⟩ = false := hR.2.2.1.frozen 0
      have b3 : wo.cell? ⟨w2.heap.size, 0, none⟩ = some (.slice (some ⟨gt, 0, none⟩) 8 ct) := hR.2.1.cell 0
      have e8 : decide (((4 * n : Nat) : Int) < 4 * (n : Int)) = false := decide_eq_false (by omega)
      obtain ⟨⟨cs, h1, h2, h3⟩, h4, h5, h6, h7⟩ := hR
      have HZ := Lib.hid (And.intro h1 (And.intro h2 (And.intro (h3.put h5 0 (.slice (some ⟨gt, 0, none⟩) 8 ct)) (grown_put h7 (p := ⟨w.heap.size, 0, none⟩) (Nat.le_refl _) (.slice (some ⟨gt, 0, none⟩) 8 ct)))))
      clear h1 h2 h3 h4 h5 h6 h7
      go_wp2
      exact bodyPost_ret (v := .agg #[.slice (some ⟨gt, 0, none⟩) 8 ct]) (by simp [results, Try.results21, go_sem, *]) rfl ⟨_, _, cs, rfl, HZ.out.1, HZ.out.2.1, HZ.out.2.2.1, HZ.out.2.2.2⟩
/-- What TableOf answers, by letters. -/
def TOfIs (bs : List Bk) (l : List (List Int)) (m : Nat) : Prop := tabOf bs = l ∧ l.length = m
theorem tof_is {n : Nat} {bs : List Bk} (hl : bs.length = n) : ∃ l m, TOfIs bs l m ∧ m ≤ 8 ∧ ∀ xs, xs ∈ l → xs.length = 6 := by
  refine ⟨tabOf bs, (tabOf bs).length, ⟨rfl, rfl⟩, ?_⟩
  cases hd : devB bs
  · rw [of_no hd]; simp
  · obtain ⟨⟨h1, h12⟩, _⟩ := dev_parts hd
    rw [of_yes hd]
    exact ⟨by rw [of_len hd (by omega)]; exact Nat.le_refl _, (of_inv hd _ (by omega)).tv.six⟩
theorem TOfIs.of {bs cs : List Bk} {l : List (List Int)} {m : Nat} (h : TOfIs bs l m) (e : cs.map Bk.is = bs.map Bk.is) : TOfIs cs l m := ⟨(of_is e).trans h.1, h.2⟩
theorem specTableOf_val {A : Option Addr} {n c m : Nat} {bs : List Bk} {l : List (List Int)} {w : World} (h : TOfIs bs l m) (hl : bs.length = n) (hr : DRow w w.heap.size A bs) (hn : n ≤ 1048576) (hp : ∀ b, b ∈ bs → b.ps.length ≤ 1048576) :
    Calls Try.prog 21 #[.slice A n c] w (TabMade l m w) := by
  obtain ⟨rfl, rfl⟩ := h
  cases hd : devB bs
  · rw [of_no hd]
    exact specTableOf_no A n c bs w hl hr hn hp hd
  · obtain ⟨⟨h1, h12⟩, _⟩ := dev_parts hd
    rw [of_yes hd, of_len hd (by omega), hl]
    exact specTableOf_yes A n c bs w hl hr hd
theorem tableOf_val {A : Option Addr} {n c m : Nat} {bs : List Bk} {l : List (List Int)} {w : World} (h : TOfIs bs l m) (hl : bs.length = n) (hr : DRow w w.heap.size A bs) (hn : n ≤ 1048576) (hp : ∀ b, b ∈ bs → b.ps.length ≤ 1048576) :
    Calls Try.prog 19 #[.slice A n c] w (TabMade l m w) := by
  obtain ⟨rfl, rfl⟩ := h
  cases hd : devB bs
  · rw [of_no hd]
    exact tableOf_no A n c bs w hl hr hn hp hd
  · obtain ⟨⟨h1, h12⟩, _⟩ := dev_parts hd
    rw [of_yes hd, of_len hd (by omega), hl]
    exact tableOf_yes A n c bs w hl hr hd
end Go.Proofs.Ytfiajbkmklcaiaa
