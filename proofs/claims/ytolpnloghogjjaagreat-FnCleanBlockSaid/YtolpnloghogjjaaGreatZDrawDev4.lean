/- What the model draws for chapter 5: DrawFreePages; a drawn device while a law walks.
   What the model draws for chapter 5, further: DrawDeviceValid, DrawReadPage, DrawProgram; sameDevice; a row put behind a block.
   What the laws of chapter 5 ask besides: a device behind an empty block, its first block, pages and free pages of a device with a block written.
   What the model draws for DrawProgram; Program told by one number. -/
import Derived.Test.YtolpnloghogjjaaGreatZDrawDev3
import Derived.Test.YtolpnloghogjjaaGreatZSame
import Derived.Test.YtolpnloghogjjaaGreatZDevices6
namespace Go.Proofs.YtolpnloghogjjaaGreat
open Go.ChangeShapes Go.WideShapes Go.ChangeAt Go.RowKit

/-- A drawn device while the law walks on. -/
def LD (w : World) (A : Option Addr) (bs : List Bk) (wr : World) : Prop := DRow wr wr.heap.size A bs ∧ Below w.heap.size w wr
theorem LD.keep {w wr w' : World} {A : Option Addr} {bs : List Bk} (h : LD w A bs wr) (k : wr.grownBy w' none) : LD w A bs w' := ⟨(h.1.kept k).here, Below.and_kept h.2 k⟩
theorem LD.alloc {w wr : World} {A : Option Addr} {bs : List Bk} (h : LD w A bs wr) (o : Obj) : LD w A bs (wr.alloc o) := h.keep (grown_alloc (grown_refl _ _) o)
end Go.Proofs.YtolpnloghogjjaaGreat
namespace Go.Proofs.YtolpnloghogjjaaGreat
open Go.ChangeShapes Go.WideShapes Go.ChangeAt Go.RowKit

theorem DRow.grownNe {w w' : World} {B : Nat} {A : Option Addr} {bs : List Bk} {row : Option Nat} (h : DRow w B A bs) (hg : w.grownBy w' row) (hA : ∀ ad, A = some ad → row ≠ some ad.block)
    (hP : ∀ (q : Bk) (ad : Addr), q ∈ bs → q.A = some ad → row ≠ some ad.block) : DRow w' B A bs := by
  refine ⟨fun hn => ?_, fun q hq => (h.2 q hq).grownNe hg (fun ad e => hP q ad hq e)⟩
  obtain ⟨g, off, rfl, hb, hz, hc⟩ := h.1 hn
  have hne := hA _ rfl
  exact ⟨g, off, rfl, hb, Nat.lt_of_lt_of_le hz hg.size, fun i q hq => (hc i q hq).keep fun r hr => World.cell?_of_block (hg.block r.block (by omega) (fun e => hne (e.symm.trans (by rw [hr]))))⟩
theorem sameDevice_same (A A' : Option Addr) (c c' n : Nat) (bs cs : List Bk) (w : World) (hl : bs.length = n) (hs : bs.map Bk.is = cs.map Bk.is) (hr : DRow w w.heap.size A bs) (hr' : DRow w w.heap.size A' cs) (hn : n ≤ 1048576) (hp : ∀ b, b ∈ bs → b.ps.length ≤ 1048576) :
    Calls Tryz.prog 8 #[.slice A n c, .slice A' n c'] w (KeptV (.bool true) w) := by
  subst hl
  have HR := Lib.hid (And.intro hr (And.intro hr' (And.intro hs hp)))
  clear hr hr' hs hp
  go_enter Tryz.func8, Tryz.ntmps8
  go_wp2
  go_loopw [5] (fun i wr => ∃ k : Nat, k ≤ bs.length ∧ i = .int .i64 k ∧ w.grownBy wr none) (fun i _ => bs.length - (intOf i).toNat)
  case atStart => exact ⟨0, Nat.zero_le _, rfl, grown_refl _ _⟩
  case round =>
    obtain ⟨k, hk, rfl, hg⟩ := hrel
    by_cases hlt : k < bs.length
    · obtain ⟨g, off, m, Ab, cb, ps, rfl, _, hgw, hb, c0, c1, hrow⟩ := (HR.out.1.kept hg).at_ hlt
      obtain ⟨g', off', m', Ab', cb', ps', rfl, _, hgw', hb', d0, d1, hrow'⟩ := (HR.out.2.1.kept hg).at_ (show k < cs.length by have := is_length HR.out.2.2.1; omega)
      obtain ⟨A2, c2, hb2⟩ := is_at HR.out.2.2.1 hb
      rw [hb'] at hb2
      injection hb2 with hb2
      injection hb2 with e1 e2 e3 e4
      subst e1; subst e2; subst e3; subst e4
      have HP := Lib.hid (And.intro hrow (And.intro hrow' (And.intro (HR.out.2.2.2 _ (List.mem_of_getElem? hb)) hg)))
      have HC := Lib.hid (And.intro (show D2 wr g (off + k * 2) ⟨m', Ab, cb, ps'⟩ from ⟨c0, c1⟩) (show D2 wr g' (off' + k * 2) ⟨m', Ab', cb', ps'⟩ from ⟨d0, d1⟩))
      have ha : decide (k < bs.length) = true := decide_eq_true hlt
      have ha2 : (k : Int) < bs.length := by omega
      clear hb hb' hrow hrow' hg
      go_wp2_with fail
      refine wp_region_held_drew (S := (fun w' => w'.cell? ⟨g, off + k * 2, none⟩ = some (.int .i64 m') ∧ w'.cell? ⟨g, off + k * 2 + 1, none⟩ = some (.slice Ab ps'.length cb) ∧ w'.cell? ⟨g', off' + k * 2, none⟩ = some (.int .i64 m') ∧ w'.cell? ⟨g', off' + k * 2 + 1, none⟩ = some (.slice Ab' ps'.length cb'))) (by kernel_rfl) ?_ (fun hHeld => ?_)
      · exact ⟨c0, c1, d0, d1⟩
      replace HP := Lib.hid (And.intro (HP.out.1.kept (grown_drew (grown_refl _ none))).here (And.intro (HP.out.2.1.kept (grown_drew (grown_refl _ none))).here (And.intro HP.out.2.2.1 (grown_trans HP.out.2.2.2 (grown_drew (grown_refl _ none))))))
      replace HC := Lib.hid (And.intro (HC.out.1.kept (grown_drew (grown_refl _ none))) (HC.out.2.kept (grown_drew (grown_refl _ none))))
      refine heldY 0 17 ?_
      refine heldY 1 18 ?_
      refine heldY 2 19 ?_
      refine heldY 3 20 ?_
      refine heldY 4 21 ?_
      refine heldY 5 22 ?_
      refine heldY 6 23 ?_
      refine heldY 7 24 ?_
      refine wpAnyH_ready (rs := [8]) (by kernel_rfl) (by simp) ?_
      refine AllReadyH.cons rfl (fun K hK => ?_) AllReadyH.nil
      go_simp
      go_at_call 45
      refine (sameBlock_same _ _ _ _ _ _ _ _ rfl HP.out.1.here HP.out.2.1.here HP.out.2.2.1).mono ?_
      rintro e w1 ⟨rfl, hk1⟩
      replace HP := Lib.hid (And.intro (HP.out.1.kept hk1).here (And.intro (HP.out.2.1.kept hk1).here (And.intro HP.out.2.2.1 (grown_trans HP.out.2.2.2 hk1))))
      replace HC := Lib.hid (And.intro (HC.out.1.kept hk1) (HC.out.2.kept hk1))
      clear hk1 c0 c1 d0 d1
      obtain ⟨c0, c1⟩ := HC.out.1
      obtain ⟨d0, d1⟩ := HC.out.2
      refine hK.out _ _ ?_ (fun hHeld => ?_)
      · exact ⟨c0, c1, d0, d1⟩
      clear hK K
      try simp only [Act.put, List.setIfInBounds_toArray, List.set_cons_zero, List.set_cons_succ]
      refine heldY 9 26 ?_
      refine wpAnyH_done (by kernel_rfl) ?_ _
      go_wp2
      go_roundw
      case rel => exact ⟨k + 1, by omega, by go_num, HP.out.2.2.2⟩
      case measure => simp [intOf]; omega
    · have HG := Lib.hid hg
      clear hg
      go_wp2
      go_ret
      exact ⟨rfl, HG.out⟩
theorem sameDevice_len (A A' : Option Addr) (n n' c c' : Nat) (w : World) (hn : n ≠ n') :
    Calls Tryz.prog 8 #[.slice A n c, .slice A' n' c'] w (KeptV (.bool false) w) := by
  have t1 : ((n : Int) != (n' : Int)) = true := by simp; omega
  go_enter Tryz.func8, Tryz.ntmps8
  go_wp2
  go_ret
  exact ⟨rfl, grown_refl _ _⟩
end Go.Proofs.YtolpnloghogjjaaGreat
namespace Go.Proofs.YtolpnloghogjjaaGreat
open Go.ChangeShapes Go.WideShapes Go.ChangeAt Go.RowKit

theorem DRow.take {w : World} {B : Nat} {A : Option Addr} {bs : List Bk} (h : DRow w B A bs) (k : Nat) : DRow w B A (bs.take k) := by
  refine ⟨fun hn => ?_, fun q hq => h.2 q (List.mem_of_mem_take hq)⟩
  rw [List.length_take] at hn
  obtain ⟨g, off, e, hb, hz, hc⟩ := h.1 (by omega)
  refine ⟨g, off, e, hb, hz, fun i q hq => hc i q ?_⟩
  rw [List.getElem?_take] at hq
  split at hq
  · exact hq
  · cases hq
/-- Pages and free pages, told by what the blocks are. -/
def pageL (l : List (Int × List Pg)) (a : Nat) : Option Pg := (l[a / 4]?).bind fun q => q.2[a % 4]?
theorem page_list {bs : List Bk} {l : List (Int × List Pg)} (h : bs.map Bk.is = l) (a : Nat) : pageAt bs a = pageL l a := by
  subst h
  unfold pageAt pageL
  rw [List.getElem?_map]
  cases bs[a / 4]? <;> rfl
def freeL (l : List (Int × List Pg)) : Nat := (l.map fun q => 4 - cntF q.2).sum
theorem free_list {bs : List Bk} {l : List (Int × List Pg)} (h : bs.map Bk.is = l) : freeV bs = freeL l := by
  subst h
  simp [freeV, freeL, Bk.is, List.map_map, Function.comp_def]
theorem pageL_at {l : List (Int × List Pg)} {k j : Nat} {m : Int} {ps : List Pg} {p : Pg} (hk : l[k]? = some (m, ps)) (hj : j < 4) (hp : ps.length = 4) : pageL (l.set k (m, ps.set j p)) (k * 4 + j) = some p := by
  have e1 : (k * 4 + j) / 4 = k := by omega
  have e2 : (k * 4 + j) % 4 = j := by omega
  have hlt : k < l.length := (List.getElem?_eq_some_iff.1 hk).1
  unfold pageL
  rw [e1, e2, List.getElem?_set_self hlt]
  show (ps.set j p)[j]? = some p
  rw [List.getElem?_set_self (by omega)]
theorem pageL_old {l : List (Int × List Pg)} {k j : Nat} {m : Int} {ps : List Pg} (hk : l[k]? = some (m, ps)) (hj : j < 4) : pageL l (k * 4 + j) = ps[j]? := by
  have e1 : (k * 4 + j) / 4 = k := by omega
  have e2 : (k * 4 + j) % 4 = j := by omega
  unfold pageL
  rw [e1, e2, hk]
  rfl
theorem pageL_ne {l : List (Int × List Pg)} {k j a : Nat} {m : Int} {ps : List Pg} {p : Pg} (hk : l[k]? = some (m, ps)) (ha : a ≠ k * 4 + j) : pageL (l.set k (m, ps.set j p)) a = pageL l a := by
  unfold pageL
  by_cases h : a / 4 = k
  · have hlt : k < l.length := (List.getElem?_eq_some_iff.1 hk).1
    rw [h, List.getElem?_set_self hlt, hk]
    show (ps.set j p)[a % 4]? = ps[a % 4]?
    rw [List.getElem?_set_ne (by omega)]
  · rw [List.getElem?_set_ne (fun e => h e.symm)]
theorem cnt_set {ps : List Pg} {j : Nat} {q p : Pg} (h : ps[j]? = some q) (hq : q.f = false) (hp : p.f = true) : cntF (ps.set j p) = cntF ps + 1 := by
  induction ps generalizing j with
  | nil => simp at h
  | cons x r ih =>
    cases j with
    | zero => simp at h; subst h; simp [cntF, hq, hp]
    | succ j =>
      have := ih (j := j) (by simpa using h)
      simp only [cntF, List.set_cons_succ, List.countP_cons] at this ⊢
      omega
/-- The page that is written next is not written, and is the zero value. -/
theorem next_zero {m : Int} {ps : List Pg} {j : Nat} (hv : blockB m ps = true) (hn : nextV m ps = (j : Int)) (h4 : j < 4) : ps[j]? = some pz := by
  obtain ⟨_, hl, ho⟩ := block_parts hv
  obtain ⟨a, b, c, d, rfl⟩ := four hl
  unfold nextV at hn
  rw [if_pos hv] at hn
  rw [ord4] at ho
  have hz : ∀ q : Pg, pgB q = true → q.f = false → q = pz := fun q hq hf => by
    obtain ⟨f, x1, x2, x3, x4⟩ := q
    simp only at hf
    subst hf
    simp [pgB, pageB] at hq
    simp [pz]
    omega
  simp only [Bool.and_eq_true] at ho
  match j, h4 with
  | 0, _ =>
    have hf : a.f = false := by cases ha : a.f <;> cases hb : b.f <;> cases hc : c.f <;> cases hd : d.f <;> simp [cntF, ha, hb, hc, hd] at hn ho ⊢
    rw [hz a ho.1.1.1 hf]; rfl
  | 1, _ =>
    have hf : b.f = false := by cases ha : a.f <;> cases hb : b.f <;> cases hc : c.f <;> cases hd : d.f <;> simp [cntF, ha, hb, hc, hd] at hn ho ⊢
    rw [hz b ho.1.1.2.1 hf]; rfl
  | 2, _ =>
    have hf : c.f = false := by cases ha : a.f <;> cases hb : b.f <;> cases hc : c.f <;> cases hd : d.f <;> simp [cntF, ha, hb, hc, hd] at hn ho ⊢
    rw [hz c ho.1.2.1 hf]; rfl
  | 3, _ =>
    have hf : d.f = false := by cases ha : a.f <;> cases hb : b.f <;> cases hc : c.f <;> cases hd : d.f <;> simp [cntF, ha, hb, hc, hd] at hn ho ⊢
    rw [hz d ho.2.1 hf]; rfl
theorem freeL_set {l : List (Int × List Pg)} {k : Nat} {m m1 : Int} {ps ps1 : List Pg} (hk : l[k]? = some (m, ps)) (hc : cntF ps1 = cntF ps + 1) (h4 : cntF ps1 ≤ 4) : freeL (l.set k (m1, ps1)) + 1 = freeL l := by
  induction l generalizing k with
  | nil => simp at hk
  | cons q r ih =>
    cases k with
    | zero =>
      simp at hk
      subst hk
      simp only [freeL, List.set_cons_zero, List.map_cons, List.sum_cons]
      omega
    | succ k =>
      have h := ih (k := k) (by simpa using hk)
      simp only [freeL, List.set_cons_succ, List.map_cons, List.sum_cons] at h ⊢
      omega
end Go.Proofs.YtolpnloghogjjaaGreat
namespace Go.Proofs.YtolpnloghogjjaaGreat
open Go.ChangeShapes Go.WideShapes Go.ChangeAt Go.RowKit

/-- What the law of Program wants of a device with a page written. -/
theorem prog_facts {bs cs : List Bk} {k j : Nat} {m : Int} {Ab : Option Addr} {cb : Nat} {ps : List Pg} {p : Pg} (hd : devB bs = true) (hk : bs[k]? = some ⟨m, Ab, cb, ps⟩) (hn : nextV m ps = (j : Int)) (h4 : j < 4) (hp : pgB p = true) (hf : p.f = true) (hs : cs.map Bk.is = (bs.map Bk.is).set k (m, ps.set j p)) :
    devB cs = true ∧ pageAt cs (k * 4 + j) = some p ∧ pageAt bs (k * 4 + j) = some pz ∧ (∀ a, a ≠ k * 4 + j → pageAt cs a = pageAt bs a) ∧ freeV cs + 1 = freeV bs := by
  have hv := (dev_parts hd).2 _ (List.mem_of_getElem? hk)
  have hl4 : ps.length = 4 := (block_parts hv).2.1
  have hki : (bs.map Bk.is)[k]? = some (m, ps) := by rw [List.getElem?_map, hk]; rfl
  have hz := next_zero hv hn h4
  refine ⟨(devB_list hs).trans (devL_set ((devB_list rfl).symm.trans hd) k (write_valid hv hn h4 hp)), ?_, ?_, fun a ha => ?_, ?_⟩
  · rw [page_list hs]; exact pageL_at hki h4 hl4
  · rw [page_list rfl, pageL_old hki h4]; exact hz
  · rw [page_list hs, page_list rfl]; exact pageL_ne hki ha
  · rw [free_list hs, free_list rfl]
    refine freeL_set hki (cnt_set hz rfl hf) ?_
    have := pcnt_le (ps.set j p)
    rw [List.length_set] at this
    omega
end Go.Proofs.YtolpnloghogjjaaGreat
