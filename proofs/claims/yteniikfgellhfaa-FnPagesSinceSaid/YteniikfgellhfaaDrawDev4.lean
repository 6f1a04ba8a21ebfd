/- What the model draws for chapter 5: DrawFreePages; a drawn device while a law walks.
   What the model draws for chapter 5, further: DrawDeviceValid, DrawReadPage, DrawProgram; sameDevice; a row put behind a block.
   What the laws of chapter 5 ask besides: a device behind an empty block, its first block, pages and free pages of a device with a block written.
   What the model draws for DrawProgram; Program told by one number. -/
import Derived.Test.YteniikfgellhfaaDrawDev3
import Derived.Test.YteniikfgellhfaaSame
import Derived.Test.YteniikfgellhfaaDevices6
namespace Go.Proofs.Yteniikfgellhfaa
open Go.ChangeShapes Go.WideShapes Go.ChangeAt Go.RowKit

/-- A device is drawn out of a code: nothing that was there is written. -/
def DevDrawn (w : World) (e : Ending) (w' : World) : Prop :=
  ∃ (A : Option Addr) (n c : Nat) (bs : List Bk), e = .returned (.slice A n c) ∧ bs.length = n ∧ n ≤ 13 ∧ (∀ q, q ∈ bs → q.ps.length ≤ 4) ∧ DRow w' w'.heap.size A bs ∧ Below w.heap.size w w'
theorem free_val {A : Option Addr} {n c V : Nat} {cs : List Bk} {w : World} (hl : cs.length = n) (hr : DRow w w.heap.size A cs) (hd : devB cs = true) (hV : freeV cs = V) :
    Calls Try.prog 18 #[.slice A n c] w (KeptV (.int .i64 V) w) := by
  subst hV
  exact freePages_yes A n c cs w hl hr hd
/-- A drawn device while the law walks on. -/
def LD (w : World) (A : Option Addr) (bs : List Bk) (wr : World) : Prop := DRow wr wr.heap.size A bs ∧ Below w.heap.size w wr
theorem LD.keep {w wr w' : World} {A : Option Addr} {bs : List Bk} (h : LD w A bs wr) (k : wr.grownBy w' none) : LD w A bs w' := ⟨(h.1.kept k).here, Below.and_kept h.2 k⟩
theorem LD.alloc {w wr : World} {A : Option Addr} {bs : List Bk} (h : LD w A bs wr) (o : Obj) : LD w A bs (wr.alloc o) := h.keep (grown_alloc (grown_refl _ _) o)
end Go.Proofs.Yteniikfgellhfaa
namespace Go.Proofs.Yteniikfgellhfaa
open Go.ChangeShapes Go.WideShapes Go.ChangeAt Go.RowKit

theorem DRow.grownNe {w w' : World} {B : Nat} {A : Option Addr} {bs : List Bk} {row : Option Nat} (h : DRow w B A bs) (hg : w.grownBy w' row) (hA : ∀ ad, A = some ad → row ≠ some ad.block)
    (hP : ∀ (q : Bk) (ad : Addr), q ∈ bs → q.A = some ad → row ≠ some ad.block) : DRow w' B A bs := by
  refine ⟨fun hn => ?_, fun q hq => (h.2 q hq).grownNe hg (fun ad e => hP q ad hq e)⟩
  obtain ⟨g, off, rfl, hb, hz, hc⟩ := h.1 hn
  have hne := hA _ rfl
  exact ⟨g, off, rfl, hb, Nat.lt_of_lt_of_le hz hg.size, fun i q hq => (hc i q hq).keep fun r hr => World.cell?_of_block (hg.block r.block (by omega) (fun e => hne (e.symm.trans (by rw [hr]))))⟩
theorem DRow.cell_at {w : World} {B : Nat} {ad : Addr} {bs : List Bk} (h : DRow w B (some ad) bs) : ∀ j u, (bv bs)[j]? = some u → w.cell? (ad.add j) = some u := fun j u hu => by
  have hj : j < bs.length * 2 := by have := (List.getElem?_eq_some_iff.1 hu).1; rw [bv_length] at this; exact this
  obtain ⟨b, hb⟩ : ∃ b, bs[j / 2]? = some b := ⟨_, List.getElem?_eq_getElem (by omega)⟩
  obtain ⟨g, off, e, _, _, hc⟩ := h.1 (by omega)
  injection e with e
  subst e
  obtain ⟨c0, c1⟩ := hc _ _ hb
  obtain ⟨h0, h1⟩ := bv_at _ _ _ hb
  rw [Go.WideShapes.add_plain]
  rcases Nat.mod_two_eq_zero_or_one j with hm | hm
  · have e1 : j / 2 * 2 = j := by omega
    rw [e1] at h0 c0
    rw [h0] at hu
    injection hu with hu
    rw [← hu]; exact c0
  · have e1 : j / 2 * 2 + 1 = j := by omega
    rw [e1] at h1
    rw [show off + j / 2 * 2 + 1 = off + j by omega] at c1
    rw [h1] at hu
    injection hu with hu
    rw [← hu]; exact c1
/-- A device, told with all that a slice expression wants. -/
def DevDrawn2 (w : World) (e : Ending) (w' : World) : Prop :=
  ∃ (A : Option Addr) (n c : Nat) (bs : List Bk), e = .returned (.slice A n c) ∧ bs.length = n ∧ n ≤ 13 ∧ n ≤ c ∧ c ≤ maxLen ∧ (∀ q, q ∈ bs → q.ps.length ≤ 4) ∧ DRow w' w'.heap.size A bs ∧ Below w.heap.size w w' ∧ ∃ ad, A = some ad
/-- A device and a number are drawn. -/
def DevNumDrawn (w : World) (e : Ending) (w' : World) : Prop :=
  ∃ (A : Option Addr) (n c : Nat) (bs : List Bk) (a : Int), e = .returned (.tuple #[.slice A n c, .int .i64 a]) ∧ bs.length = n ∧ n ≤ 13 ∧ (∀ q, q ∈ bs → q.ps.length ≤ 4) ∧ DRow w' w'.heap.size A bs ∧ Below w.heap.size w w'
end Go.Proofs.Yteniikfgellhfaa
namespace Go.Proofs.Yteniikfgellhfaa
open Go.ChangeShapes Go.WideShapes Go.ChangeAt Go.RowKit

/-- append([]Block{{}}, d...). -/
theorem behind_zero {w wr : World} {ad : Addr} {n c : Nat} {bs : List Bk} (hl : bs.length = n) (hn : n ≤ 1000) (H : LD w (some ad) bs wr) :
    ∃ v' w', (∀ ty, (Builtin.append_ #[23, 23] ty #[.slice (some ⟨wr.heap.size, 0, none⟩) 1 1, .slice (some ad) n c]).run Try.prog (wr.alloc (.cells #[.int .i64 0, .slice none 0 0] 87)) = .ok v' w') ∧
      ∃ A' c', v' = .slice A' (1 + n) c' ∧ DRow w' w'.heap.size A' (⟨0, none, 0, []⟩ :: bs) ∧ LD w (some ad) bs w' := by
  obtain ⟨i, hi, hzz, hsz, hby⟩ := info_parts block_info
  have hown : (wr.alloc (.cells #[.int .i64 0, .slice none 0 0] 87)).ownsRow wr.heap.size 87 2 (.slice (some ⟨wr.heap.size, 0, none⟩) 1 1) 1 [.int .i64 0, .slice none 0 0] :=
    World.ownsRow_lit (e := 87) (size := 2) wr #[.int .i64 0, .slice none 0 0] 1 (Nat.le_refl _) (by simp [maxLen]) rfl
  have HA := H.alloc (.cells #[.int .i64 0, .slice none 0 0] 87)
  obtain ⟨v', w', hrun, h2, h3, _, h5⟩ := run_append_own_at (P := Try.prog) (wr.alloc (.cells #[.int .i64 0, .slice none 0 0] 87)) wr.heap.size 23 0 87 i _ 2 32 Try.underlying23 hi hzz hsz hby rfl (by omega) _ 1 _ hown ad n c (bv bs)
    (by rw [bv_length, hl]) HA.1.cell_at (bv_one bs) (by simp only [maxLen]; omega) (by omega) (by simp only [size_alloc1]; omega)
  have hb : (Value.slice (some ⟨wr.heap.size, 0, none⟩) 1 1).ownBlock = some wr.heap.size := rfl
  rw [hb] at h3
  have hz3 := h3.size
  simp only [size_alloc1] at hz3
  have hD : DRow w' wr.heap.size (some ad) bs := (H.1.alloc _).grown h3 (fun g e => by injection e with e; omega)
  have hBl : Below w.heap.size w w' := (H.2.alloc H.2.size _).trans (Below.of_grown h3 H.2.size (by have := H.2.size; simp only [size_alloc1]; omega))
  refine ⟨v', w', fun ty => hrun, ?_⟩
  have hlen : ((⟨0, none, 0, []⟩ : Bk) :: bs).length = 1 + n := by simp; omega
  have ho : w'.ownsRow wr.heap.size 87 2 v' ((⟨0, none, 0, []⟩ : Bk) :: bs).length (bv (⟨0, none, 0, []⟩ :: bs)) := by
    rw [hlen]
    exact h2
  rcases h2.2 with ⟨_, e0⟩ | ⟨g', cap, cur, e, _⟩
  · omega
  · subst e
    refine ⟨_, _, rfl, drow_of ho hlen fun q hq => ?_, hD.here, hBl⟩
    rcases List.mem_cons.1 hq with rfl | hq
    · exact Row.nil
    · exact (hD.2 q hq).here
theorem DRow.take {w : World} {B : Nat} {A : Option Addr} {bs : List Bk} (h : DRow w B A bs) (k : Nat) : DRow w B A (bs.take k) := by
  refine ⟨fun hn => ?_, fun q hq => h.2 q (List.mem_of_mem_take hq)⟩
  rw [List.length_take] at hn
  obtain ⟨g, off, e, hb, hz, hc⟩ := h.1 (by omega)
  refine ⟨g, off, e, hb, hz, fun i q hq => hc i q ?_⟩
  rw [List.getElem?_take] at hq
  split at hq
  · exact hq
  · cases hq
/-- The first block of a valid device is a valid device. -/
theorem dev_one {bs : List Bk} (h : devB bs = true) : devB (bs.take 1) = true := by
  obtain ⟨⟨h1, _⟩, hall⟩ := dev_parts h
  rw [dev_yes (fun j b hb => hall b (List.mem_of_mem_take (List.mem_of_getElem? hb)))]
  rw [List.length_take, Nat.min_eq_left h1]
  rfl
theorem hasP_no {n : Nat} {a : Int} (h : hasP n a = false) : inB a 0 (4 * n - 1) = false := by
  cases h2 : inB a 0 (4 * n - 1)
  · rfl
  · obtain ⟨h3, h4⟩ := inB_iff.1 h2
    simp [hasP] at h
    omega
/-- Pages and free pages, told by what the blocks are. -/
def pageL (l : List (Int × List Pg)) (a : Nat) : Option Pg := (l[a / 4]?).bind fun q => q.2[a % 4]?
theorem page_list {bs : List Bk} {l : List (Int × List Pg)} (h : bs.map Bk.is = l) (a : Nat) : pageAt bs a = pageL l a := by
  subst h
  unfold pageAt pageL
  rw [List.getElem?_map]
  cases bs[a / 4]? <;> rfl
def freeL (l : List (Int × List Pg)) : Nat := (l.map fun q => 4 - cntF q.2).sum
theorem free_list {bs : List Bk} {l : List (Int × List Pg)} (h : bs.map Bk.is = l) : freeV bs = freeL l := by
  subst h
  simp [freeV, freeL, Bk.is, List.map_map, Function.comp_def]
theorem pageL_at {l : List (Int × List Pg)} {k j : Nat} {m : Int} {ps : List Pg} {p : Pg} (hk : l[k]? = some (m, ps)) (hj : j < 4) (hp : ps.length = 4) : pageL (l.set k (m, ps.set j p)) (k * 4 + j) = some p := by
  have e1 : (k * 4 + j) / 4 = k := by omega
  have e2 : (k * 4 + j) % 4 = j := by omega
  have hlt : k < l.length := (List.getElem?_eq_some_iff.1 hk).1
  unfold pageL
  rw [e1, e2, List.getElem?_set_self hlt]
  show (ps.set j p)[j]? = some p
  rw [List.getElem?_set_self (by omega)]
theorem pageL_old {l : List (Int × List Pg)} {k j : Nat} {m : Int} {ps : List Pg} (hk : l[k]? = some (m, ps)) (hj : j < 4) : pageL l (k * 4 + j) = ps[j]? := by
  have e1 : (k * 4 + j) / 4 = k := by omega
  have e2 : (k * 4 + j) % 4 = j := by omega
  unfold pageL
  rw [e1, e2, hk]
  rfl
theorem pageL_ne {l : List (Int × List Pg)} {k j a : Nat} {m : Int} {ps : List Pg} {p : Pg} (hk : l[k]? = some (m, ps)) (ha : a ≠ k * 4 + j) : pageL (l.set k (m, ps.set j p)) a = pageL l a := by
  unfold pageL
  by_cases h : a / 4 = k
  · have hlt : k < l.length := (List.getElem?_eq_some_iff.1 hk).1
    rw [h, List.getElem?_set_self hlt, hk]
    show (ps.set j p)[a % 4]? = ps[a % 4]?
    rw [List.getElem?_set_ne (by omega)]
  · rw [List.getElem?_set_ne (fun e => h e.symm)]
theorem cnt_set {ps : List Pg} {j : Nat} {q p : Pg} (h : ps[j]? = some q) (hq : q.f = false) (hp : p.f = true) : cntF (ps.set j p) = cntF ps + 1 := by
  induction ps generalizing j with
  | nil => simp at h
  | cons x r ih =>
    cases j with
    | zero => simp at h; subst h; simp [cntF, hq, hp]
    | succ j =>
      have := ih (j := j) (by simpa using h)
      simp only [cntF, List.set_cons_succ, List.countP_cons] at this ⊢
      omega
/-- The page that is written next is not written, and is the zero value. -/
theorem next_zero {m : Int} {ps : List Pg} {j : Nat} (hv : blockB m ps = true) (hn : nextV m ps = (j : Int)) (h4 : j < 4) : ps[j]? = some pz := by
  obtain ⟨_, hl, ho⟩ := block_parts hv
  obtain ⟨a, b, c, d, rfl⟩ := four hl
  unfold nextV at hn
  rw [if_pos hv] at hn
  rw [ord4] at ho
  have hz : ∀ q : Pg, pgB q = true → q.f = false → q = pz := fun q hq hf => by
    obtain ⟨f, x1, x2, x3, x4⟩ := q
    simp only at hf
    subst hf
    simp [pgB, pageB] at hq
    simp [pz]
    omega
  simp only [Bool.and_eq_true] at ho
  match j, h4 with
  | 0, _ =>
    have hf : a.f = false := by cases ha : a.f <;> cases hb : b.f <;> cases hc : c.f <;> cases hd : d.f <;> simp [cntF, ha, hb, hc, hd] at hn ho ⊢
    rw [hz a ho.1.1.1 hf]; rfl
  | 1, _ =>
    have hf : b.f = false := by cases ha : a.f <;> cases hb : b.f <;> cases hc : c.f <;> cases hd : d.f <;> simp [cntF, ha, hb, hc, hd] at hn ho ⊢
    rw [hz b ho.1.1.2.1 hf]; rfl
  | 2, _ =>
    have hf : c.f = false := by cases ha : a.f <;> cases hb : b.f <;> cases hc : c.f <;> cases hd : d.f <;> simp [cntF, ha, hb, hc, hd] at hn ho ⊢
    rw [hz c ho.1.2.1 hf]; rfl
  | 3, _ =>
    have hf : d.f = false := by cases ha : a.f <;> cases hb : b.f <;> cases hc : c.f <;> cases hd : d.f <;> simp [cntF, ha, hb, hc, hd] at hn ho ⊢
    rw [hz d ho.2.1 hf]; rfl
theorem freeL_set {l : List (Int × List Pg)} {k : Nat} {m m1 : Int} {ps ps1 : List Pg} (hk : l[k]? = some (m, ps)) (hc : cntF ps1 = cntF ps + 1) (h4 : cntF ps1 ≤ 4) : freeL (l.set k (m1, ps1)) + 1 = freeL l := by
  induction l generalizing k with
  | nil => simp at hk
  | cons q r ih =>
    cases k with
    | zero =>
      simp at hk
      subst hk
      simp only [freeL, List.set_cons_zero, List.map_cons, List.sum_cons]
      omega
    | succ k =>
      have h := ih (k := k) (by simpa using hk)
      simp only [freeL, List.set_cons_succ, List.map_cons, List.sum_cons] at h ⊢
      omega
end Go.Proofs.Yteniikfgellhfaa
namespace Go.Proofs.Yteniikfgellhfaa
open Go.ChangeShapes Go.WideShapes Go.ChangeAt Go.RowKit

/-- A device, a number and a page are drawn. -/
def DevPgDrawn (w : World) (e : Ending) (w' : World) : Prop :=
  ∃ (A : Option Addr) (n c : Nat) (bs : List Bk) (a : Int) (f : Bool) (x1 x2 x3 x4 : Int), e = .returned (.tuple #[.slice A n c, .int .i64 a, .agg #[.bool f, .int .i64 x1, .int .i64 x2, .int .i64 x3, .int .i64 x4]]) ∧ bs.length = n ∧ n ≤ 13 ∧ (∀ q, q ∈ bs → q.ps.length ≤ 4) ∧ DRow w' w'.heap.size A bs ∧ Below w.heap.size w w'
theorem specProgram_v {A : Option Addr} {n c k : Nat} {bs : List Bk} {m : Int} {Ab : Option Addr} {cb : Nat} {ps ps1 : List Pg} {x1 x2 x3 x4 r v : Int} {w : World} (hv : progV k r = v) (hl : bs.length = n) (hr : DRow w w.heap.size A bs) (hd : devB bs = true) (hk : bs[k]? = some ⟨m, Ab, cb, ps⟩)
    (hpg : pageB true x1 x2 x3 x4 = true) (hw : WriteIs m ps true x1 x2 x3 x4 m 4 ps1 r) (hr4 : -1 ≤ r ∧ r < 4) :
    Calls Try.prog 118 #[.slice A n c, .int .i64 k, .agg #[.bool true, .int .i64 x1, .int .i64 x2, .int .i64 x3, .int .i64 x4]] w (DevMade2 ((bs.map Bk.is).set k (m, ps1)) n (.int .i64 v) w) := by
  subst hv
  exact specProgram_at A n c k bs m Ab cb ps ps1 x1 x2 x3 x4 r w hl hr hd hk hpg hw hr4
/-- Program of any other arguments. -/
def progNo (n : Nat) (bs : List Bk) (a : Int) (f : Bool) (x1 x2 x3 x4 : Int) : Prop := devB bs = false ∨ (devB bs = true ∧ hasB n a = false) ∨ (devB bs = true ∧ hasB n a = true ∧ (f && pageB f x1 x2 x3 x4) = false)
theorem specProgram_other {A : Option Addr} {n c : Nat} {bs : List Bk} {a : Int} {f : Bool} {x1 x2 x3 x4 : Int} {w : World} (h : progNo n bs a f x1 x2 x3 x4) (hl : bs.length = n) (hr : DRow w w.heap.size A bs) (hn : n ≤ 1048576) (hp : ∀ b, b ∈ bs → b.ps.length ≤ 1048576) :
    Calls Try.prog 118 #[.slice A n c, .int .i64 a, .agg #[.bool f, .int .i64 x1, .int .i64 x2, .int .i64 x3, .int .i64 x4]] w (DevMade2 [] 0 (.int .i64 (-1)) w) := by
  rcases h with h1 | ⟨h1, h2⟩ | ⟨h1, h2, h3⟩
  · exact specProgram_no A n c bs a f x1 x2 x3 x4 w hl hr hn hp h1
  · exact specProgram_out A n c bs a f x1 x2 x3 x4 w hl hr hn hp h1 h2
  · exact specProgram_page A n c bs a f x1 x2 x3 x4 w hl hr hn hp h1 h2 h3
theorem prog_cases (n : Nat) (bs : List Bk) (a : Int) (f : Bool) (x1 x2 x3 x4 : Int) : progNo n bs a f x1 x2 x3 x4 ∨ ∃ k : Nat, a = (k : Int) ∧ k < n ∧ devB bs = true ∧ f = true ∧ pageB true x1 x2 x3 x4 = true := by
  cases hd : devB bs
  · exact .inl (.inl hd)
  · cases ha : hasB n a
    · exact .inl (.inr (.inl ⟨hd, ha⟩))
    · cases hg : (f && pageB f x1 x2 x3 x4)
      · exact .inl (.inr (.inr ⟨hd, ha, hg⟩))
      · simp only [Bool.and_eq_true] at hg
        obtain ⟨rfl, hpg⟩ := hg
        obtain ⟨h0, h1⟩ := hasB_iff ha
        exact .inr ⟨a.toNat, by omega, by omega, rfl, rfl, hpg⟩
theorem set_id {l : List (Int × List Pg)} {k : Nat} {q : Int × List Pg} (h : l[k]? = some q) : l.set k q = l := by
  obtain ⟨hlt, rfl⟩ := List.getElem?_eq_some_iff.1 h
  exact List.set_getElem_self hlt
theorem small_eq {bs cs : List Bk} (h : cs.map Bk.is = bs.map Bk.is) (hp : ∀ b, b ∈ bs → b.ps.length ≤ 1048576) : ∀ b, b ∈ cs → b.ps.length ≤ 1048576 := fun b hb => by
  have h1 : b.is ∈ cs.map Bk.is := List.mem_map_of_mem hb
  rw [h] at h1
  obtain ⟨b', hb', e⟩ := List.mem_map.1 h1
  have h2 := hp b' hb'
  have h3 : b'.ps = b.ps := congrArg Prod.snd e
  rw [← h3]; exact h2
theorem small_nil {cs : List Bk} (h : cs.length = 0) : ∀ b, b ∈ cs → b.ps.length ≤ 1048576 := fun b hb => by
  rw [List.eq_nil_of_length_eq_zero h] at hb
  simp at hb
/-- What the law of Program wants of a device with a page written. -/
theorem prog_facts {bs cs : List Bk} {k j : Nat} {m : Int} {Ab : Option Addr} {cb : Nat} {ps : List Pg} {p : Pg} (hd : devB bs = true) (hk : bs[k]? = some ⟨m, Ab, cb, ps⟩) (hn : nextV m ps = (j : Int)) (h4 : j < 4) (hp : pgB p = true) (hf : p.f = true) (hs : cs.map Bk.is = (bs.map Bk.is).set k (m, ps.set j p)) :
    devB cs = true ∧ pageAt cs (k * 4 + j) = some p ∧ pageAt bs (k * 4 + j) = some pz ∧ (∀ a, a ≠ k * 4 + j → pageAt cs a = pageAt bs a) ∧ freeV cs + 1 = freeV bs := by
  have hv := (dev_parts hd).2 _ (List.mem_of_getElem? hk)
  have hl4 : ps.length = 4 := (block_parts hv).2.1
  have hki : (bs.map Bk.is)[k]? = some (m, ps) := by rw [List.getElem?_map, hk]; rfl
  have hz := next_zero hv hn h4
  refine ⟨(devB_list hs).trans (devL_set ((devB_list rfl).symm.trans hd) k (write_valid hv hn h4 hp)), ?_, ?_, fun a ha => ?_, ?_⟩
  · rw [page_list hs]; exact pageL_at hki h4 hl4
  · rw [page_list rfl, pageL_old hki h4]; exact hz
  · rw [page_list hs, page_list rfl]; exact pageL_ne hki ha
  · rw [free_list hs, free_list rfl]
    refine freeL_set hki (cnt_set hz rfl hf) ?_
    have := pcnt_le (ps.set j p)
    rw [List.length_set] at this
    omega
end Go.Proofs.Yteniikfgellhfaa
