/- What the model draws for DrawProgram; Program told by one number. -/
import Derived.Test.YtbhbbfpafonaiaaDrawDev6
import Derived.Test.YtbhbbfpafonaiaaDevices13
namespace Go.Proofs.Ytbhbbfpafonaiaa
open Go.ChangeShapes Go.WideShapes Go.ChangeAt Go.RowKit

/-- A device, a number and a page are drawn. -/
def DevPgDrawn (w : World) (e : Ending) (w' : World) : Prop :=
  ∃ (A : Option Addr) (n c : Nat) (bs : List Bk) (a : Int) (f : Bool) (x1 x2 x3 x4 : Int), e = .returned (.tuple #[.slice A n c, .int .i64 a, .agg #[.bool f, .int .i64 x1, .int .i64 x2, .int .i64 x3, .int .i64 x4]]) ∧ bs.length = n ∧ n ≤ 13 ∧ (∀ q, q ∈ bs → q.ps.length ≤ 4) ∧ DRow w' w'.heap.size A bs ∧ Below w.heap.size w w'
theorem drawProgram_any (w : World) (A : Option Addr) (n c : Nat) (hn : n ≤ c) (hc : c ≤ 9223372036854775807) (h : Bytes w w.heap.size A n) :
    Calls Try.prog 13 #[.slice A n c] w (DevPgDrawn w) := by
  have h0 := h.alloc (.cells #[.bool false, .int .i64 0, .int .i64 0, .int .i64 0, .int .i64 0] 34)
  go_enter Try.func13, Try.ntmps13
  go_wp2_with fail
  refine (open_any _ A n c hn hc h0).mono ?_
  rintro e w1 ⟨rfl, h1, hb1⟩
  simp only [size_of_alloc] at h1 hb1
  have hr1 := (Blk.new w 34 #[.bool false, .int .i64 0, .int .i64 0, .int .i64 0, .int .i64 0]).below hb1 (by omega)
  have hg1 := h1.lt
  have hz1 := hb1.size
  simp only [size_of_alloc] at hz1
  go_wp2_with fail
  refine (device_any _ _ _ _ _ h1 (by omega) (by omega) (by omega)).mono ?_
  rintro e w2 ⟨A2, n2, c2, bs, a, b, h9, rfl, hl, h13, hnc, hcm, hs, hA, hrow, h2, hg2, hex, hP⟩
  have nA : ∀ ad, A2 = some ad → (some (w.heap.size + 1) : Option Nat) ≠ some ad.block := fun ad e e2 => by have := hA ad e; injection e2 with e2; omega
  have nP : ∀ (q : Bk) (ad : Addr), q ∈ bs → q.A = some ad → (some (w.heap.size + 1) : Option Nat) ≠ some ad.block := fun q ad hq e e2 => by have := hP q ad hq e; injection e2 with e2; omega
  have kA : ∀ ad, A2 = some ad → ad.block ≠ w.heap.size := fun ad e => by have := hA ad e; omega
  have kP : ∀ (q : Bk) (ad : Addr), q ∈ bs → q.A = some ad → ad.block ≠ w.heap.size := fun q ad hq e => by have := hP q ad hq e; omega
  have hz2 := hg2.size
  have HN := Lib.hid (And.intro hl (And.intro hs (And.intro nA (And.intro nP (And.intro kA kP)))))
  have HX := Lib.hid (And.intro ((hrow.alloc (.cells #[.int .i64 a, .int .i64 b, .int .i64 h9] 43)).here) (And.intro (h2.alloc (.cells #[.int .i64 a, .int .i64 b, .int .i64 h9] 43)) (And.intro (((((Below.refl w.heap.size w).alloc (Nat.le_refl _) (.cells #[.bool false, .int .i64 0, .int .i64 0, .int .i64 0, .int .i64 0] 34)).trans (hb1.mono (by omega))).trans (Below.of_grown hg2 (by omega) (by omega))).alloc (by omega) (.cells #[.int .i64 a, .int .i64 b, .int .i64 h9] 43)) ((hr1.grown hg2 (by intro e; injection e with e; omega)).alloc (.cells #[.int .i64 a, .int .i64 b, .int .i64 h9] 43)))))
  clear h h0 h1 h2 hb1 hr1 hg2 hrow hl hs hnc hcm hex hA hP nA nP kA kP
  go_wp2_with fail
  refine (pick_lt _ _ _ _ _ HX.out.2.1 (by omega) (by omega)).mono ?_
  rintro e w3 ⟨x3, rfl, u3, v3, h3, hg3⟩
  have hz3 := hg3.size
  (try simp only [size_of_alloc] at hz3)
  replace HX := Lib.hid (And.intro ((HX.out.1.grownNe hg3 HN.out.2.2.1 HN.out.2.2.2.1).here) (And.intro h3 (And.intro (HX.out.2.2.1.trans (Below.of_grown hg3 (by omega) (by (try simp only [size_of_alloc]); omega))) (HX.out.2.2.2.grown hg3 (by intro e; injection e with e; omega)))))
  clear h3 hg3
  go_wp2_with fail
  refine (pick_lt _ _ _ _ _ HX.out.2.1 (by omega) (by omega)).mono ?_
  rintro e w4 ⟨x4, rfl, u4, v4, h3, hg3⟩
  have hz4 := hg3.size
  (try simp only [size_of_alloc] at hz4)
  replace HX := Lib.hid (And.intro ((HX.out.1.grownNe hg3 HN.out.2.2.1 HN.out.2.2.2.1).here) (And.intro h3 (And.intro (HX.out.2.2.1.trans (Below.of_grown hg3 (by omega) (by (try simp only [size_of_alloc]); omega))) (HX.out.2.2.2.grown hg3 (by intro e; injection e with e; omega)))))
  clear h3 hg3
  go_wp2_with fail
  refine (page_any _ _ _ _ _ HX.out.2.1 (by omega) (by omega) (by omega)).mono ?_
  rintro e w5 ⟨f, y1, y2, y3, y4, rfl, h3, hg3⟩
  have hz5 := hg3.size
  (try simp only [size_of_alloc] at hz5)
  replace HX := Lib.hid (And.intro ((HX.out.1.grownNe hg3 HN.out.2.2.1 HN.out.2.2.2.1).here) (And.intro h3 (And.intro (HX.out.2.2.1.trans (Below.of_grown hg3 (by omega) (by (try simp only [size_of_alloc]); omega))) (HX.out.2.2.2.grown hg3 (by intro e; injection e with e; omega)))))
  clear h3 hg3
  obtain ⟨r0, r1, r2, r3, r4⟩ := cells5 HX.out.2.2.2
  have q0 := HX.out.2.2.2.frozen 0
  have q1 := HX.out.2.2.2.frozen 1
  have q2 := HX.out.2.2.2.frozen 2
  have q3 := HX.out.2.2.2.frozen 3
  have q4 := HX.out.2.2.2.frozen 4
  go_wp2
  exact bodyPost_ret (v := .tuple #[.slice A2 n2 c2, .int .i64 (x3 - x4 / 13), .agg #[.bool f, .int .i64 y1, .int .i64 y2, .int .i64 y3, .int .i64 y4]]) (by simp [results, Try.results13, go_sem, *]) rfl
    ⟨_, _, _, _, _, _, _, _, _, _, rfl, HN.out.1, by omega, HN.out.2.1, (((((HX.out.1.far HN.out.2.2.2.2.1 HN.out.2.2.2.2.2 _).far HN.out.2.2.2.2.1 HN.out.2.2.2.2.2 _).far HN.out.2.2.2.2.1 HN.out.2.2.2.2.2 _).far HN.out.2.2.2.2.1 HN.out.2.2.2.2.2 _).far HN.out.2.2.2.2.1 HN.out.2.2.2.2.2 _).here,
      ((((HX.out.2.2.1.setCell (Nat.le_refl _) _).setCell (Nat.le_refl _) _).setCell (Nat.le_refl _) _).setCell (Nat.le_refl _) _).setCell (Nat.le_refl _) _⟩
/-- Program of a valid device, block and page, its number a letter. -/
theorem program_v {A : Option Addr} {n c k : Nat} {bs : List Bk} {m : Int} {Ab : Option Addr} {cb : Nat} {ps ps1 : List Pg} {x1 x2 x3 x4 r v : Int} {w : World} (hv : progV k r = v) (hl : bs.length = n) (hr : DRow w w.heap.size A bs) (hd : devB bs = true) (hk : bs[k]? = some ⟨m, Ab, cb, ps⟩)
    (hpg : pageB true x1 x2 x3 x4 = true) (hw : WriteIs m ps true x1 x2 x3 x4 m 4 ps1 r) (hr4 : -1 ≤ r ∧ r < 4) :
    Calls Try.prog 14 #[.slice A n c, .int .i64 k, .agg #[.bool true, .int .i64 x1, .int .i64 x2, .int .i64 x3, .int .i64 x4]] w (DevMade2 ((bs.map Bk.is).set k (m, ps1)) n (.int .i64 v) w) := by
  subst hv
  exact program_at A n c k bs m Ab cb ps ps1 x1 x2 x3 x4 r w hl hr hd hk hpg hw hr4
theorem specProgram_v {A : Option Addr} {n c k : Nat} {bs : List Bk} {m : Int} {Ab : Option Addr} {cb : Nat} {ps ps1 : List Pg} {x1 x2 x3 x4 r v : Int} {w : World} (hv : progV k r = v) (hl : bs.length = n) (hr : DRow w w.heap.size A bs) (hd : devB bs = true) (hk : bs[k]? = some ⟨m, Ab, cb, ps⟩)
    (hpg : pageB true x1 x2 x3 x4 = true) (hw : WriteIs m ps true x1 x2 x3 x4 m 4 ps1 r) (hr4 : -1 ≤ r ∧ r < 4) :
    Calls Try.prog 15 #[.slice A n c, .int .i64 k, .agg #[.bool true, .int .i64 x1, .int .i64 x2, .int .i64 x3, .int .i64 x4]] w (DevMade2 ((bs.map Bk.is).set k (m, ps1)) n (.int .i64 v) w) := by
  subst hv
  exact specProgram_at A n c k bs m Ab cb ps ps1 x1 x2 x3 x4 r w hl hr hd hk hpg hw hr4
/-- Program of any other arguments. -/
def progNo (n : Nat) (bs : List Bk) (a : Int) (f : Bool) (x1 x2 x3 x4 : Int) : Prop := devB bs = false ∨ (devB bs = true ∧ hasB n a = false) ∨ (devB bs = true ∧ hasB n a = true ∧ (f && pageB f x1 x2 x3 x4) = false)
theorem program_other {A : Option Addr} {n c : Nat} {bs : List Bk} {a : Int} {f : Bool} {x1 x2 x3 x4 : Int} {w : World} (h : progNo n bs a f x1 x2 x3 x4) (hl : bs.length = n) (hr : DRow w w.heap.size A bs) (hn : n ≤ 1048576) (hp : ∀ b, b ∈ bs → b.ps.length ≤ 1048576) :
    Calls Try.prog 14 #[.slice A n c, .int .i64 a, .agg #[.bool f, .int .i64 x1, .int .i64 x2, .int .i64 x3, .int .i64 x4]] w (DevMade2 [] 0 (.int .i64 (-1)) w) := by
  rcases h with h1 | ⟨h1, h2⟩ | ⟨h1, h2, h3⟩
  · exact program_no A n c bs a f x1 x2 x3 x4 w hl hr hn hp h1
  · exact program_out A n c bs a f x1 x2 x3 x4 w hl hr hn hp h1 h2
  · exact program_page A n c bs a f x1 x2 x3 x4 w hl hr hn hp h1 h2 h3
theorem specProgram_other {A : Option Addr} {n c : Nat} {bs : List Bk} {a : Int} {f : Bool} {x1 x2 x3 x4 : Int} {w : World} (h : progNo n bs a f x1 x2 x3 x4) (hl : bs.length = n) (hr : DRow w w.heap.size A bs) (hn : n ≤ 1048576) (hp : ∀ b, b ∈ bs → b.ps.length ≤ 1048576) :
    Calls Try.prog 15 #[.slice A n c, .int .i64 a, .agg #[.bool f, .int .i64 x1, .int .i64 x2, .int .i64 x3, .int .i64 x4]] w (DevMade2 [] 0 (.int .i64 (-1)) w) := by
  rcases h with h1 | ⟨h1, h2⟩ | ⟨h1, h2, h3⟩
  · exact specProgram_no A n c bs a f x1 x2 x3 x4 w hl hr hn hp h1
  · exact specProgram_out A n c bs a f x1 x2 x3 x4 w hl hr hn hp h1 h2
  · exact specProgram_page A n c bs a f x1 x2 x3 x4 w hl hr hn hp h1 h2 h3
theorem prog_cases (n : Nat) (bs : List Bk) (a : Int) (f : Bool) (x1 x2 x3 x4 : Int) : progNo n bs a f x1 x2 x3 x4 ∨ ∃ k : Nat, a = (k : Int) ∧ k < n ∧ devB bs = true ∧ f = true ∧ pageB true x1 x2 x3 x4 = true := by
  cases hd : devB bs
  · exact .inl (.inl hd)
  · cases ha : hasB n a
    · exact .inl (.inr (.inl ⟨hd, ha⟩))
    · cases hg : (f && pageB f x1 x2 x3 x4)
      · exact .inl (.inr (.inr ⟨hd, ha, hg⟩))
      · simp only [Bool.and_eq_true] at hg
        obtain ⟨rfl, hpg⟩ := hg
        obtain ⟨h0, h1⟩ := hasB_iff ha
        exact .inr ⟨a.toNat, by omega, by omega, rfl, rfl, hpg⟩
theorem set_id {l : List (Int × List Pg)} {k : Nat} {q : Int × List Pg} (h : l[k]? = some q) : l.set k q = l := by
  obtain ⟨hlt, rfl⟩ := List.getElem?_eq_some_iff.1 h
  exact List.set_getElem_self hlt
theorem small_eq {bs cs : List Bk} (h : cs.map Bk.is = bs.map Bk.is) (hp : ∀ b, b ∈ bs → b.ps.length ≤ 1048576) : ∀ b, b ∈ cs → b.ps.length ≤ 1048576 := fun b hb => by
  have h1 : b.is ∈ cs.map Bk.is := List.mem_map_of_mem hb
  rw [h] at h1
  obtain ⟨b', hb', e⟩ := List.mem_map.1 h1
  have h2 := hp b' hb'
  have h3 : b'.ps = b.ps := congrArg Prod.snd e
  rw [← h3]; exact h2
theorem small_nil {cs : List Bk} (h : cs.length = 0) : ∀ b, b ∈ cs → b.ps.length ≤ 1048576 := fun b hb => by
  rw [List.eq_nil_of_length_eq_zero h] at hb
  simp at hb
/-- What the law of Program wants of a device with a page written. -/
theorem prog_facts {bs cs : List Bk} {k j : Nat} {m : Int} {Ab : Option Addr} {cb : Nat} {ps : List Pg} {p : Pg} (hd : devB bs = true) (hk : bs[k]? = some ⟨m, Ab, cb, ps⟩) (hn : nextV m ps = (j : Int)) (h4 : j < 4) (hp : pgB p = true) (hf : p.f = true) (hs : cs.map Bk.is = (bs.map Bk.is).set k (m, ps.set j p)) :
    devB cs = true ∧ pageAt cs (k * 4 + j) = some p ∧ pageAt bs (k * 4 + j) = some pz ∧ (∀ a, a ≠ k * 4 + j → pageAt cs a = pageAt bs a) ∧ freeV cs + 1 = freeV bs := by
  have hv := (dev_parts hd).2 _ (List.mem_of_getElem? hk)
  have hl4 : ps.length = 4 := (block_parts hv).2.1
  have hki : (bs.map Bk.is)[k]? = some (m, ps) := by rw [List.getElem?_map, hk]; rfl
  have hz := next_zero hv hn h4
  refine ⟨(devB_list hs).trans (devL_set ((devB_list rfl).symm.trans hd) k (write_valid hv hn h4 hp)), ?_, ?_, fun a ha => ?_, ?_⟩
  · rw [page_list hs]; exact pageL_at hki h4 hl4
  · rw [page_list rfl, pageL_old hki h4]; exact hz
  · rw [page_list hs, page_list rfl]; exact pageL_ne hki ha
  · rw [free_list hs, free_list rfl]
    refine freeL_set hki (cnt_set hz rfl hf) ?_
    have := pcnt_le (ps.set j p)
    rw [List.length_set] at this
    omega
end Go.Proofs.Ytbhbbfpafonaiaa
