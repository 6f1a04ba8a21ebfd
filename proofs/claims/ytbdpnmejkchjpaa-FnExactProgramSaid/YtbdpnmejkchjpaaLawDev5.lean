/- What the exact law of Program carries along. -/
import Derived.Test.YtbdpnmejkchjpaaLawDev4
import Derived.Test.YtbdpnmejkchjpaaDevices13
namespace Go.Proofs.Ytbdpnmejkchjpaa
open Go.ChangeShapes Go.WideShapes Go.ChangeAt Go.RowKit

theorem Blk.out {wr w' : World} {V lo hi : Nat} {t : TypeId} {cs : Array Value} (h : Blk wr V t cs) (k : Out lo hi wr w') (hv : V < lo ∨ hi ≤ V) : Blk w' V t cs := by
  have hlt := h.lt
  unfold Blk at h ⊢
  rw [k.block V hlt hv]
  exact h
theorem write_of {m : Int} {ps : List Pg} {x1 x2 x3 x4 : Int} (hv : blockB m ps = true) (hp : pageB true x1 x2 x3 x4 = true) :
    ∃ ps1 r, WriteIs m ps true x1 x2 x3 x4 m 4 ps1 r ∧ -1 ≤ r ∧ r < 4 := by
  rcases next_cases m ps with hn | ⟨k, hk, h4, _⟩
  · exact ⟨ps, -1, .inr (.inl ⟨hv, rfl, hp, hn, rfl, rfl, rfl, rfl⟩), by omega, by omega⟩
  · exact ⟨_, k, .inr (.inr ⟨k, hv, rfl, hp, hk, h4, rfl, rfl, rfl, rfl⟩), by omega, by omega⟩
/-- What Program answers. -/
def ProgramIs (n : Nat) (bs : List Bk) (a : Int) (f : Bool) (x1 x2 x3 x4 : Int) (n1 : Nat) (l1 : List (Int × List Pg)) (r : Int) : Prop :=
  ((devB bs = false ∨ (devB bs = true ∧ hasB n a = false) ∨ (devB bs = true ∧ hasB n a = true ∧ (f && pageB f x1 x2 x3 x4) = false)) ∧ n1 = 0 ∧ l1 = [] ∧ r = -1) ∨
  ∃ (k : Nat) (m : Int) (ps ps1 : List Pg) (r0 : Int), a = (k : Int) ∧ devB bs = true ∧ (bs.map Bk.is)[k]? = some (m, ps) ∧ f = true ∧ pageB true x1 x2 x3 x4 = true ∧ WriteIs m ps true x1 x2 x3 x4 m 4 ps1 r0 ∧ (-1 ≤ r0 ∧ r0 < 4) ∧ n1 = n ∧ l1 = (bs.map Bk.is).set k (m, ps1) ∧ r = progV k r0
theorem program_is {n : Nat} {bs : List Bk} (hl : bs.length = n) (a : Int) (f : Bool) (x1 x2 x3 x4 : Int) : ∃ n1 l1 r, ProgramIs n bs a f x1 x2 x3 x4 n1 l1 r ∧ n1 ≤ 12 ∧ totL l1 ≤ 1048576 := by
  cases hd : devB bs
  · exact ⟨0, [], -1, .inl ⟨.inl hd, rfl, rfl, rfl⟩, by omega, by simp [totL]⟩
  · cases ha : hasB n a
    · exact ⟨0, [], -1, .inl ⟨.inr (.inl ⟨hd, ha⟩), rfl, rfl, rfl⟩, by omega, by simp [totL]⟩
    · cases hg : (f && pageB f x1 x2 x3 x4)
      · exact ⟨0, [], -1, .inl ⟨.inr (.inr ⟨hd, ha, hg⟩), rfl, rfl, rfl⟩, by omega, by simp [totL]⟩
      · simp only [Bool.and_eq_true] at hg
        obtain ⟨rfl, hpg⟩ := hg
        obtain ⟨h0, h1⟩ := hasB_iff ha
        obtain ⟨k, rfl⟩ : ∃ k : Nat, a = (k : Int) := ⟨a.toNat, by omega⟩
        obtain ⟨⟨_, h12⟩, hall⟩ := dev_parts hd
        obtain ⟨⟨m, A, c, ps⟩, hb⟩ : ∃ b, bs[k]? = some b := ⟨_, List.getElem?_eq_getElem (by omega)⟩
        have hv := hall _ (List.mem_of_getElem? hb)
        obtain ⟨ps1, r0, hw, hr⟩ := write_of hv hpg
        have hp1 := write_len hw (block_parts hv).2.1
        have h3 := totL_four (set_four (k := k) (p := (m, ps1)) (is_four hd) (by show ps1.length ≤ 4; omega))
        rw [List.length_set, List.length_map] at h3
        exact ⟨n, _, _, .inr ⟨k, m, ps, ps1, r0, rfl, hd, by rw [List.getElem?_map, hb]; rfl, rfl, hpg, hw, hr, rfl, rfl, rfl⟩, by omega, Nat.le_trans h3 (by omega)⟩
theorem ProgramIs.of {n n1 : Nat} {bs cs : List Bk} {a : Int} {f : Bool} {x1 x2 x3 x4 r : Int} {l1 : List (Int × List Pg)} (h : ProgramIs n bs a f x1 x2 x3 x4 n1 l1 r) (hc : cs.map Bk.is = bs.map Bk.is) : ProgramIs n cs a f x1 x2 x3 x4 n1 l1 r := by
  unfold ProgramIs
  rw [devB_is hc, hc]
  exact h
theorem specProgram_val {A : Option Addr} {n c n1 : Nat} {cs : List Bk} {a : Int} {f : Bool} {x1 x2 x3 x4 r : Int} {l1 : List (Int × List Pg)} {w : World} (h : ProgramIs n cs a f x1 x2 x3 x4 n1 l1 r) (hl : cs.length = n) (hr : DRow w w.heap.size A cs) (hn : n ≤ 1048576) (hp : ∀ b, b ∈ cs → b.ps.length ≤ 1048576) :
    Calls Try.prog 26 #[.slice A n c, .int .i64 a, .agg #[.bool f, .int .i64 x1, .int .i64 x2, .int .i64 x3, .int .i64 x4]] w (DevMade2 l1 n1 (.int .i64 r) w) := by
  rcases h with ⟨h1 | ⟨h1, h2⟩ | ⟨h1, h2, h3⟩, rfl, rfl, rfl⟩ | ⟨k, m, ps, ps1, r0, rfl, h1, h2, rfl, h3, h4, h5, rfl, rfl, rfl⟩
  · exact specProgram_no A n c cs a f x1 x2 x3 x4 w hl hr hn hp h1
  · exact specProgram_out A n c cs a f x1 x2 x3 x4 w hl hr hn hp h1 h2
  · exact specProgram_page A n c cs a f x1 x2 x3 x4 w hl hr hn hp h1 h2 h3
  · obtain ⟨Ab, cb, hb⟩ := is_some h2
    exact specProgram_at A n1 c k cs m Ab cb ps ps1 x1 x2 x3 x4 r0 w hl hr h1 hb h3 h4 h5
theorem program_val {A : Option Addr} {n c n1 : Nat} {cs : List Bk} {a : Int} {f : Bool} {x1 x2 x3 x4 r : Int} {l1 : List (Int × List Pg)} {w : World} (h : ProgramIs n cs a f x1 x2 x3 x4 n1 l1 r) (hl : cs.length = n) (hr : DRow w w.heap.size A cs) (hn : n ≤ 1048576) (hp : ∀ b, b ∈ cs → b.ps.length ≤ 1048576) :
    Calls Try.prog 28 #[.slice A n c, .int .i64 a, .agg #[.bool f, .int .i64 x1, .int .i64 x2, .int .i64 x3, .int .i64 x4]] w (DevMade2 l1 n1 (.int .i64 r) w) := by
  rcases h with ⟨h1 | ⟨h1, h2⟩ | ⟨h1, h2, h3⟩, rfl, rfl, rfl⟩ | ⟨k, m, ps, ps1, r0, rfl, h1, h2, rfl, h3, h4, h5, rfl, rfl, rfl⟩
  · exact program_no A n c cs a f x1 x2 x3 x4 w hl hr hn hp h1
  · exact program_out A n c cs a f x1 x2 x3 x4 w hl hr hn hp h1 h2
  · exact program_page A n c cs a f x1 x2 x3 x4 w hl hr hn hp h1 h2 h3
  · obtain ⟨Ab, cb, hb⟩ := is_some h2
    exact program_at A n1 c k cs m Ab cb ps ps1 x1 x2 x3 x4 r0 w hl hr h1 hb h3 h4 h5
end Go.Proofs.Ytbdpnmejkchjpaa
