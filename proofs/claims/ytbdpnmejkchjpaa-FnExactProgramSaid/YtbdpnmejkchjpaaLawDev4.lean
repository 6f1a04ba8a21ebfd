/- What the exact law of EraseAt carries along. -/
import Derived.Test.YtbdpnmejkchjpaaLawDev3
import Derived.Test.YtbdpnmejkchjpaaDevices10
namespace Go.Proofs.Ytbdpnmejkchjpaa
open Go.ChangeShapes Go.WideShapes Go.ChangeAt Go.RowKit

theorem totL_four {l : List (Int × List Pg)} (h : ∀ q, q ∈ l → q.2.length ≤ 4) : totL l ≤ 4 * l.length := by
  induction l with
  | nil => simp [totL]
  | cons q r ih =>
    have h1 := h q (by simp)
    have h2 := ih fun q hq => h q (by simp [hq])
    simp only [totL, List.map_cons, List.sum_cons, List.length_cons] at h2 ⊢
    omega
theorem is_four {bs : List Bk} (hd : devB bs = true) : ∀ q, q ∈ bs.map Bk.is → q.2.length ≤ 4 := fun q hq => by
  obtain ⟨b, hb, rfl⟩ := List.mem_map.1 hq
  have := (block_parts ((dev_parts hd).2 b hb)).2.1
  show b.ps.length ≤ 4
  omega
theorem set_four {l : List (Int × List Pg)} {k : Nat} {p : Int × List Pg} (h : ∀ q, q ∈ l → q.2.length ≤ 4) (hp : p.2.length ≤ 4) : ∀ q, q ∈ l.set k p → q.2.length ≤ 4 := fun q hq => by
  rcases List.mem_or_eq_of_mem_set hq with hq | rfl
  · exact h q hq
  · exact hp
theorem is_some {bs : List Bk} {k : Nat} {m : Int} {ps : List Pg} (h : (bs.map Bk.is)[k]? = some (m, ps)) : ∃ A c, bs[k]? = some ⟨m, A, c, ps⟩ := by
  rw [List.getElem?_map] at h
  cases hb : bs[k]? with
  | none => rw [hb] at h; simp at h
  | some b =>
    obtain ⟨m', A, c, ps'⟩ := b
    rw [hb] at h
    simp [Bk.is] at h
    obtain ⟨rfl, rfl⟩ := h
    exact ⟨A, c, rfl⟩
/-- What EraseAt answers. -/
def EraseAtIs (n : Nat) (bs : List Bk) (a : Int) (n1 : Nat) (l1 : List (Int × List Pg)) (r : Bool) : Prop :=
  (devB bs = false ∧ n1 = 0 ∧ l1 = [] ∧ r = false) ∨ (devB bs = true ∧ hasB n a = false ∧ n1 = 0 ∧ l1 = [] ∧ r = false) ∨
  ∃ (k : Nat) (m m1 : Int) (ps ps1 : List Pg), a = (k : Int) ∧ devB bs = true ∧ (bs.map Bk.is)[k]? = some (m, ps) ∧ eraseIs m ps = (m1, ps1) ∧ r = !decide (m = 100) ∧ n1 = n ∧ l1 = (bs.map Bk.is).set k (m1, ps1)
theorem eraseAt_is {n : Nat} {bs : List Bk} (hl : bs.length = n) (a : Int) : ∃ n1 l1 r, EraseAtIs n bs a n1 l1 r ∧ n1 ≤ 12 ∧ totL l1 ≤ 1048576 := by
  cases hd : devB bs
  · exact ⟨0, [], false, .inl ⟨hd, rfl, rfl, rfl⟩, by omega, by simp [totL]⟩
  · cases ha : hasB n a
    · exact ⟨0, [], false, .inr (.inl ⟨hd, ha, rfl, rfl, rfl⟩), by omega, by simp [totL]⟩
    · simp [hasB] at ha
      obtain ⟨k, rfl⟩ : ∃ k : Nat, a = (k : Int) := ⟨a.toNat, by omega⟩
      obtain ⟨⟨_, h12⟩, hall⟩ := dev_parts hd
      obtain ⟨⟨m, A, c, ps⟩, hb⟩ : ∃ b, bs[k]? = some b := ⟨_, List.getElem?_eq_getElem (by omega)⟩
      have hp4 : ps.length = 4 := (block_parts (hall _ (List.mem_of_getElem? hb))).2.1
      have h1 : (eraseIs m ps).2.length ≤ 4 := by
        unfold eraseIs
        split
        · show ps.length ≤ 4; omega
        · simp
      have h3 := totL_four (set_four (k := k) (is_four hd) h1)
      rw [List.length_set, List.length_map] at h3
      exact ⟨n, _, _, .inr (.inr ⟨k, m, (eraseIs m ps).1, ps, (eraseIs m ps).2, rfl, hd, by rw [List.getElem?_map, hb]; rfl, rfl, rfl, rfl, rfl⟩), by omega, Nat.le_trans h3 (by omega)⟩
theorem EraseAtIs.of {n n1 : Nat} {bs cs : List Bk} {a : Int} {l1 : List (Int × List Pg)} {r : Bool} (h : EraseAtIs n bs a n1 l1 r) (hc : cs.map Bk.is = bs.map Bk.is) : EraseAtIs n cs a n1 l1 r := by
  unfold EraseAtIs
  rw [devB_is hc, hc]
  exact h
theorem specEraseAt_val {A : Option Addr} {n c n1 : Nat} {cs : List Bk} {a : Int} {l1 : List (Int × List Pg)} {r : Bool} {w : World} (h : EraseAtIs n cs a n1 l1 r) (hl : cs.length = n) (hr : DRow w w.heap.size A cs) (hn : n ≤ 1048576) (hp : ∀ b, b ∈ cs → b.ps.length ≤ 1048576) :
    Calls Try.prog 29 #[.slice A n c, .int .i64 a] w (DevMade2 l1 n1 (.bool r) w) := by
  rcases h with ⟨h1, rfl, rfl, rfl⟩ | ⟨h1, h2, rfl, rfl, rfl⟩ | ⟨k, m, m1, ps, ps1, rfl, h1, h2, h3, h4, rfl, rfl⟩
  · exact specEraseAt_no A n c cs a w hl hr hn hp h1
  · exact specEraseAt_out A n c cs a w hl hr hn hp h1 h2
  · obtain ⟨Ab, cb, hb⟩ := is_some h2
    exact specEraseAt_at A n1 c k cs m m1 Ab cb ps ps1 r w hl hr h1 hb h3 h4
theorem eraseAt_val {A : Option Addr} {n c n1 : Nat} {cs : List Bk} {a : Int} {l1 : List (Int × List Pg)} {r : Bool} {w : World} (h : EraseAtIs n cs a n1 l1 r) (hl : cs.length = n) (hr : DRow w w.heap.size A cs) (hn : n ≤ 1048576) (hp : ∀ b, b ∈ cs → b.ps.length ≤ 1048576) :
    Calls Try.prog 30 #[.slice A n c, .int .i64 a] w (DevMade2 l1 n1 (.bool r) w) := by
  rcases h with ⟨h1, rfl, rfl, rfl⟩ | ⟨h1, h2, rfl, rfl, rfl⟩ | ⟨k, m, m1, ps, ps1, rfl, h1, h2, h3, h4, rfl, rfl⟩
  · exact eraseAt_no A n c cs a w hl hr hn hp h1
  · exact eraseAt_out A n c cs a w hl hr hn hp h1 h2
  · obtain ⟨Ab, cb, hb⟩ := is_some h2
    exact eraseAt_at A n1 c k cs m m1 Ab cb ps ps1 r w hl hr h1 hb h3 h4
end Go.Proofs.Ytbdpnmejkchjpaa
