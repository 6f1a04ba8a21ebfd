/- What the exact laws of chapter 5 carry along besides: free pages and pages of copies. -/
import Derived.Test.YtbdpnmejkchjpaaLawDev
import Derived.Test.YtbdpnmejkchjpaaDevices8
namespace Go.Proofs.Ytbdpnmejkchjpaa
open Go.ChangeShapes Go.WideShapes Go.ChangeAt Go.RowKit

theorem free_is {bs cs : List Bk} (h : cs.map Bk.is = bs.map Bk.is) : freeV cs = freeV bs := by
  have e : ∀ l : List Bk, freeV l = ((l.map Bk.is).map fun q => 4 - cntF q.2).sum := fun l => by
    simp [freeV, Bk.is, List.map_map, Function.comp_def]
  rw [e, e, h]
theorem specFreePages_val {A : Option Addr} {n c V : Nat} {cs : List Bk} {w : World} (hl : cs.length = n) (hr : DRow w w.heap.size A cs) (hd : devB cs = true) (hV : freeV cs = V) :
    Calls Try.prog 12 #[.slice A n c] w (KeptV (.int .i64 V) w) := by
  subst hV
  exact specFreePages_yes A n c cs w hl hr hd
theorem freePages_val {A : Option Addr} {n c V : Nat} {cs : List Bk} {w : World} (hl : cs.length = n) (hr : DRow w w.heap.size A cs) (hd : devB cs = true) (hV : freeV cs = V) :
    Calls Try.prog 11 #[.slice A n c] w (KeptV (.int .i64 V) w) := by
  subst hV
  exact freePages_yes A n c cs w hl hr hd
theorem page_is {bs cs : List Bk} (h : cs.map Bk.is = bs.map Bk.is) (a : Nat) : pageAt cs a = pageAt bs a := by
  have e : ∀ l : List Bk, pageAt l a = ((l.map Bk.is)[a / 4]?).bind fun q => q.2[a % 4]? := fun l => by
    unfold pageAt
    rw [List.getElem?_map]
    cases l[a / 4]? <;> rfl
  rw [e, e, h]
/-- What ReadPage answers. -/
def ReadIs (n : Nat) (bs : List Bk) (a : Int) (p : Pg) : Prop :=
  (devB bs = false ∧ p = pz) ∨ (devB bs = true ∧ hasP n a = false ∧ p = pz) ∨ ∃ k : Nat, a = (k : Int) ∧ devB bs = true ∧ pageAt bs k = some p
theorem hasP_in {n : Nat} {a : Int} (h : hasP n a = false) : inB a 0 (4 * n - 1) = false := by
  cases h2 : inB a 0 (4 * n - 1)
  · rfl
  · obtain ⟨h3, h4⟩ := inB_iff.1 h2
    simp [hasP] at h
    omega
theorem read_is {n : Nat} {bs : List Bk} (hl : bs.length = n) (a : Int) : ∃ p, ReadIs n bs a p := by
  cases hd : devB bs
  · exact ⟨_, .inl ⟨hd, rfl⟩⟩
  · cases ha : hasP n a
    · exact ⟨_, .inr (.inl ⟨hd, ha, rfl⟩)⟩
    · simp [hasP] at ha
      obtain ⟨k, rfl⟩ : ∃ k : Nat, a = (k : Int) := ⟨a.toNat, by omega⟩
      obtain ⟨_, hall⟩ := dev_parts hd
      obtain ⟨p, hp⟩ := page_some (bs := bs) (fun b hm => (block_parts (hall b hm)).2.1) (a := k) (by omega)
      exact ⟨p, .inr (.inr ⟨k, rfl, hd, hp⟩)⟩
theorem ReadIs.of {n : Nat} {bs cs : List Bk} {a : Int} {p : Pg} (h : ReadIs n bs a p) (hc : cs.map Bk.is = bs.map Bk.is) : ReadIs n cs a p := by
  unfold ReadIs
  rw [devB_is hc]
  rcases h with h | h | ⟨k, h1, h2, h3⟩
  · exact .inl h
  · exact .inr (.inl h)
  · exact .inr (.inr ⟨k, h1, h2, by rw [page_is hc]; exact h3⟩)
theorem specReadPage_val {A : Option Addr} {n c : Nat} {cs : List Bk} {a : Int} {p : Pg} {w : World} (h : ReadIs n cs a p) (hl : cs.length = n) (hr : DRow w w.heap.size A cs) (hn : n ≤ 1048576) (hp : ∀ b, b ∈ cs → b.ps.length ≤ 1048576) :
    Calls Try.prog 24 #[.slice A n c, .int .i64 a] w (PageRead p w) := by
  rcases h with ⟨h1, rfl⟩ | ⟨h1, h2, rfl⟩ | ⟨k, rfl, h1, h2⟩
  · exact specReadPage_no A n c cs a w hl hr hn hp h1
  · exact specReadPage_out A n c cs a w hl hr hn hp h1 (hasP_in h2)
  · exact specReadPage_at A n c cs k p w hl hr h1 h2
theorem readPage_val {A : Option Addr} {n c : Nat} {cs : List Bk} {a : Int} {p : Pg} {w : World} (h : ReadIs n cs a p) (hl : cs.length = n) (hr : DRow w w.heap.size A cs) (hn : n ≤ 1048576) (hp : ∀ b, b ∈ cs → b.ps.length ≤ 1048576) :
    Calls Try.prog 14 #[.slice A n c, .int .i64 a] w (PageRead p w) := by
  rcases h with ⟨h1, rfl⟩ | ⟨h1, h2, rfl⟩ | ⟨k, rfl, h1, h2⟩
  · exact readPage_no A n c cs a w hl hr hn hp h1
  · exact readPage_out A n c cs a w hl hr hn hp h1 h2
  · exact readPage_at A n c cs k p w hl hr h1 h2
end Go.Proofs.Ytbdpnmejkchjpaa
