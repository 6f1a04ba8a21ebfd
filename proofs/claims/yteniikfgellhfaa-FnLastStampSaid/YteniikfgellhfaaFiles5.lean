/- What the program's FileSize, FileHoles and CutFile answer.
   What the program's FileValues answers. -/
import Derived.Test.YteniikfgellhfaaFiles
import Derived.Test.YteniikfgellhfaaTables7
import Derived.Test.YteniikfgellhfaaDevices6
import Derived.Test.YteniikfgellhfaaHand
namespace Go.Proofs.Yteniikfgellhfaa
open Go.ChangeShapes Go.WideShapes Go.ChangeAt Go.RowKit
set_option linter.unusedVariables false

theorem tab_hole {xss : List (List Int)} {f k : Nat} {xs : List Int} {x : Int} (hv : tabB xss = true) (hx : xss[f]? = some xs) (hk : xs[k]? = some x) (h0 : ¬ 0 ≤ x) : x = -1 := by
  have := ((tabB_iff _).1 hv).inb f k x (cellO_of hx hk)
  omega
end Go.Proofs.Yteniikfgellhfaa
namespace Go.Proofs.Yteniikfgellhfaa
open Go.ChangeShapes Go.WideShapes Go.ChangeAt Go.RowKit Go.Deep
set_option linter.unusedVariables false

theorem read_one (A : Option Addr) (n c : Nat) (bs : List Bk) (a : Int) (w : World) (hl : bs.length = n) (hr : DRow w w.heap.size A bs) (hn : n ≤ 1048576) (hp : ∀ b, b ∈ bs → b.ps.length ≤ 1048576) :
    Calls Try.prog 15 #[.slice A n c, .int .i64 a] w (PageRead (readV bs a) w) := by
  cases hd : devB bs
  · rw [readV_no hd]
    exact readPage_no A n c bs a w hl hr hn hp hd
  · obtain ⟨_, hall⟩ := dev_parts hd
    have h4 : ∀ b, b ∈ bs → b.ps.length = 4 := fun b hm => (block_parts (hall b hm)).2.1
    cases ha : hasP n a
    · have e : readV bs a = pz := by
        unfold readV
        rw [if_pos hd]
        split
        · rename_i h0
          have h1 : 4 * bs.length ≤ a.toNat := by
            rcases Nat.lt_or_ge a.toNat (4 * bs.length) with h2 | h2
            · have : hasP n a = true := by simp [hasP]; omega
              rw [ha] at this
              cases this
            · exact h2
          have : pageAt bs a.toNat = none := by rw [← allP_at h4]; exact List.getElem?_eq_none (by rw [allP_length h4]; omega)
          rw [this]
          rfl
        · rfl
      rw [e]
      exact readPage_out A n c bs a w hl hr hn hp hd ha
    · obtain ⟨h0, h1⟩ : 0 ≤ a ∧ a < 4 * (n : Int) := by simpa [hasP] using ha
      obtain ⟨k, rfl⟩ := Int.eq_ofNat_of_zero_le h0
      obtain ⟨p, hp'⟩ := page_some h4 (a := k) (by omega)
      have e : readV bs (k : Int) = p := by
        unfold readV
        rw [if_pos hd, if_pos h0, Int.toNat_natCast, hp']
        rfl
      rw [e]
      exact readPage_at A n c bs k p w hl hr hd hp'
theorem read_v {A : Option Addr} {n c : Nat} {bs : List Bk} {a : Int} {p : Pg} {w : World} (h : readV bs a = p) (hl : bs.length = n) (hr : DRow w w.heap.size A bs) (hn : n ≤ 1048576) (hp : ∀ b, b ∈ bs → b.ps.length ≤ 1048576) :
    Calls Try.prog 15 #[.slice A n c, .int .i64 a] w (PageRead p w) := h ▸ read_one A n c bs a w hl hr hn hp
/-- A page is told, and whether it is written, of a file and a place. -/
def OwnRead (p : Pg) (f k : Int) (w : World) (e : Ending) (w' : World) : Prop := e = .returned (.tuple #[.agg #[.bool p.f, .int .i64 p.a, .int .i64 p.b, .int .i64 p.c, .int .i64 p.d], .bool (p.f && (p.a == f) && (p.b == k))]) ∧ w.grownBy w' none
theorem ext_vals {l : List Int} {z k : Nat} (hl : l.length = k) (hk : k < z) (v : Int) : (l ++ List.replicate (z - k) 0).set k v = (l ++ [v]) ++ List.replicate (z - (k + 1)) 0 := by
  rw [List.set_append_right _ _ (by omega), hl, Nat.sub_self, show z - k = (z - (k + 1)) + 1 by omega, List.replicate_succ, List.set_cons_zero, List.append_assoc]
  rfl
theorem ext_hole {l : List Int} {z k : Nat} (hk : k < z) : l ++ List.replicate (z - k) (0 : Int) = (l ++ [0]) ++ List.replicate (z - (k + 1)) 0 := by
  rw [show z - k = (z - (k + 1)) + 1 by omega, List.replicate_succ, List.append_assoc]
  rfl
/-- No numbers. -/
theorem imade2_none {w w' : World} (h : w.grownBy w' none) : IMade2 [] false w (.returned (.tuple #[.slice none 0 0, .bool false])) w' := ⟨none, 0, 0, rfl, rfl, World.ownsRow_nil _ _ _ _, h⟩
end Go.Proofs.Yteniikfgellhfaa
