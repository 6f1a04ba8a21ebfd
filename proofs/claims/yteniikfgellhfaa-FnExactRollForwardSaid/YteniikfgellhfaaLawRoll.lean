/- FnExactRollForward: the states of a region with two copies and the call, whose variable is made at any place. Written by mk/law_roll_text.py. -/
import Derived.Test.YteniikfgellhfaaLawSave2
import Derived.Test.YteniikfgellhfaaLawFiles
import Derived.Test.YteniikfgellhfaaRolls2
namespace Go.Proofs.Yteniikfgellhfaa
open Go.ChangeShapes Go.WideShapes Go.ChangeAt Go.RowKit Go.Deep
set_option linter.unusedVariables false

theorem roll_is (bs : List Bk) (xss : List (List Int)) (s : Int) : ∃ (n1 : Nat) (l1 : List (List Int)), rollV bs xss s = l1 ∧ l1.length = n1 ∧ n1 ≤ 1048576 ∧ ltot l1 ≤ 1048576 := by
  refine ⟨_, rollV bs xss s, rfl, rfl, ?_⟩
  cases hB : devB bs && tabB xss
  · rw [rollV_no hB]; simp [ltot]
  · rw [Bool.and_eq_true] at hB
    have hT := rollV_tab hB.1 hB.2 s
    have h1 := ltot_tab hT
    have h8 := ((tabB_iff _).1 hT).len
    omega
/-- c: how many calls have answered (a device's copy, a table's copy, and RollForward); aT: the variable is made. -/
def RS (w0 : World) (bs : List Bk) (nd : Nat) (xss : List (List Int)) (n n1 : Nat) (T : List (List Int)) (c : Nat) (aT : Bool) (A2 : Option Addr) (c2 : Nat) (cs2 : List Bk) (A3 : Option Addr) (c3 : Nat) (cs3 : List Li) (A4 : Option Addr) (c4 : Nat) (cs4 : List Li) (V : Nat) (wz : World) : Prop :=
  w0.grownBy wz none ∧ (1 ≤ c → cs2.length = nd ∧ cs2.map Bk.is = bs.map Bk.is ∧ DRow wz wz.heap.size A2 cs2) ∧ (2 ≤ c → cs3.length = n ∧ ll cs3 = xss ∧ TRow wz wz.heap.size A3 cs3) ∧ (3 ≤ c → (cs4.length = n1 ∧ ll cs4 = T) ∧ TOwn wz w0.heap.size (.slice A4 n1 c4) cs4) ∧ (aT = true → Blk wz V 40 #[.slice none 0 0] ∧ w0.heap.size ≤ V)
section
variable {w w0 wz wn : World} {bs : List Bk} {nd : Nat} {xss : List (List Int)} {n n1 : Nat} {T : List (List Int)} {c V : Nat} {aT : Bool} {A2 : Option Addr} {c2 : Nat} {cs2 : List Bk} {A3 : Option Addr} {c3 : Nat} {cs3 : List Li} {A4 : Option Addr} {c4 : Nat} {cs4 : List Li} {A2' : Option Addr} {c2' : Nat} {cs2' : List Bk} {A3' : Option Addr} {c3' : Nat} {cs3' : List Li} {A4' : Option Addr} {c4' : Nat} {cs4' : List Li}
theorem RS.keep (H : RS w0 bs nd xss n n1 T c aT A2 c2 cs2 A3 c3 cs3 A4 c4 cs4 V wz) (k : wz.grownBy wn none) : RS w0 bs nd xss n n1 T c aT A2 c2 cs2 A3 c3 cs3 A4 c4 cs4 V wn :=
  ⟨grown_trans H.1 k, fun h => ⟨(H.2.1 h).1, (H.2.1 h).2.1, ((H.2.1 h).2.2.kept k).here⟩, fun h => ⟨(H.2.2.1 h).1, (H.2.2.1 h).2.1, ((H.2.2.1 h).2.2.kept k).here⟩, fun h => ⟨(H.2.2.2.1 h).1, (H.2.2.2.1 h).2.keep k⟩, fun h => ⟨(H.2.2.2.2 h).1.keep k, (H.2.2.2.2 h).2⟩⟩
theorem RS.start (w0 : World) (bs : List Bk) (nd : Nat) (xss : List (List Int)) (n n1 : Nat) (T : List (List Int)) : RS w0 bs nd xss n n1 T 0 false none 0 [] none 0 [] none 0 [] 0 w0 :=
  ⟨grown_refl _ _, fun h => absurd h (by omega), fun h => absurd h (by omega), fun h => absurd h (by omega), fun h => (by cases h)⟩
theorem RS.one (H : RS w0 bs nd xss n n1 T 0 aT A2' c2' cs2' A3 c3 cs3 A4 c4 cs4 V wz) (hl : cs2.length = nd) (hs : cs2.map Bk.is = bs.map Bk.is) (ho : DOwn wn wz.heap.size (.slice A2 nd c2) cs2) (k : wz.grownBy wn none) : RS w0 bs nd xss n n1 T 1 aT A2 c2 cs2 A3 c3 cs3 A4 c4 cs4 V wn :=
  ⟨(H.keep k).1, fun _ => ⟨hl, hs, ho.row⟩, fun h => absurd h (by omega), fun h => absurd h (by omega), (H.keep k).2.2.2.2⟩
theorem RS.two (H : RS w0 bs nd xss n n1 T 1 aT A2 c2 cs2 A3' c3' cs3' A4 c4 cs4 V wz) (hl : cs3.length = n) (hs : ll cs3 = xss) (ho : TOwn wn wz.heap.size (.slice A3 n c3) cs3) (k : wz.grownBy wn none) : RS w0 bs nd xss n n1 T 2 aT A2 c2 cs2 A3 c3 cs3 A4 c4 cs4 V wn :=
  ⟨(H.keep k).1, fun _ => (H.keep k).2.1 (by omega), fun _ => ⟨hl, hs, ho.row⟩, fun h => absurd h (by omega), (H.keep k).2.2.2.2⟩
theorem RS.three (H : RS w0 bs nd xss n n1 T 2 aT A2 c2 cs2 A3 c3 cs3 A4' c4' cs4' V wz) (hl : cs4.length = n1) (hs : ll cs4 = T) (ho : TOwn wn wz.heap.size (.slice A4 n1 c4) cs4) (k : wz.grownBy wn none) : RS w0 bs nd xss n n1 T 3 aT A2 c2 cs2 A3 c3 cs3 A4 c4 cs4 V wn :=
  ⟨(H.keep k).1, fun _ => (H.keep k).2.1 (by omega), fun _ => (H.keep k).2.2.1 (by omega), fun _ => ⟨⟨hl, hs⟩, ho.base_le H.1.size⟩, (H.keep k).2.2.2.2⟩
theorem RS.allT (H : RS w0 bs nd xss n n1 T c false A2 c2 cs2 A3 c3 cs3 A4 c4 cs4 V wz) : RS w0 bs nd xss n n1 T c true A2 c2 cs2 A3 c3 cs3 A4 c4 cs4 wz.heap.size (wz.alloc (.cells #[.slice none 0 0] 40)) :=
  have k := grown_alloc (grown_refl wz none) (.cells #[.slice none 0 0] 40)
  ⟨(H.keep k).1, (H.keep k).2.1, (H.keep k).2.2.1, (H.keep k).2.2.2.1, fun _ => ⟨Blk.new wz _ _, H.1.size⟩⟩
theorem RS.vars (H : RS w0 bs nd xss n n1 T 3 true A2 c2 cs2 A3 c3 cs3 A4 c4 cs4 V wz) : w0.heap.size ≤ V ∧ wz.cell? ⟨V, 0, none⟩ = some (.slice none 0 0) ∧ wz.frozen? ⟨V, 0, none⟩ = false :=
  ⟨(H.2.2.2.2 rfl).2, (H.2.2.2.2 rfl).1.cell 0, (H.2.2.2.2 rfl).1.frozen 0⟩
theorem RS.pack (H : RS w0 bs nd xss n n1 T 3 true A2 c2 cs2 A3 c3 cs3 A4 c4 cs4 V wz) (hG : w.grownBy w0 none) : ∃ hi, TP w w0.heap.size hi V A4 n1 c4 cs4 (wz.setCell ⟨V, 0, none⟩ (.slice A4 n1 c4)) ∧ w0.grownBy (wz.setCell ⟨V, 0, none⟩ (.slice A4 n1 c4)) none ∧ w0.heap.size ≤ hi ∧ hi = (wz.setCell ⟨V, 0, none⟩ (.slice A4 n1 c4)).heap.size := by
  obtain ⟨hV, h1⟩ := H.2.2.2.2 rfl
  obtain ⟨hx, ht⟩ := H.2.2.2.1 (by omega)
  have kk := grown_put H.1 (p := ⟨V, 0, none⟩) h1 (.slice A4 n1 c4)
  exact ⟨_, TP.start (grown_trans hG kk) hG.size (ht.put hV 0 _) hx.1 (hV.put 0 (.slice A4 n1 c4)) h1, kk, kk.size, rfl⟩
end
end Go.Proofs.Yteniikfgellhfaa
