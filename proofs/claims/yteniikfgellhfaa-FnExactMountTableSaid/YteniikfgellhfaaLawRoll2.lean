/- FnExactMountTable: the states of a region with three copies and the call, whose variable is made at any place. Written by mk/law_roll_text.py. -/
import Derived.Test.YteniikfgellhfaaLawSave2
import Derived.Test.YteniikfgellhfaaLawFiles
import Derived.Test.YteniikfgellhfaaMounts
namespace Go.Proofs.Yteniikfgellhfaa
open Go.ChangeShapes Go.WideShapes Go.ChangeAt Go.RowKit Go.Deep
set_option linter.unusedVariables false

theorem mountV_is {bs cs : List Bk} (h : cs.map Bk.is = bs.map Bk.is) (T : List (List Int)) (ok : Bool) (s : Int) : mountV cs T ok s = mountV bs T ok s := by
  simp only [mountV, devB_is h, rollV_is h, of_is h]
theorem mount_size {N S N' S' M s : Int} {X X' : List Int} {T R : List (List Int)} {ok o : Bool} {bs : List Bk} (hV : newV N X S N' X' S' = (T, M, ok)) (hR : mountV bs T ok s = (R, o)) : R.length ≤ 1048576 ∧ ltot R ≤ 1048576 := by
  cases hd : devB bs
  · obtain ⟨rfl, rfl⟩ : [] = R ∧ false = o := by simpa [mountV, hd] using hR
    exact ⟨by simp, by simp [ltot]⟩
  · have key : tabB R = true := by
      cases ok
      · obtain ⟨rfl, rfl⟩ : tabOf bs = R ∧ true = o := by simpa [mountV, hd] using hR
        obtain ⟨⟨_, h12⟩, _⟩ := dev_parts hd
        rw [of_yes hd]
        exact (tabB_iff _).2 (of_inv hd _ (by omega)).tv
      · obtain ⟨rfl, rfl⟩ : rollV bs T s = R ∧ true = o := by simpa [mountV, hd] using hR
        exact rollV_tab hd (new_tabB hV) s
    have h1 := ltot_tab key
    have h8 := ((tabB_iff _).1 key).len
    omega
theorem markSave_wide {w wr : World} {V n c lo hi K K' : Nat} {N S : Int} {A : Option Addr} {xs : List Int} (hK : K ≤ 50000000) (hK' : K' = K + n) (h : SvV w V N S A n c xs lo hi wr) (hn : n ≤ 1048576) :
    Calls Try.prog 48 #[.agg #[.int .i64 N, .slice A n c, .int .i64 S], .int .i64 (K : Int)] wr fun e w' => e = .returned (.int .i64 (K' : Int)) ∧ Out lo hi wr w' := by
  subst hK'
  have h1 : wr.grownBy (wr.alloc (.cells #[.int .i64 N, .slice A n c, .int .i64 S] 49)) none := grown_alloc (grown_refl wr none) _
  have HO := Lib.hid (And.intro (h.2.1.keep h1) h1)
  clear h h1
  go_enter Try.func48, Try.ntmps48
  go_wp2_with fail
  refine (markInts_any A n c K lo xs _ HO.out.1.2.1 HO.out.1.1 hn (by omega)).mono ?_
  rintro e w1 ⟨rfl, ho, hk⟩
  have HZ := Lib.hid ((Out.of_grown HO.out.2 (fun g e => by cases e)).trans (Out.of_grown hk fun g e => HO.out.1.at_ e))
  clear ho hk
  go_wp2
  go_ret
  exact ⟨rfl, HZ.out⟩
/-- c: how many calls have answered (a device's copy, two saves' copies, and MountTable); aT: the variable is made. -/
def MS (w0 : World) (bs : List Bk) (nd : Nat) (X X' : List Int) (n1 : Nat) (T : List (List Int)) (c : Nat) (aT : Bool) (A2 : Option Addr) (c2 : Nat) (cs2 : List Bk) (g3 : Nat) (g4 : Nat) (A5 : Option Addr) (c5 : Nat) (cs5 : List Li) (V : Nat) (wz : World) : Prop :=
  w0.grownBy wz none ∧ (1 ≤ c → cs2.length = nd ∧ cs2.map Bk.is = bs.map Bk.is ∧ DRow wz wz.heap.size A2 cs2) ∧ (2 ≤ c → IRow wz wz.heap.size (some ⟨g3, 0, none⟩) X) ∧ (3 ≤ c → IRow wz wz.heap.size (some ⟨g4, 0, none⟩) X') ∧ (4 ≤ c → (cs5.length = n1 ∧ ll cs5 = T) ∧ TOwn wz w0.heap.size (.slice A5 n1 c5) cs5) ∧ (aT = true → Blk wz V 40 #[.slice none 0 0] ∧ w0.heap.size ≤ V)
section
variable {w w0 wz wn : World} {bs : List Bk} {nd : Nat} {X X' : List Int} {n1 : Nat} {T : List (List Int)} {c V : Nat} {aT : Bool} {A2 : Option Addr} {c2 : Nat} {cs2 : List Bk} {g3 : Nat} {g4 : Nat} {A5 : Option Addr} {c5 : Nat} {cs5 : List Li} {A2' : Option Addr} {c2' : Nat} {cs2' : List Bk} {g3' : Nat} {g4' : Nat} {A5' : Option Addr} {c5' : Nat} {cs5' : List Li}
theorem MS.keep (H : MS w0 bs nd X X' n1 T c aT A2 c2 cs2 g3 g4 A5 c5 cs5 V wz) (k : wz.grownBy wn none) : MS w0 bs nd X X' n1 T c aT A2 c2 cs2 g3 g4 A5 c5 cs5 V wn :=
  ⟨grown_trans H.1 k, fun h => ⟨(H.2.1 h).1, (H.2.1 h).2.1, ((H.2.1 h).2.2.kept k).here⟩, fun h => VRow.here (VRow.kept (H.2.2.1 h) k), fun h => VRow.here (VRow.kept (H.2.2.2.1 h) k), fun h => ⟨(H.2.2.2.2.1 h).1, (H.2.2.2.2.1 h).2.keep k⟩, fun h => ⟨(H.2.2.2.2.2 h).1.keep k, (H.2.2.2.2.2 h).2⟩⟩
theorem MS.start (w0 : World) (bs : List Bk) (nd : Nat) (X X' : List Int) (n1 : Nat) (T : List (List Int)) : MS w0 bs nd X X' n1 T 0 false none 0 [] 0 0 none 0 [] 0 w0 :=
  ⟨grown_refl _ _, fun h => absurd h (by omega), fun h => absurd h (by omega), fun h => absurd h (by omega), fun h => absurd h (by omega), fun h => (by cases h)⟩
theorem MS.one (H : MS w0 bs nd X X' n1 T 0 aT A2' c2' cs2' g3 g4 A5 c5 cs5 V wz) (hl : cs2.length = nd) (hs : cs2.map Bk.is = bs.map Bk.is) (ho : DOwn wn wz.heap.size (.slice A2 nd c2) cs2) (k : wz.grownBy wn none) : MS w0 bs nd X X' n1 T 1 aT A2 c2 cs2 g3 g4 A5 c5 cs5 V wn :=
  ⟨(H.keep k).1, fun _ => ⟨hl, hs, ho.row⟩, fun h => absurd h (by omega), fun h => absurd h (by omega), fun h => absurd h (by omega), (H.keep k).2.2.2.2.2⟩
theorem MS.two {q : Nat} (H : MS w0 bs nd X X' n1 T 1 aT A2 c2 cs2 g3' g4 A5 c5 cs5 V wz) (ho : IOwn wn wz.heap.size (.slice (some ⟨g3, 0, none⟩) q q) X) (k : wz.grownBy wn none) : MS w0 bs nd X X' n1 T 2 aT A2 c2 cs2 g3 g4 A5 c5 cs5 V wn :=
  ⟨(H.keep k).1, fun _ => (H.keep k).2.1 (by omega), fun _ => VOwn.row ho, fun h => absurd h (by omega), fun h => absurd h (by omega), (H.keep k).2.2.2.2.2⟩
theorem MS.three {q : Nat} (H : MS w0 bs nd X X' n1 T 2 aT A2 c2 cs2 g3 g4' A5 c5 cs5 V wz) (ho : IOwn wn wz.heap.size (.slice (some ⟨g4, 0, none⟩) q q) X') (k : wz.grownBy wn none) : MS w0 bs nd X X' n1 T 3 aT A2 c2 cs2 g3 g4 A5 c5 cs5 V wn :=
  ⟨(H.keep k).1, fun _ => (H.keep k).2.1 (by omega), fun _ => (H.keep k).2.2.1 (by omega), fun _ => VOwn.row ho, fun h => absurd h (by omega), (H.keep k).2.2.2.2.2⟩
theorem MS.four (H : MS w0 bs nd X X' n1 T 3 aT A2 c2 cs2 g3 g4 A5' c5' cs5' V wz) (hl : cs5.length = n1) (hs : ll cs5 = T) (ho : TOwn wn wz.heap.size (.slice A5 n1 c5) cs5) (k : wz.grownBy wn none) : MS w0 bs nd X X' n1 T 4 aT A2 c2 cs2 g3 g4 A5 c5 cs5 V wn :=
  ⟨(H.keep k).1, fun _ => (H.keep k).2.1 (by omega), fun _ => (H.keep k).2.2.1 (by omega), fun _ => (H.keep k).2.2.2.1 (by omega), fun _ => ⟨⟨hl, hs⟩, ho.base_le H.1.size⟩, (H.keep k).2.2.2.2.2⟩
theorem MS.allT (H : MS w0 bs nd X X' n1 T c false A2 c2 cs2 g3 g4 A5 c5 cs5 V wz) : MS w0 bs nd X X' n1 T c true A2 c2 cs2 g3 g4 A5 c5 cs5 wz.heap.size (wz.alloc (.cells #[.slice none 0 0] 40)) :=
  have k := grown_alloc (grown_refl wz none) (.cells #[.slice none 0 0] 40)
  ⟨(H.keep k).1, (H.keep k).2.1, (H.keep k).2.2.1, (H.keep k).2.2.2.1, (H.keep k).2.2.2.2.1, fun _ => ⟨Blk.new wz _ _, H.1.size⟩⟩
theorem MS.vars (H : MS w0 bs nd X X' n1 T 4 true A2 c2 cs2 g3 g4 A5 c5 cs5 V wz) : w0.heap.size ≤ V ∧ wz.cell? ⟨V, 0, none⟩ = some (.slice none 0 0) ∧ wz.frozen? ⟨V, 0, none⟩ = false :=
  ⟨(H.2.2.2.2.2 rfl).2, (H.2.2.2.2.2 rfl).1.cell 0, (H.2.2.2.2.2 rfl).1.frozen 0⟩
theorem MS.pack (H : MS w0 bs nd X X' n1 T 4 true A2 c2 cs2 g3 g4 A5 c5 cs5 V wz) (hG : w.grownBy w0 none) : ∃ hi, TP w w0.heap.size hi V A5 n1 c5 cs5 (wz.setCell ⟨V, 0, none⟩ (.slice A5 n1 c5)) ∧ w0.grownBy (wz.setCell ⟨V, 0, none⟩ (.slice A5 n1 c5)) none ∧ w0.heap.size ≤ hi ∧ hi = (wz.setCell ⟨V, 0, none⟩ (.slice A5 n1 c5)).heap.size := by
  obtain ⟨hV, h1⟩ := H.2.2.2.2.2 rfl
  obtain ⟨hx, ht⟩ := H.2.2.2.2.1 (by omega)
  have kk := grown_put H.1 (p := ⟨V, 0, none⟩) h1 (.slice A5 n1 c5)
  exact ⟨_, TP.start (grown_trans hG kk) hG.size (ht.put hV 0 _) hx.1 (hV.put 0 (.slice A5 n1 c5)) h1, kk, kk.size, rfl⟩
end
end Go.Proofs.Yteniikfgellhfaa
