/- What the laws of chapter 6 ask besides: none is better than the fresh block; heads with one set; AppendPage's ways. -/
import Derived.Test.YtolpnloghogjjaaGreatZDrawHeads2
import Derived.Test.YtolpnloghogjjaaGreatZHeads7
namespace Go.Proofs.YtolpnloghogjjaaGreat
open Go.ChangeShapes Go.WideShapes Go.ChangeAt Go.RowKit

theorem hset_heads {n k j : Nat} {a b h a1 b1 h1 : Int} (hh : headsB n a b h = true) (hk : k < n) (ka : (k : Int) ≠ a) (kb : (k : Int) ≠ b) (kh : (k : Int) ≠ h) (hj : j < 3) (hs : hset a b h j (k : Int) = (a1, b1, h1)) :
    headsB n a1 b1 h1 = true ∧ hd a1 b1 h1 j = (k : Int) ∧ ∀ o, o < 3 → o ≠ j → hd a1 b1 h1 o = hd a b h o := by
  match j, hj with
  | 0, _ =>
    simp only [hset, Prod.mk.injEq] at hs
    obtain ⟨rfl, rfl, rfl⟩ := hs
    refine ⟨by simp [headsB, pairB, inB] at hh ⊢; omega, rfl, fun o ho hne => ?_⟩
    match o, ho with
    | 0, _ => exact absurd rfl hne
    | 1, _ => rfl
    | 2, _ => rfl
  | 1, _ =>
    simp only [hset, Prod.mk.injEq] at hs
    obtain ⟨rfl, rfl, rfl⟩ := hs
    refine ⟨by simp [headsB, pairB, inB] at hh ⊢; omega, rfl, fun o ho hne => ?_⟩
    match o, ho with
    | 0, _ => rfl
    | 1, _ => exact absurd rfl hne
    | 2, _ => rfl
  | 2, _ =>
    simp only [hset, Prod.mk.injEq] at hs
    obtain ⟨rfl, rfl, rfl⟩ := hs
    refine ⟨by simp [headsB, pairB, inB] at hh ⊢; omega, rfl, fun o ho hne => ?_⟩
    match o, ho with
    | 0, _ => rfl
    | 1, _ => rfl
    | 2, _ => exact absurd rfl hne
end Go.Proofs.YtolpnloghogjjaaGreat
