/- Which blocks may be cleaned, and the best one of them (plain facts of chapter 13).
   What the small functions of chapter 13 answer: the program's and the model's.
   Which blocks may be cleaned: the program's blocksToClean and the model's l13May.
   What the program's GreedyVictim and BestVictim answer.
   What the program's BestVictim answers.
   What the model's GreedyVictim and BestVictim answer.
   What the model's BestVictim answers. -/
import Derived.Test.YtolpnloghogjjaaGreatZHeads1
import Derived.Test.YtolpnloghogjjaaGreatZHeads6
import Derived.Test.YtolpnloghogjjaaGreatZCounts
import Derived.Test.YtolpnloghogjjaaGreatZHeads7
namespace Go.Proofs.YtolpnloghogjjaaGreat
open Go.ChangeShapes Go.WideShapes Go.ChangeAt Go.RowKit
set_option linter.unusedVariables false

end Go.Proofs.YtolpnloghogjjaaGreat
namespace Go.Proofs.YtolpnloghogjjaaGreat
open Go.ChangeShapes Go.WideShapes Go.ChangeAt Go.RowKit
set_option linter.unusedVariables false

section
variable {A : Option Addr} {c n : Nat} {m : Int} {ps : List Pg} {w : World}
end
end Go.Proofs.YtolpnloghogjjaaGreat
namespace Go.Proofs.YtolpnloghogjjaaGreat
open Go.ChangeShapes Go.WideShapes Go.ChangeAt Go.RowKit
set_option linter.unusedVariables false

section
variable {D : Option Addr} {nd cd : Nat} {bs : List Bk} {Ac : Option Addr} {nc cc : Nat} {X : List Int} {a b h : Int} {w wr w' : World}
theorem FIn.grown {u : Value} {xs : List Int} (H : FIn w D bs a b h wr) (hu : IOwn wr (w.heap.size + 1) u xs) (hg : wr.grownBy w' u.ownBlock) : FIn w D bs a b h w' :=
  ⟨H.1.grown hg (fun e => by have := (VOwn.lt hu _ e.symm).1; omega), H.2.1.grown hg (fun g e => by have := (VOwn.lt hu g e).1; omega), grown_joinR H.2.2 hg (fun g e => by have := (VOwn.lt hu g e).1; omega)⟩
end
end Go.Proofs.YtolpnloghogjjaaGreat
namespace Go.Proofs.YtolpnloghogjjaaGreat
open Go.ChangeShapes Go.WideShapes Go.ChangeAt Go.RowKit
set_option linter.unusedVariables false

section
variable {D : Option Addr} {nd cd : Nat} {bs : List Bk} {A : Option Addr} {n c : Nat} {ls : List Li} {a b h : Int} {w wr w' : World}
end
end Go.Proofs.YtolpnloghogjjaaGreat
namespace Go.Proofs.YtolpnloghogjjaaGreat
open Go.ChangeShapes Go.WideShapes Go.ChangeAt Go.RowKit
set_option linter.unusedVariables false

section
variable {D : Option Addr} {nd cd : Nat} {bs : List Bk} {A : Option Addr} {n c : Nat} {ls : List Li} {a b h : Int} {w wr w' : World}
end
end Go.Proofs.YtolpnloghogjjaaGreat
namespace Go.Proofs.YtolpnloghogjjaaGreat
open Go.ChangeShapes Go.WideShapes Go.ChangeAt Go.RowKit
set_option linter.unusedVariables false

section
variable {D : Option Addr} {nd cd : Nat} {bs : List Bk} {A : Option Addr} {n c : Nat} {ls : List Li} {a b h : Int} {w wr w' : World}
end
end Go.Proofs.YtolpnloghogjjaaGreat
namespace Go.Proofs.YtolpnloghogjjaaGreat
open Go.ChangeShapes Go.WideShapes Go.ChangeAt Go.RowKit
set_option linter.unusedVariables false

section
variable {D : Option Addr} {nd cd : Nat} {bs : List Bk} {A : Option Addr} {n c : Nat} {ls : List Li} {a b h : Int} {w wr w' : World}
end
end Go.Proofs.YtolpnloghogjjaaGreat
