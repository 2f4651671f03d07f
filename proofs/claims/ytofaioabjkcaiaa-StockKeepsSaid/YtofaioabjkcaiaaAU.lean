/- Pieces of a code by their numbers; the order of a great region of StockKeeps. -/
import Derived.Test.YtofaioabjkcaiaaRows
import Derived.Deep.QuietTactic
namespace Go.Proofs.Ytofaioabjkcaiaa

/-- The region of this number in a code. -/
def findReg (n : Nat) : Code → Option Code
  | .region m ops d => match Nat.beq m n with
    | true => some (.region m ops d)
    | false => none
  | .seq a b => match findReg n a with
    | some c => some c
    | none => findReg n b
  | .cond _ a b => match findReg n a with
    | some c => some c
    | none => findReg n b
  | .block _ c => findReg n c
  | .loop c => findReg n c
  | .scope c => findReg n c
  | _ => none

/-- The block of this number in a code. -/
def findBlk (n : Nat) : Code → Option Code
  | .block m c => match Nat.beq m n with
    | true => some (.block m c)
    | false => findBlk n c
  | .seq a b => match findBlk n a with
    | some c => some c
    | none => findBlk n b
  | .cond _ a b => match findBlk n a with
    | some c => some c
    | none => findBlk n b
  | .loop c => findBlk n c
  | .scope c => findBlk n c
  | _ => none

noncomputable def reg46 : Code := (Try.f9.body.bind (findReg 46)).getD .skip
noncomputable def blk0 : Code := (Try.f9.body.bind (findBlk 0)).getD .skip
noncomputable def blk3 : Code := (Try.f9.body.bind (findBlk 3)).getD .skip
noncomputable def blk5 : Code := (Try.f9.body.bind (findBlk 5)).getD .skip
noncomputable def blk7 : Code := (Try.f9.body.bind (findBlk 7)).getD .skip
noncomputable def blk9 : Code := (Try.f9.body.bind (findBlk 9)).getD .skip

noncomputable def ops46 : List Oper := match reg46 with
  | .region _ ops _ => ops.toList
  | _ => []

theorem lex46 : Region.lexB .any ops46.toArray = true := by kernel_rfl

end Go.Proofs.Ytofaioabjkcaiaa
