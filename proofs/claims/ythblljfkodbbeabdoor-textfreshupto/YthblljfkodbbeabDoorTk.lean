import Derived.Test.YthblljfkodbbeabDoorTj
namespace Go.Proofs.YthblljfkodbbeabDoor.tk
open Go.RowKit Go.PlainAid
open Go.Proofs.YthblljfkodbbeabDoor.ta Go.Proofs.YthblljfkodbbeabDoor.tb Go.Proofs.YthblljfkodbbeabDoor.tc Go.Proofs.YthblljfkodbbeabDoor.td Go.Proofs.YthblljfkodbbeabDoor.te Go.Proofs.YthblljfkodbbeabDoor.tf Go.Proofs.YthblljfkodbbeabDoor.tg Go.Proofs.YthblljfkodbbeabDoor.th Go.Proofs.YthblljfkodbbeabDoor.ti Go.Proofs.YthblljfkodbbeabDoor.tj
set_option linter.unusedVariables false

def readV (l : List Int) : Value := .tuple #[.string (str l), .int .i64 0]
def failV (e : Int) : Value := .tuple #[.string ByteArray.empty, .int .i64 e]
open Classical in
noncomputable def unhexV (s : ByteArray) : Value := if s.size % 2 = 0 ∧ Ok A16 (bs s) then readV (unhexL (bs s)) else failV 41
open Classical in
noncomputable def un64V (s : ByteArray) : Value := if Acc64 (bs s) then readV (cutL (bs s)) else failV 40

end Go.Proofs.YthblljfkodbbeabDoor.tk
