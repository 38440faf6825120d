/-
  The words of an edit's text, plainly.
-/
import Derived.Test.YtpkblnponeonkaaDoorEditRep
import Derived.Test.YtpkblnponeonkaaDoorNumDec
import Derived.Test.YtpkblnponeonkaaDoorWordsPlain
import Derived.Test.YtpkblnponeonkaaDoorByteText
import Derived.Test.YtpkblnponeonkaaDoorHexPlain
import Derived.Lib.Join
namespace Go.Proofs.YtpkblnponeonkaaDoor
open Go.RowKit

/-- The word of a text's bytes: its digits, a stroke for none. -/
def hexWL (t : ByteArray) : List UInt8 := if t.size = 0 then [45] else hexL t.data.toList

/-- The words behind the node. -/
def editRest (x : PEdit) : List (List UInt8) :=
  if x.kind = 1 ∨ x.kind = 5 then [Lib.itoa x.a, Lib.itoa x.b] else if x.kind = 4 ∨ x.kind = 6 ∨ x.kind = 8 then [Lib.itoa x.a] else if x.kind = 3 then [hexWL x.text] else []

/-- The words of an edit's text. -/
def editWs (x : PEdit) : List (List UInt8) := edWord x.kind.toNat :: Lib.itoa x.node :: editRest x

/-- The text of a right edit. -/
def editT (x : PEdit) : ByteArray := bt (spaced (editWs x))

/-- What EditText answers: text and code. -/
def textAns (x : PEdit) : ByteArray := if editB x = true then editT x else ⟨#[]⟩
def textCode (x : PEdit) : Int := if editB x = true then 0 else 1

theorem join_spaced : ∀ (ws : List (List UInt8)), Lib.join ws [32] = spaced ws
  | [] => rfl
  | w :: ws => by
    rw [Lib.join_cons, spaced]
    congr 1
end Go.Proofs.YtpkblnponeonkaaDoor
