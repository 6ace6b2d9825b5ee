/-
 DERIVED: THE SHELF's CONTRACTS AT THIS DUMP, IN PLAIN WORDS (tools/lay-plain.mjs out of 'YtejdfpieblkapaaGreatDoorLt2.lean', which tools/lay-shelf.mjs wrote): THE SAME DECLARATIONS UNDER THE SAME NAMES: 'import', 'namespace', 'open', 'def', 'theorem' AND NOTHING ELSE: no command of the shelf's: FOR A HAND-IN. Each laying: the table of numbers ('.._ren') and one theorem, a field a fact of the dump's own or the kernel's comparison; each contract: ONE APPLICATION.
-/
import Derived.Shelf.Spec.TrailingZeros
import Derived.Shelf.Lays7
import Derived.Test.YtejdfpieblkapaaGreatDoorM2
namespace Go.Proofs
open Go.Shelf
def Tryz.tzA_ren : Go.Shelf.Ren := ⟨fun | 29 => 91 | n => n, fun | 22 => 99 | 3 => 3 | 4 => 4 | 25 => 158 | 54 => 175 | 0 => 0 | 5 => 5 | n => n, fun | 1 => 0 | n => n⟩
end Go.Proofs
