/-
 DERIVED: THE SHELF's CONTRACTS AT THIS DUMP, IN PLAIN WORDS (tools/lay-plain.mjs out of 'YtejdfpieblkapaaGreatDoorLt.lean', which tools/lay-shelf.mjs wrote): THE SAME DECLARATIONS UNDER THE SAME NAMES: 'import', 'namespace', 'open', 'def', 'theorem' AND NOTHING ELSE: no command of the shelf's: FOR A HAND-IN. Each laying: the table of numbers ('.._ren') and one theorem, a field a fact of the dump's own or the kernel's comparison; each contract: ONE APPLICATION.
-/
import Derived.Shelf.SlIterI.Nil
import Derived.Shelf.SortM.Plain
import Derived.Shelf.SortM.SortNone
import Derived.Ground.GgzProg
import Derived.Ground.SlgmProg
import Derived.Test.YtejdfpieblkapaaGreatDoorM2
namespace Go.Proofs
open Go.Shelf
def Tryz.keysA_ren : Go.Shelf.Ren := ⟨fun | 7 => 84 | 10 => 125 | n => n, fun | 23 => 140 | 26 => 3 | 3 => 145 | 28 => 97 | 0 => 0 | 27 => 96 | 33 => 44 | 4 => 4 | n => n, fun | n => n⟩
def Tryz.sortedA_ren : Go.Shelf.Ren := ⟨fun | 6 => 83 | 8 => 60 | 9 => 124 | 11 => 89 | 13 => 149 | 12 => 148 | 23 => 169 | 24 => 170 | 14 => 160 | 15 => 161 | 16 => 162 | 17 => 163 | 18 => 164 | 19 => 165 | 20 => 166 | 21 => 167 | 22 => 168 | 25 => 175 | 26 => 176 | 27 => 177 | 28 => 178 | 29 => 179 | 30 => 180 | 31 => 181 | n => n, fun | 26 => 3 | 28 => 97 | 24 => 32 | 0 => 0 | 3 => 3 | 37 => 158 | 48 => 216 | 50 => 99 | 4 => 4 | 40 => 209 | 39 => 208 | 45 => 51 | 5 => 5 | 9 => 9 | 51 => 223 | 55 => 227 | 57 => 229 | 58 => 230 | 33 => 44 | n => n, fun | n => n⟩
def Tryz.sortA_ren : Go.Shelf.Ren := ⟨fun | 5 => 124 | 8 => 149 | 7 => 148 | 19 => 169 | 20 => 170 | 10 => 160 | 11 => 161 | 12 => 162 | 13 => 163 | 14 => 164 | 15 => 165 | 16 => 166 | 17 => 167 | 18 => 168 | 30 => 175 | 31 => 176 | 32 => 177 | 33 => 178 | 34 => 179 | 35 => 180 | 40 => 181 | n => n, fun | 23 => 32 | 25 => 3 | 3 => 3 | 32 => 158 | 22 => 32 | 0 => 0 | 44 => 216 | 46 => 99 | 4 => 4 | 36 => 209 | 35 => 208 | 41 => 51 | 5 => 5 | 9 => 9 | 53 => 223 | 57 => 227 | 63 => 229 | 64 => 230 | n => n, fun | n => n⟩
end Go.Proofs
