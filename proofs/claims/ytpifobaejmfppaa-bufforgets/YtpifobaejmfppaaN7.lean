/- strings.Builder's Write, laid at this program's numbers. -/
import Derived.Shelf.Spec.BuilderWrite
import Derived.Test.YtpifobaejmfppaaShelf
namespace Go.Proofs
open Go.Shelf
theorem Try.lays240 : Go.Proofs.Lays.n240 Try.prog Try.lays166_ren := {
  mixed := by kernel_rfl
  f240 := Try.func66.trans (congrArg some (by kernel_rfl))
  f276 := Try.func79.trans (congrArg some (by kernel_rfl))
  t0 := Try.underlying0
  a0 := Try.isAgg0
  z0 := Try.sizeOf0
  v0 := Try.zeroValue0
  t4 := Try.underlying4
  a4 := Try.isAgg4
  z4 := Try.sizeOf4
  v4 := Try.zeroValue4
  t9 := Try.underlying9
  a9 := Try.isAgg9
  z9 := Try.sizeOf9
  v9 := Try.zeroValue9
  t20 := Try.underlying20
  a20 := Try.isAgg20
  z20 := Try.sizeOf20
  v20 := Try.zeroValue20
  t70 := Try.underlying68
  a70 := Try.isAgg68
  z70 := Try.sizeOf68
  v70 := Try.zeroValue68
  t72 := Try.underlying70
  a72 := Try.isAgg70
  z72 := Try.sizeOf70
  v72 := Try.zeroValue70
  t164 := Try.underlying112
  a164 := Try.isAgg112
  z164 := Try.sizeOf112
  v164 := Try.zeroValue112 }
def Try.lays35_ren : Go.Shelf.Ren := ⟨fun | 35 => 78 | 52 => 66 | 59 => 79 | n => n, fun | 30 => 64 | 36 => 68 | 38 => 73 | 59 => 70 | 73 => 112 | 89 => 57 | n => n, fun | n => n⟩
theorem Try.lays35 : Go.Proofs.Lays7.n35 Try.prog Try.lays35_ren := {
  mixed := by kernel_rfl
  f35 := Try.func78.trans (congrArg some (by kernel_rfl))
  f52 := Try.func66.trans (congrArg some (by kernel_rfl))
  f59 := Try.func79.trans (congrArg some (by kernel_rfl))
  t0 := Try.underlying0
  a0 := Try.isAgg0
  z0 := Try.sizeOf0
  v0 := Try.zeroValue0
  i0 := by kernel_rfl
  t3 := Try.underlying3
  a3 := Try.isAgg3
  z3 := Try.sizeOf3
  v3 := Try.zeroValue3
  i3 := by kernel_rfl
  t4 := Try.underlying4
  a4 := Try.isAgg4
  z4 := Try.sizeOf4
  v4 := Try.zeroValue4
  i4 := by kernel_rfl
  t9 := Try.underlying9
  a9 := Try.isAgg9
  z9 := Try.sizeOf9
  v9 := Try.zeroValue9
  i9 := by kernel_rfl
  t20 := Try.underlying20
  a20 := Try.isAgg20
  z20 := Try.sizeOf20
  v20 := Try.zeroValue20
  i20 := by kernel_rfl
  t30 := Try.underlying64
  a30 := Try.isAgg64
  z30 := Try.sizeOf64
  v30 := Try.zeroValue64
  i30 := by kernel_rfl
  t36 := Try.underlying68
  a36 := Try.isAgg68
  z36 := Try.sizeOf68
  v36 := Try.zeroValue68
  i36 := by kernel_rfl
  t38 := Try.underlying73
  a38 := Try.isAgg73
  z38 := Try.sizeOf73
  v38 := Try.zeroValue73
  i38 := by kernel_rfl
  t59 := Try.underlying70
  a59 := Try.isAgg70
  z59 := Try.sizeOf70
  v59 := Try.zeroValue70
  i59 := by kernel_rfl
  t73 := Try.underlying112
  a73 := Try.isAgg112
  z73 := Try.sizeOf112
  v73 := Try.zeroValue112
  i73 := by kernel_rfl }
open Go.RowKit in
theorem Try.Builder_Write (B b : Nat) (bs : List Value) (ad : Addr) (m c : Nat) (news : List Value) (w : World) (h : Lib.IsBuilder 70 5 B b bs w)
    (hl : news.length = m) (hnews : ∀ j u, news[j]? = some u → w.cell? (ad.add j) = some u) (hadB : ad.block < B) (h1 : ∀ u ∈ news, u.oneCell' = true)
    (hlen : bs.length + m ≤ 140737488355328) (hBw : B ≤ w.heap.size) :
    Calls Try.prog 78 #[.pointer (some ⟨b, 0, none⟩), .slice (some ad) m c] w fun e w' => e = .returned (.tuple #[.int .i64 m, .nilIface]) ∧ (Lib.BuilderAt 70 5 B b (.pointer (some ⟨b, 0, none⟩)) (bs ++ news) w' ∧ Below B w w') :=
  Any7.Builder_Write Try.lays35 Try.lays240 Try.Builder_Extra_166 rfl rfl rfl B b bs ad m c news w h hl hnews hadB h1 hlen hBw
end Go.Proofs
