/-
 Functions of Go's library that the program calls, laid at this program by name: the shelf's command's print, in plain words.
-/
import Derived.Shelf.SlSortCmp.NoneTotal
import Derived.Test.YtoaeficfmcncjaaGreatProg
namespace Go.Proofs.YtoaeficfmcncjaaGreat
open Go.Shelf
def Tryz.sortFL_ren : Go.Shelf.Ren := ⟨fun | 6 => 221 | 15 => 202 | 14 => 260 | 28 => 246 | 29 => 247 | 20 => 287 | 21 => 288 | 22 => 289 | 23 => 290 | 24 => 291 | 25 => 292 | 26 => 293 | 27 => 294 | 46 => 302 | 47 => 278 | 48 => 279 | 49 => 303 | 50 => 304 | 57 => 311 | n => n, fun | 22 => 57 | 24 => 94 | 25 => 258 | 3 => 3 | 39 => 284 | 0 => 0 | 53 => 290 | 55 => 23 | 4 => 4 | 46 => 319 | 45 => 318 | 50 => 242 | 5 => 5 | 9 => 9 | 66 => 345 | 70 => 348 | 76 => 368 | 77 => 272 | n => n, fun | n => n⟩
theorem Tryz.sortFL : Go.Proofs.SlLaysF0.n6 Tryz.prog Tryz.sortFL_ren := {
 mixed := by kernel_rfl
 f6 := ⟨Tryz.f221.name, by decide, Tryz.func221.trans (congrArg some (by kernel_rfl))⟩
 f14 := ⟨Tryz.f260.name, by decide, Tryz.func260.trans (congrArg some (by kernel_rfl))⟩
 f15 := Tryz.func202.trans (congrArg some (by kernel_rfl))
 f20 := ⟨Tryz.f287.name, by decide, Tryz.func287.trans (congrArg some (by kernel_rfl))⟩
 f21 := ⟨Tryz.f288.name, by decide, Tryz.func288.trans (congrArg some (by kernel_rfl))⟩
 f22 := ⟨Tryz.f289.name, by decide, Tryz.func289.trans (congrArg some (by kernel_rfl))⟩
 f23 := ⟨Tryz.f290.name, by decide, Tryz.func290.trans (congrArg some (by kernel_rfl))⟩
 f24 := ⟨Tryz.f291.name, by decide, Tryz.func291.trans (congrArg some (by kernel_rfl))⟩
 f25 := ⟨Tryz.f292.name, by decide, Tryz.func292.trans (congrArg some (by kernel_rfl))⟩
 f26 := ⟨Tryz.f293.name, by decide, Tryz.func293.trans (congrArg some (by kernel_rfl))⟩
 f27 := ⟨Tryz.f294.name, by decide, Tryz.func294.trans (congrArg some (by kernel_rfl))⟩
 f28 := Tryz.func246.trans (congrArg some (by kernel_rfl))
 f29 := Tryz.func247.trans (congrArg some (by kernel_rfl))
 f46 := ⟨Tryz.f302.name, by decide, Tryz.func302.trans (congrArg some (by kernel_rfl))⟩
 f47 := Tryz.func278.trans (congrArg some (by kernel_rfl))
 f48 := Tryz.func279.trans (congrArg some (by kernel_rfl))
 f49 := ⟨Tryz.f303.name, by decide, Tryz.func303.trans (congrArg some (by kernel_rfl))⟩
 f50 := ⟨Tryz.f304.name, by decide, Tryz.func304.trans (congrArg some (by kernel_rfl))⟩
 f57 := ⟨Tryz.f311.name, by decide, Tryz.func311.trans (congrArg some (by kernel_rfl))⟩
 t0 := Tryz.underlying0
 a0 := Tryz.isAgg0
 z0 := Tryz.sizeOf0
 v0 := Tryz.zeroValue0
 t3 := Tryz.underlying3
 a3 := Tryz.isAgg3
 z3 := Tryz.sizeOf3
 v3 := Tryz.zeroValue3
 t4 := Tryz.underlying4
 a4 := Tryz.isAgg4
 z4 := Tryz.sizeOf4
 v4 := Tryz.zeroValue4
 t5 := Tryz.underlying5
 a5 := Tryz.isAgg5
 z5 := Tryz.sizeOf5
 v5 := Tryz.zeroValue5
 t9 := Tryz.underlying9
 a9 := Tryz.isAgg9
 z9 := Tryz.sizeOf9
 v9 := Tryz.zeroValue9
 t22 := Tryz.underlying57
 a22 := Tryz.isAgg57
 z22 := Tryz.sizeOf57
 v22 := Tryz.zeroValue57
 t25 := Tryz.underlying258
 a25 := Tryz.isAgg258
 z25 := Tryz.sizeOf258
 v25 := Tryz.zeroValue258
 t39 := Tryz.underlying284
 a39 := Tryz.isAgg284
 z39 := Tryz.sizeOf284
 v39 := Tryz.zeroValue284
 t45 := Tryz.underlying318
 a45 := Tryz.isAgg318
 z45 := Tryz.sizeOf318
 v45 := Tryz.zeroValue318
 t46 := Tryz.underlying319
 a46 := Tryz.isAgg319
 z46 := Tryz.sizeOf319
 v46 := Tryz.zeroValue319
 t50 := Tryz.underlying242
 a50 := Tryz.isAgg242
 z50 := Tryz.sizeOf242
 v50 := Tryz.zeroValue242
 t53 := Tryz.underlying290
 a53 := Tryz.isAgg290
 z53 := Tryz.sizeOf290
 v53 := Tryz.zeroValue290
 t55 := Tryz.underlying23
 a55 := Tryz.isAgg23
 z55 := Tryz.sizeOf23
 v55 := Tryz.zeroValue23
 t66 := Tryz.underlying345
 a66 := Tryz.isAgg345
 z66 := Tryz.sizeOf345
 v66 := Tryz.zeroValue345
 t70 := Tryz.underlying348
 a70 := Tryz.isAgg348
 z70 := Tryz.sizeOf348
 v70 := Tryz.zeroValue348
 t76 := Tryz.underlying368
 a76 := Tryz.isAgg368
 z76 := Tryz.sizeOf368
 v76 := Tryz.zeroValue368
 t77 := Tryz.underlying272
 a77 := Tryz.isAgg272
 z77 := Tryz.sizeOf272
 v77 := Tryz.zeroValue272 }
end Go.Proofs.YtoaeficfmcncjaaGreat
