/-
  DERIVED: THE SHELF's CONTRACTS AT THIS DUMP, IN PLAIN WORDS (tools/lay-plain.mjs out of 'TrydShelf.lean', which tools/lay-shelf.mjs wrote): THE SAME DECLARATIONS UNDER THE SAME NAMES: 'import', 'namespace', 'open', 'def', 'theorem' AND NOTHING ELSE: no command of the shelf's: FOR A HAND-IN. Each laying: the table of numbers ('.._ren') and one theorem, a field a fact of the dump's own or the kernel's comparison; each contract: ONE APPLICATION.
  The walks of the functions that read letters: galliardref01.Get, utf.Get.
  The walks of the functions that go letter by letter: utf.run, utf.Bad, utf.Count, galliardref01.Bad.
  The walks of layer 2: chars.Start, Part, Blank, Letter, Text, Name, Trim, Empty, Split.
-/
import Derived.Shelf.Strings.Builder1
import Derived.Shelf.Strings.Builder2
import Derived.Shelf.Strings.Trim
import Derived.Shelf.Small.Utf8
import Derived.Shelf.Small.Strs
import Derived.Shelf.Strings.BuilderF
import Derived.Shelf.Strings.BuilderK
import Derived.Shelf.Strings.Builder2Cap
import Derived.Shelf.Strconv.Itoa0
import Derived.Shelf.Strconv.Itoa1
import Derived.Shelf.LaysM
import Derived.Shelf.Strconv.Itoa2
import Derived.Shelf.Strconv.Itoa3
import Derived.Shelf.Strings.Search1
import Derived.Shelf.Strings.Prefix
import Derived.Shelf.Unicode.Decode
import Derived.Shelf.Strings.Runes
import Derived.Shelf.Strings.AsciiSet
import Derived.Shelf.Bits.Mul64
import Derived.Shelf.Strings.Repeat
import Derived.Shelf.Unicode.DecodeSlow
import Derived.Shelf.Unicode.DecodeAny
import Derived.Shelf.Strings.BuilderCap
import Derived.Test.YtincdacickhdkaaDoorProg
import Derived.Test.YtincdacickhdkaaDoorM1
import Derived.Deep.QuietTactic
import Derived.BigQuiet
import Derived.Deep.RegionWith
import Derived.Deep.LoopGhost
import Derived.Deep.Cut
import Derived.Deep.CutRange
import Derived.Lib.IndexBytes
import Derived.Shelf.Strings.SlTrimAscii
import Derived.OwnWalk
namespace Go.Proofs
open Go.Shelf
def Tryd.lays169_ren : Go.Shelf.Ren := ⟨fun | 169 => 17 | n => n, fun | 70 => 43 | 9 => 9 | 0 => 0 | 72 => 45 | 37 => 37 | 127 => 57 | 3 => 3 | 5 => 5 | n => n, fun | n => n⟩
theorem Tryd.lays169 : Go.Proofs.Lays.n169 Tryd.prog Tryd.lays169_ren := {
  mixed := by kernel_rfl
  f169 := Tryd.func17.trans (congrArg some (by kernel_rfl))
  t0 := Tryd.underlying0
  a0 := Tryd.isAgg0
  z0 := Tryd.sizeOf0
  v0 := Tryd.zeroValue0
  t3 := Tryd.underlying3
  a3 := Tryd.isAgg3
  z3 := Tryd.sizeOf3
  v3 := Tryd.zeroValue3
  t9 := Tryd.underlying9
  a9 := Tryd.isAgg9
  z9 := Tryd.sizeOf9
  v9 := Tryd.zeroValue9
  t37 := Tryd.underlying37
  a37 := Tryd.isAgg37
  z37 := Tryd.sizeOf37
  v37 := Tryd.zeroValue37
  t70 := Tryd.underlying43
  a70 := Tryd.isAgg43
  z70 := Tryd.sizeOf43
  v70 := Tryd.zeroValue43
  t72 := Tryd.underlying45
  a72 := Tryd.isAgg45
  z72 := Tryd.sizeOf45
  v72 := Tryd.zeroValue45
  t127 := Tryd.underlying57
  a127 := Tryd.isAgg57
  z127 := Tryd.sizeOf57
  v127 := Tryd.zeroValue57 }
theorem Tryd.Builder_Extra_169 : Builder.Extra Tryd.prog Tryd.lays169_ren := {
  sizeBuilder := by kernel_rfl
  liesBuilder := by kernel_rfl
  t5 := Tryd.underlying5
  a5 := Tryd.isAgg5
  z5 := Tryd.sizeOf5
  v5 := Tryd.zeroValue5
  infoByte := by kernel_rfl
  cellsByte := by kernel_rfl
  sizeByte := by kernel_rfl
  neB5 := by decide }
def Tryd.lays160_ren : Go.Shelf.Ren := ⟨fun | 160 => 40 | 232 => 53 | 231 => 52 | 227 => 54 | 234 => 56 | 233 => 55 | 236 => 58 | 235 => 57 | 228 => 64 | 271 => 66 | 151 => 65 | 197 => 62 | 120 => 70 | 152 => 69 | 260 => 68 | 137 => 72 | 119 => 73 | 224 => 74 | 225 => 75 | 217 => 80 | 266 => 86 | n => n, fun | 9 => 9 | 4 => 4 | 3 => 3 | 5 => 5 | 117 => 87 | 116 => 86 | 0 => 0 | 124 => 90 | 21 => 21 | 105 => 97 | 46 => 59 | 119 => 102 | 139 => 105 | 138 => 104 | n => n, fun | 3 => 2 | 4 => 3 | n => n⟩
theorem Tryd.lays160 : Go.Proofs.Lays.n160 Tryd.prog Tryd.lays160_ren := {
  mixed := by kernel_rfl
  f119 := Tryd.func73.trans (congrArg some (by kernel_rfl))
  f120 := Tryd.func70.trans (congrArg some (by kernel_rfl))
  f137 := Tryd.func72.trans (congrArg some (by kernel_rfl))
  f151 := Tryd.func65.trans (congrArg some (by kernel_rfl))
  f152 := Tryd.func69.trans (congrArg some (by kernel_rfl))
  f160 := Tryd.func40.trans (congrArg some (by kernel_rfl))
  f197 := Tryd.func62.trans (congrArg some (by kernel_rfl))
  f217 := Tryd.func80.trans (congrArg some (by kernel_rfl))
  f224 := Tryd.func74.trans (congrArg some (by kernel_rfl))
  f225 := Tryd.func75.trans (congrArg some (by kernel_rfl))
  f227 := Tryd.func54.trans (congrArg some (by kernel_rfl))
  f228 := Tryd.func64.trans (congrArg some (by kernel_rfl))
  f231 := Tryd.func52.trans (congrArg some (by kernel_rfl))
  f232 := Tryd.func53.trans (congrArg some (by kernel_rfl))
  f233 := Tryd.func55.trans (congrArg some (by kernel_rfl))
  f234 := Tryd.func56.trans (congrArg some (by kernel_rfl))
  f235 := Tryd.func57.trans (congrArg some (by kernel_rfl))
  f236 := Tryd.func58.trans (congrArg some (by kernel_rfl))
  f260 := Tryd.func68.trans (congrArg some (by kernel_rfl))
  f266 := Tryd.func86.trans (congrArg some (by kernel_rfl))
  f271 := Tryd.func66.trans (congrArg some (by kernel_rfl))
  t0 := Tryd.underlying0
  a0 := Tryd.isAgg0
  z0 := Tryd.sizeOf0
  v0 := Tryd.zeroValue0
  t3 := Tryd.underlying3
  a3 := Tryd.isAgg3
  z3 := Tryd.sizeOf3
  v3 := Tryd.zeroValue3
  t4 := Tryd.underlying4
  a4 := Tryd.isAgg4
  z4 := Tryd.sizeOf4
  v4 := Tryd.zeroValue4
  t5 := Tryd.underlying5
  a5 := Tryd.isAgg5
  z5 := Tryd.sizeOf5
  v5 := Tryd.zeroValue5
  t9 := Tryd.underlying9
  a9 := Tryd.isAgg9
  z9 := Tryd.sizeOf9
  v9 := Tryd.zeroValue9
  t21 := Tryd.underlying21
  a21 := Tryd.isAgg21
  z21 := Tryd.sizeOf21
  v21 := Tryd.zeroValue21
  t46 := Tryd.underlying59
  a46 := Tryd.isAgg59
  z46 := Tryd.sizeOf59
  v46 := Tryd.zeroValue59
  t105 := Tryd.underlying97
  a105 := Tryd.isAgg97
  z105 := Tryd.sizeOf97
  v105 := Tryd.zeroValue97
  t116 := Tryd.underlying86
  a116 := Tryd.isAgg86
  z116 := Tryd.sizeOf86
  t117 := Tryd.underlying87
  a117 := Tryd.isAgg87
  z117 := Tryd.sizeOf87
  v117 := Tryd.zeroValue87
  t119 := Tryd.underlying102
  a119 := Tryd.isAgg102
  z119 := Tryd.sizeOf102
  t124 := Tryd.underlying90
  a124 := Tryd.isAgg90
  z124 := Tryd.sizeOf90
  v124 := Tryd.zeroValue90
  t138 := Tryd.underlying104
  a138 := Tryd.isAgg104
  z138 := Tryd.sizeOf104
  v138 := Tryd.zeroValue104
  t139 := Tryd.underlying105
  a139 := Tryd.isAgg105
  z139 := Tryd.sizeOf105
  v139 := Tryd.zeroValue105
  g3 := by kernel_rfl
  g4 := by kernel_rfl }
open Go.RowKit in
theorem Tryd.Builder_String_any_f (B b : Nat) (l : List UInt8) (w : World) (h : Lib.IsBuilderF 45 5 B b (Lib.byteCells l) w) (hBw : B ≤ w.heap.size) :
    Calls Tryd.prog 17 #[.pointer (some ⟨b, 0, none⟩)] w fun e w' => e = .returned (.string ⟨l.toArray⟩) ∧ (Lib.IsBuilderF 45 5 B b (Lib.byteCells l) w' ∧ Below B w w') := Any.Builder_String_any_f Tryd.lays169 Tryd.Builder_Extra_169 B b l w h hBw
def Tryd.lays171_ren : Go.Shelf.Ren := ⟨fun | 171 => 61 | 243 => 67 | 246 => 71 | 283 => 76 | 284 => 77 | 285 => 78 | 286 => 79 | 129 => 82 | 317 => 81 | 318 => 83 | 319 => 84 | 320 => 85 | 337 => 87 | 338 => 88 | n => n, fun | 3 => 3 | 9 => 9 | 2 => 2 | 4 => 4 | 171 => 110 | 0 => 0 | 53 => 76 | 37 => 37 | 5 => 5 | 173 => 113 | 212 => 116 | 51 => 73 | 20 => 20 | 213 => 117 | 46 => 59 | 232 => 120 | 233 => 121 | n => n, fun | 17 => 4 | 18 => 5 | 19 => 6 | n => n⟩
theorem Tryd.lays171 : Go.Proofs.Lays.n171 Tryd.prog Tryd.lays171_ren := {
  mixed := by kernel_rfl
  f129 := Tryd.func82.trans (congrArg some (by kernel_rfl))
  f171 := Tryd.func61.trans (congrArg some (by kernel_rfl))
  f243 := Tryd.func67.trans (congrArg some (by kernel_rfl))
  f246 := Tryd.func71.trans (congrArg some (by kernel_rfl))
  f283 := Tryd.func76.trans (congrArg some (by kernel_rfl))
  f284 := Tryd.func77.trans (congrArg some (by kernel_rfl))
  f285 := Tryd.func78.trans (congrArg some (by kernel_rfl))
  f286 := Tryd.func79.trans (congrArg some (by kernel_rfl))
  f317 := Tryd.func81.trans (congrArg some (by kernel_rfl))
  f318 := Tryd.func83.trans (congrArg some (by kernel_rfl))
  f319 := Tryd.func84.trans (congrArg some (by kernel_rfl))
  f320 := Tryd.func85.trans (congrArg some (by kernel_rfl))
  f337 := Tryd.func87.trans (congrArg some (by kernel_rfl))
  f338 := Tryd.func88.trans (congrArg some (by kernel_rfl))
  t0 := Tryd.underlying0
  a0 := Tryd.isAgg0
  z0 := Tryd.sizeOf0
  v0 := Tryd.zeroValue0
  t2 := Tryd.underlying2
  a2 := Tryd.isAgg2
  z2 := Tryd.sizeOf2
  v2 := Tryd.zeroValue2
  t3 := Tryd.underlying3
  a3 := Tryd.isAgg3
  z3 := Tryd.sizeOf3
  v3 := Tryd.zeroValue3
  t4 := Tryd.underlying4
  a4 := Tryd.isAgg4
  z4 := Tryd.sizeOf4
  v4 := Tryd.zeroValue4
  t5 := Tryd.underlying5
  a5 := Tryd.isAgg5
  z5 := Tryd.sizeOf5
  v5 := Tryd.zeroValue5
  t9 := Tryd.underlying9
  a9 := Tryd.isAgg9
  z9 := Tryd.sizeOf9
  v9 := Tryd.zeroValue9
  t20 := Tryd.underlying20
  a20 := Tryd.isAgg20
  z20 := Tryd.sizeOf20
  v20 := Tryd.zeroValue20
  t37 := Tryd.underlying37
  a37 := Tryd.isAgg37
  z37 := Tryd.sizeOf37
  v37 := Tryd.zeroValue37
  t46 := Tryd.underlying59
  a46 := Tryd.isAgg59
  z46 := Tryd.sizeOf59
  v46 := Tryd.zeroValue59
  t51 := Tryd.underlying73
  a51 := Tryd.isAgg73
  z51 := Tryd.sizeOf73
  v51 := Tryd.zeroValue73
  t53 := Tryd.underlying76
  a53 := Tryd.isAgg76
  z53 := Tryd.sizeOf76
  v53 := Tryd.zeroValue76
  t171 := Tryd.underlying110
  a171 := Tryd.isAgg110
  z171 := Tryd.sizeOf110
  v171 := Tryd.zeroValue110
  t173 := Tryd.underlying113
  a173 := Tryd.isAgg113
  z173 := Tryd.sizeOf113
  v173 := Tryd.zeroValue113
  t212 := Tryd.underlying116
  a212 := Tryd.isAgg116
  z212 := Tryd.sizeOf116
  v212 := Tryd.zeroValue116
  t213 := Tryd.underlying117
  a213 := Tryd.isAgg117
  z213 := Tryd.sizeOf117
  t232 := Tryd.underlying120
  a232 := Tryd.isAgg120
  z232 := Tryd.sizeOf120
  v232 := Tryd.zeroValue120
  t233 := Tryd.underlying121
  a233 := Tryd.isAgg121
  z233 := Tryd.sizeOf121
  v233 := Tryd.zeroValue121
  g17 := by kernel_rfl
  g18 := by kernel_rfl
  g19 := by kernel_rfl }
open Go.RowKit Go.Sort Go.Lib in
theorem Tryd.strconv_Itoa_small (i : Nat) (hi : i < 100) (w : World) :
    Calls Tryd.prog 61 #[.int .i64 i] w fun e w' => e = .returned (.string ⟨(Lib.decDigits i).toArray⟩) ∧ w' = w := Any.strconv_Itoa_small Tryd.lays171 i hi w
def Tryd.lays197_ren : Go.Shelf.Ren := ⟨fun | 197 => 62 | 260 => 68 | n => n, fun | 9 => 9 | 21 => 21 | 3 => 3 | 4 => 4 | 5 => 5 | 105 => 97 | 119 => 102 | 0 => 0 | 46 => 59 | 139 => 105 | 138 => 104 | n => n, fun | 3 => 2 | 4 => 3 | n => n⟩
theorem Tryd.lays197 : Go.Proofs.Lays.n197 Tryd.prog Tryd.lays197_ren := {
  mixed := by kernel_rfl
  f197 := Tryd.func62.trans (congrArg some (by kernel_rfl))
  f260 := Tryd.func68.trans (congrArg some (by kernel_rfl))
  t0 := Tryd.underlying0
  a0 := Tryd.isAgg0
  z0 := Tryd.sizeOf0
  v0 := Tryd.zeroValue0
  t3 := Tryd.underlying3
  a3 := Tryd.isAgg3
  z3 := Tryd.sizeOf3
  v3 := Tryd.zeroValue3
  t4 := Tryd.underlying4
  a4 := Tryd.isAgg4
  z4 := Tryd.sizeOf4
  v4 := Tryd.zeroValue4
  t5 := Tryd.underlying5
  a5 := Tryd.isAgg5
  z5 := Tryd.sizeOf5
  v5 := Tryd.zeroValue5
  t9 := Tryd.underlying9
  a9 := Tryd.isAgg9
  z9 := Tryd.sizeOf9
  v9 := Tryd.zeroValue9
  t21 := Tryd.underlying21
  a21 := Tryd.isAgg21
  z21 := Tryd.sizeOf21
  v21 := Tryd.zeroValue21
  t46 := Tryd.underlying59
  a46 := Tryd.isAgg59
  z46 := Tryd.sizeOf59
  v46 := Tryd.zeroValue59
  t105 := Tryd.underlying97
  a105 := Tryd.isAgg97
  z105 := Tryd.sizeOf97
  v105 := Tryd.zeroValue97
  t119 := Tryd.underlying102
  a119 := Tryd.isAgg102
  z119 := Tryd.sizeOf102
  t138 := Tryd.underlying104
  a138 := Tryd.isAgg104
  z138 := Tryd.sizeOf104
  v138 := Tryd.zeroValue104
  t139 := Tryd.underlying105
  a139 := Tryd.isAgg105
  z139 := Tryd.sizeOf105
  v139 := Tryd.zeroValue105
  g3 := by kernel_rfl
  g4 := by kernel_rfl }
def Tryd.lays105_ren : Go.Shelf.Ren := ⟨fun | 105 => 20 | 212 => 28 | 99 => 29 | 165 => 30 | 166 => 31 | 170 => 32 | 169 => 17 | 263 => 41 | 264 => 42 | 206 => 43 | 240 => 44 | 241 => 45 | 276 => 59 | 277 => 60 | n => n, fun | 9 => 9 | 3 => 3 | 4 => 4 | 20 => 20 | 0 => 0 | 46 => 59 | 109 => 60 | 5 => 5 | 72 => 45 | 76 => 66 | 51 => 73 | 146 => 74 | 53 => 76 | 148 => 77 | 70 => 43 | 37 => 37 | 75 => 65 | 127 => 57 | 164 => 91 | 80 => 49 | n => n, fun | n => n⟩
theorem Tryd.lays105 : Go.Proofs.Lays.n105 Tryd.prog Tryd.lays105_ren := {
  mixed := by kernel_rfl
  f99 := Tryd.func29.trans (congrArg some (by kernel_rfl))
  f105 := Tryd.func20.trans (congrArg some (by kernel_rfl))
  f165 := Tryd.func30.trans (congrArg some (by kernel_rfl))
  f166 := Tryd.func31.trans (congrArg some (by kernel_rfl))
  f169 := Tryd.func17.trans (congrArg some (by kernel_rfl))
  f170 := Tryd.func32.trans (congrArg some (by kernel_rfl))
  f206 := Tryd.func43.trans (congrArg some (by kernel_rfl))
  f212 := Tryd.func28.trans (congrArg some (by kernel_rfl))
  f240 := Tryd.func44.trans (congrArg some (by kernel_rfl))
  f241 := Tryd.func45.trans (congrArg some (by kernel_rfl))
  f263 := Tryd.func41.trans (congrArg some (by kernel_rfl))
  f264 := Tryd.func42.trans (congrArg some (by kernel_rfl))
  f276 := Tryd.func59.trans (congrArg some (by kernel_rfl))
  f277 := Tryd.func60.trans (congrArg some (by kernel_rfl))
  t0 := Tryd.underlying0
  a0 := Tryd.isAgg0
  z0 := Tryd.sizeOf0
  v0 := Tryd.zeroValue0
  t3 := Tryd.underlying3
  a3 := Tryd.isAgg3
  z3 := Tryd.sizeOf3
  v3 := Tryd.zeroValue3
  t4 := Tryd.underlying4
  a4 := Tryd.isAgg4
  z4 := Tryd.sizeOf4
  v4 := Tryd.zeroValue4
  t5 := Tryd.underlying5
  a5 := Tryd.isAgg5
  z5 := Tryd.sizeOf5
  v5 := Tryd.zeroValue5
  t9 := Tryd.underlying9
  a9 := Tryd.isAgg9
  z9 := Tryd.sizeOf9
  v9 := Tryd.zeroValue9
  t20 := Tryd.underlying20
  a20 := Tryd.isAgg20
  z20 := Tryd.sizeOf20
  v20 := Tryd.zeroValue20
  t37 := Tryd.underlying37
  a37 := Tryd.isAgg37
  z37 := Tryd.sizeOf37
  v37 := Tryd.zeroValue37
  t46 := Tryd.underlying59
  a46 := Tryd.isAgg59
  z46 := Tryd.sizeOf59
  v46 := Tryd.zeroValue59
  t51 := Tryd.underlying73
  a51 := Tryd.isAgg73
  z51 := Tryd.sizeOf73
  v51 := Tryd.zeroValue73
  t53 := Tryd.underlying76
  a53 := Tryd.isAgg76
  z53 := Tryd.sizeOf76
  v53 := Tryd.zeroValue76
  t70 := Tryd.underlying43
  a70 := Tryd.isAgg43
  z70 := Tryd.sizeOf43
  v70 := Tryd.zeroValue43
  t72 := Tryd.underlying45
  a72 := Tryd.isAgg45
  z72 := Tryd.sizeOf45
  v72 := Tryd.zeroValue45
  t75 := Tryd.underlying65
  a75 := Tryd.isAgg65
  z75 := Tryd.sizeOf65
  v75 := Tryd.zeroValue65
  t76 := Tryd.underlying66
  a76 := Tryd.isAgg66
  z76 := Tryd.sizeOf66
  v76 := Tryd.zeroValue66
  t109 := Tryd.underlying60
  a109 := Tryd.isAgg60
  z109 := Tryd.sizeOf60
  v109 := Tryd.zeroValue60
  t127 := Tryd.underlying57
  a127 := Tryd.isAgg57
  z127 := Tryd.sizeOf57
  v127 := Tryd.zeroValue57
  t146 := Tryd.underlying74
  a146 := Tryd.isAgg74
  z146 := Tryd.sizeOf74
  v146 := Tryd.zeroValue74
  t148 := Tryd.underlying77
  a148 := Tryd.isAgg77
  z148 := Tryd.sizeOf77
  v148 := Tryd.zeroValue77
  t164 := Tryd.underlying91
  a164 := Tryd.isAgg91
  z164 := Tryd.sizeOf91
  v164 := Tryd.zeroValue91 }
theorem Tryd.Builder_Extra_105 : Builder.Extra Tryd.prog Tryd.lays105_ren := {
  sizeBuilder := by kernel_rfl
  liesBuilder := by kernel_rfl
  t5 := Tryd.underlying5
  a5 := Tryd.isAgg5
  z5 := Tryd.sizeOf5
  v5 := Tryd.zeroValue5
  infoByte := by kernel_rfl
  cellsByte := by kernel_rfl
  sizeByte := by kernel_rfl
  neB5 := by decide }
open Go.RowKit Go.Lib in
theorem Tryd.strings_Repeat (s : ByteArray) (c : Nat) (w : World) (hc : c ≤ 9223372036854775807) (hlen : s.size * c ≤ 140737488355328) :
    Calls Tryd.prog 20 #[.string s, .int .i64 c] w fun e w' => e = .returned (.string ⟨(Lib.repeatL s.data.toList c).toArray⟩) ∧ Below w.heap.size w w' := Any.strings_Repeat Tryd.lays105 Tryd.Builder_Extra_105 s c w hc hlen
def Tryd.lays260_ren : Go.Shelf.Ren := ⟨fun | 260 => 68 | n => n, fun | 9 => 9 | 21 => 21 | 3 => 3 | 4 => 4 | 5 => 5 | 119 => 102 | 0 => 0 | 46 => 59 | 139 => 105 | 138 => 104 | n => n, fun | 3 => 2 | 4 => 3 | n => n⟩
theorem Tryd.lays260 : Go.Proofs.Lays.n260 Tryd.prog Tryd.lays260_ren := {
  mixed := by kernel_rfl
  f260 := Tryd.func68.trans (congrArg some (by kernel_rfl))
  t0 := Tryd.underlying0
  a0 := Tryd.isAgg0
  z0 := Tryd.sizeOf0
  v0 := Tryd.zeroValue0
  t3 := Tryd.underlying3
  a3 := Tryd.isAgg3
  z3 := Tryd.sizeOf3
  v3 := Tryd.zeroValue3
  t4 := Tryd.underlying4
  a4 := Tryd.isAgg4
  z4 := Tryd.sizeOf4
  v4 := Tryd.zeroValue4
  t5 := Tryd.underlying5
  a5 := Tryd.isAgg5
  z5 := Tryd.sizeOf5
  v5 := Tryd.zeroValue5
  t9 := Tryd.underlying9
  a9 := Tryd.isAgg9
  z9 := Tryd.sizeOf9
  v9 := Tryd.zeroValue9
  t21 := Tryd.underlying21
  a21 := Tryd.isAgg21
  z21 := Tryd.sizeOf21
  v21 := Tryd.zeroValue21
  t46 := Tryd.underlying59
  a46 := Tryd.isAgg59
  z46 := Tryd.sizeOf59
  v46 := Tryd.zeroValue59
  t119 := Tryd.underlying102
  a119 := Tryd.isAgg102
  z119 := Tryd.sizeOf102
  t138 := Tryd.underlying104
  a138 := Tryd.isAgg104
  z138 := Tryd.sizeOf104
  v138 := Tryd.zeroValue104
  t139 := Tryd.underlying105
  a139 := Tryd.isAgg105
  z139 := Tryd.sizeOf105
  v139 := Tryd.zeroValue105
  g3 := by kernel_rfl
  g4 := by kernel_rfl }
open Go.RowKit Go.Lib in
theorem Tryd.utf8_DecodeRuneInString (s : ByteArray) (w : World) (hT : Lib.Utf8Tabs 2 3 w) :
    Calls Tryd.prog 62 #[.string s] w fun e w' => e = .returned (.tuple #[.int .i32 (Lib.decodeGo s).1, .int .i64 (Lib.decodeGo s).2]) ∧ Below w.heap.size w w' := Any.utf8_DecodeRuneInString Tryd.lays197 s w hT
end Go.Proofs
namespace Go.Proofs.YtincdacickhdkaaDoor
open Go.RowKit
set_option maxRecDepth 100000

/-- The two tables of unicode/utf8. -/
def Tabs (w : World) : Prop := Lib.Utf8Tabs 2 3 w
theorem Tabs.below {w w' : World} (h : Tabs w) (hb : Below w.heap.size w w') : Tabs w' := Utf8Tabs_below h hb

/-! ### utf.Get -/
/-- A string's bytes. -/
theorem bl_from (s : ByteArray) (a : Nat) : bl (s.extract a s.size) = (bl s).drop a := Lib.extract_to_end s a
theorem decodeN_le (n b0 b1 b2 b3 : Nat) (h0 : b0 < 256) : (Lib.decodeN n b0 b1 b2 b3).1 ≤ 2097152 := by
  unfold Lib.decodeN
  repeat' split
  all_goals (simp; try omega)
theorem decodeGo_le (s : ByteArray) (h : bl s ≠ []) : (Lib.decodeGo s).1 ≤ 2097152 := by
  rw [decodeGo_list s h]; exact decodeN_le _ _ _ _ _ (nth_lt _ _)
def okA (R N : Nat) : Int := if R = 65533 ∧ N = 1 then 0 else R
def okB (R N : Nat) : Int := if R = 65533 ∧ N = 1 then 0 else N
theorem okP_eq (d : Nat × Nat) : okP d = (okA d.1 d.2, okB d.1 d.2) := by
  unfold okP okA okB; split <;> rfl
set_option maxHeartbeats 400000 in
theorem uget_in0 (s : ByteArray) (k : Nat) (w : World) (h : k < s.size) (R N : Nat) (hR : R ≤ 2097152)
    (C : Hid (Calls Tryd.prog 62 #[.string (s.extract k s.size)] w fun e w' => e = .returned (.tuple #[.int .i32 R, .int .i64 N]) ∧ Below w.heap.size w w')) :
    Calls Tryd.prog 49 #[.string s, .int .i64 k] w fun e w' => e = .returned (.tuple #[.int .i64 (okA R N), .int .i64 (okB R N)]) ∧ Below w.heap.size w w' := by
  have hko : (k : Int) < (s.size : Int) := by omega
  by_cases h1 : R = 65533
  · by_cases h2 : N = 1
    · rw [show okA R N = 0 by unfold okA; rw [if_pos ⟨h1, h2⟩], show okB R N = 0 by unfold okB; rw [if_pos ⟨h1, h2⟩]]
      have b1 : ((R : Int) == 65533) = true := by simp; omega
      have b2 : ((N : Int) == 1) = true := by simp; omega
      clear h1 h2
      go_enter Tryd.func49, Tryd.ntmps49
      go_wp2_with (go_at_call 62; refine C.out.mono ?_; rintro e w' ⟨rfl, hb⟩)
      go_ret2
      exact ⟨rfl, hb⟩
    · rw [show okA R N = R by unfold okA; rw [if_neg (fun h => h2 h.2)], show okB R N = N by unfold okB; rw [if_neg (fun h => h2 h.2)]]
      have b1 : ((R : Int) == 65533) = true := by simp; omega
      have b2 : ((N : Int) == 1) = false := by simp; omega
      clear h1 h2
      go_enter Tryd.func49, Tryd.ntmps49
      go_wp2_with (go_at_call 62; refine C.out.mono ?_; rintro e w' ⟨rfl, hb⟩)
      go_ret2
      exact ⟨rfl, hb⟩
  · rw [show okA R N = R by unfold okA; rw [if_neg (fun h => h1 h.1)], show okB R N = N by unfold okB; rw [if_neg (fun h => h1 h.1)]]
    have b1 : ((R : Int) == 65533) = false := by simp; omega
    clear h1
    go_enter Tryd.func49, Tryd.ntmps49
    go_wp2_with (go_at_call 62; refine C.out.mono ?_; rintro e w' ⟨rfl, hb⟩)
    go_ret2
    exact ⟨rfl, hb⟩
theorem uget_in (s : ByteArray) (k : Nat) (w : World) (h : k < s.size) (hT : Tabs w) :
    Calls Tryd.prog 49 #[.string s, .int .i64 k] w fun e w' => e = .returned (.tuple #[.int .i64 (gl ((bl s).drop k)).1, .int .i64 (gl ((bl s).drop k)).2]) ∧ Below w.heap.size w w' := by
  have hne : bl (s.extract k s.size) ≠ [] := by
    intro he
    have := congrArg List.length he
    rw [bl_from, List.length_drop, bl_size] at this
    simp at this; omega
  have hg := gl_decodeGo (s.extract k s.size) hne
  have hl := decodeGo_le (s.extract k s.size) hne
  rw [← bl_from, show gl (bl (s.extract k s.size)) = okP (Lib.decodeGo (s.extract k s.size)) from hg, okP_eq]
  exact uget_in0 s k w h _ _ hl (Lib.hid (Tryd.utf8_DecodeRuneInString (s.extract k s.size) w hT))
/-! ### galliardref01.Get -/
theorem sub_list (s : ByteArray) (n : Nat) : (s.extract 0 n).data.toList = (bl s).take n := by
  rw [Lib.extract_data]; rfl
theorem str_eq (c : Int) (s : ByteArray) (k : Nat) : ((putS c).toList == (s.extract 0 k).toList) = decide (put c = (bl s).take k) := by
  rw [Lib.toList_data, Lib.toList_data, sub_list, putS_list]
  by_cases h : put c = (bl s).take k
  · rw [decide_eq_true h]; simp [h]
  · rw [decide_eq_false h]; simp [h]
theorem nth_get (s : ByteArray) (i : Nat) (h : i < s.size) : nth (bl s) i = (s[i]'h).toNat := by
  unfold nth
  rw [show (bl s).getD i 0 = s.get! i from (get!_list s i).symm, Utf8W.get!_of_lt s i h]
set_option maxRecDepth 100000 in
set_option maxHeartbeats 4000000 in
theorem rget0 (s : ByteArray) (w : World) (A B : Int) (hs : s.size ≤ 9223372036854775807) (HG : Hid ((A, B) = refFrom 4 1 (bl s))) :
    Calls Tryd.prog 14 #[.string s] w fun e w' => e = .returned (.tuple #[.int .i64 A, .int .i64 B]) ∧ Below w.heap.size w w' := by
  have hbs := bl_size s
  have HBS := Lib.hid hbs; clear hbs
  go_enter Tryd.func14, Tryd.ntmps14
  go_wp2
  go_loopg [4] 5 (fun g i wr => ∃ k : Nat, g + k = 6 ∧ (1 ≤ k ∧ k ≤ 5) ∧ i = .int .i64 k ∧ Below w.heap.size w wr ∧ Hid ((A, B) = refFrom (5 - k) k (bl s)))
  case atStart => exact ⟨1, rfl, by omega, rfl, Below.refl _ _, HG⟩
  case round =>
    obtain ⟨k, hg, hk1, rfl, hb, HK⟩ := hrel
    clear HG
    by_cases hout : ¬ (k ≤ 4 ∧ k ≤ s.size)
    · have he := HK.out
      have hz : refFrom (5 - k) k (bl s) = (0, 0) := by
        by_cases h5 : k = 5
        · subst h5; rfl
        · exact refFrom_out _ _ _ (by rw [HBS.out]; omega)
      rw [hz] at he
      have hA := congrArg Prod.fst he
      have hB := congrArg Prod.snd he
      simp only at hA hB
      subst hA; subst hB
      clear he hz
      by_cases h5 : k = 5
      · subst h5
        go_wp2
        go_ret2
        exact ⟨rfl, hb⟩
      · have h6 : (k : Int) ≤ 4 := by omega
        have h7 : ¬ ((k : Int) ≤ (s.size : Int)) := by omega
        clear hout h5
        go_wp2
        go_ret2
        exact ⟨rfl, hb⟩
    have hin : k ≤ 4 ∧ k ≤ s.size := Decidable.not_not.1 hout
    clear hout
    by_cases e1 : k = 1
    · subst e1
      obtain ⟨_, hin⟩ := hin
      obtain ⟨x0, hx0⟩ : ∃ x, s[0]'(by omega) = x := ⟨_, rfl⟩
      have hc : candN 1 (bl s) = (x0.toNat : Int) := by
        show cand1 (nth (bl s) 0) = _
        rw [nth_get s 0 (by omega), hx0]; rfl
      have HC := Lib.hid hc; clear hc
      have l0 : (x0.toNat : Int) < 256 := by have := UInt8.toNat_lt x0; omega
      have b0 : (0 : Int) < (s.size : Int) := by omega
      have bk : (1 : Int) ≤ (s.size : Int) := by omega
      go_wp2
      go_cut [79] from 6 to 81 (fun b wx => b = .bool (decide (put ((x0.toNat : Int)) = (bl s).take 1)) ∧ Below wr.heap.size wr wx)
      case first =>
        go_region_with (go_at_call 18; refine (rput _ _).mono ?_; rintro e w1 ⟨rfl, hb1⟩)
        go_wp2_with fail
        go_meet
        exact ⟨by rw [str_eq], ⟨hb1.os, hb1.tape, hb1.output, hb1.size, hb1.block⟩⟩
      case rest =>
        obtain ⟨rfl, hb1⟩ := hcut
        have hbw : Below w.heap.size w wc := hb.trans (hb1.mono hb.size)
        by_cases hm : put ((x0.toNat : Int)) = (bl s).take 1
        · rw [decide_eq_true hm]
          have he := HK.out.trans (refFrom_hit _ 1 (bl s) (by rw [HBS.out]; omega) (by rw [HC.out]; exact hm))
          rw [HC.out] at he
          have hA := congrArg Prod.fst he
          have hB := congrArg Prod.snd he
          simp only at hA hB
          subst hA; subst hB
          clear he hm
          go_wp2
          go_ret2
          exact ⟨rfl, hbw⟩
        · rw [decide_eq_false hm]
          have he := HK.out.trans (refFrom_miss _ 1 (bl s) (by rw [HBS.out]; omega) (by rw [HC.out]; exact hm))
          have HE := Lib.hid he; clear he hm
          go_wp2
          go_roundg 4
          case measure => omega
          case rel => exact ⟨2, by omega, by omega, by go_num, hbw, HE⟩
    by_cases e2 : k = 2
    · subst e2
      obtain ⟨_, hin⟩ := hin
      obtain ⟨x0, hx0⟩ : ∃ x, s[0]'(by omega) = x := ⟨_, rfl⟩
      obtain ⟨x1, hx1⟩ : ∃ x, s[1]'(by omega) = x := ⟨_, rfl⟩
      have hc : candN 2 (bl s) = ((x0.toNat : Int) - 192) * 64 + x1.toNat - 128 := by
        show cand2 (nth (bl s) 0) (nth (bl s) 1) = _
        rw [nth_get s 0 (by omega), hx0, nth_get s 1 (by omega), hx1]; rfl
      have HC := Lib.hid hc; clear hc
      have l0 : (x0.toNat : Int) < 256 := by have := UInt8.toNat_lt x0; omega
      have l1 : (x1.toNat : Int) < 256 := by have := UInt8.toNat_lt x1; omega
      have b0 : (0 : Int) < (s.size : Int) := by omega
      have b1 : (1 : Int) < (s.size : Int) := by omega
      have bk : (2 : Int) ≤ (s.size : Int) := by omega
      go_wp2
      go_quiet (fail)
      go_wp2_with fail
      go_cut [79] from 6 to 81 (fun b wx => b = .bool (decide (put (((x0.toNat : Int) - 192) * 64 + x1.toNat - 128) = (bl s).take 2)) ∧ Below wr.heap.size wr wx)
      case first =>
        go_region_with (go_at_call 18; refine (rput _ _).mono ?_; rintro e w1 ⟨rfl, hb1⟩)
        go_wp2_with fail
        go_meet
        exact ⟨by rw [str_eq], ⟨hb1.os, hb1.tape, hb1.output, hb1.size, hb1.block⟩⟩
      case rest =>
        obtain ⟨rfl, hb1⟩ := hcut
        have hbw : Below w.heap.size w wc := hb.trans (hb1.mono hb.size)
        by_cases hm : put (((x0.toNat : Int) - 192) * 64 + x1.toNat - 128) = (bl s).take 2
        · rw [decide_eq_true hm]
          have he := HK.out.trans (refFrom_hit _ 2 (bl s) (by rw [HBS.out]; omega) (by rw [HC.out]; exact hm))
          rw [HC.out] at he
          have hA := congrArg Prod.fst he
          have hB := congrArg Prod.snd he
          simp only at hA hB
          subst hA; subst hB
          clear he hm
          go_wp2
          go_ret2
          exact ⟨rfl, hbw⟩
        · rw [decide_eq_false hm]
          have he := HK.out.trans (refFrom_miss _ 2 (bl s) (by rw [HBS.out]; omega) (by rw [HC.out]; exact hm))
          have HE := Lib.hid he; clear he hm
          go_wp2
          go_roundg 3
          case measure => omega
          case rel => exact ⟨3, by omega, by omega, by go_num, hbw, HE⟩
    by_cases e3 : k = 3
    · subst e3
      obtain ⟨_, hin⟩ := hin
      obtain ⟨x0, hx0⟩ : ∃ x, s[0]'(by omega) = x := ⟨_, rfl⟩
      obtain ⟨x1, hx1⟩ : ∃ x, s[1]'(by omega) = x := ⟨_, rfl⟩
      obtain ⟨x2, hx2⟩ : ∃ x, s[2]'(by omega) = x := ⟨_, rfl⟩
      have hc : candN 3 (bl s) = ((x0.toNat : Int) - 224) * 4096 + ((x1.toNat : Int) - 128) * 64 + x2.toNat - 128 := by
        show cand3 (nth (bl s) 0) (nth (bl s) 1) (nth (bl s) 2) = _
        rw [nth_get s 0 (by omega), hx0, nth_get s 1 (by omega), hx1, nth_get s 2 (by omega), hx2]; rfl
      have HC := Lib.hid hc; clear hc
      have l0 : (x0.toNat : Int) < 256 := by have := UInt8.toNat_lt x0; omega
      have l1 : (x1.toNat : Int) < 256 := by have := UInt8.toNat_lt x1; omega
      have l2 : (x2.toNat : Int) < 256 := by have := UInt8.toNat_lt x2; omega
      have b0 : (0 : Int) < (s.size : Int) := by omega
      have b1 : (1 : Int) < (s.size : Int) := by omega
      have b2 : (2 : Int) < (s.size : Int) := by omega
      have bk : (3 : Int) ≤ (s.size : Int) := by omega
      go_wp2
      go_quiet (fail)
      go_wp2_with fail
      go_cut [79] from 6 to 81 (fun b wx => b = .bool (decide (put (((x0.toNat : Int) - 224) * 4096 + ((x1.toNat : Int) - 128) * 64 + x2.toNat - 128) = (bl s).take 3)) ∧ Below wr.heap.size wr wx)
      case first =>
        go_region_with (go_at_call 18; refine (rput _ _).mono ?_; rintro e w1 ⟨rfl, hb1⟩)
        go_wp2_with fail
        go_meet
        exact ⟨by rw [str_eq], ⟨hb1.os, hb1.tape, hb1.output, hb1.size, hb1.block⟩⟩
      case rest =>
        obtain ⟨rfl, hb1⟩ := hcut
        have hbw : Below w.heap.size w wc := hb.trans (hb1.mono hb.size)
        by_cases hm : put (((x0.toNat : Int) - 224) * 4096 + ((x1.toNat : Int) - 128) * 64 + x2.toNat - 128) = (bl s).take 3
        · rw [decide_eq_true hm]
          have he := HK.out.trans (refFrom_hit _ 3 (bl s) (by rw [HBS.out]; omega) (by rw [HC.out]; exact hm))
          rw [HC.out] at he
          have hA := congrArg Prod.fst he
          have hB := congrArg Prod.snd he
          simp only at hA hB
          subst hA; subst hB
          clear he hm
          go_wp2
          go_ret2
          exact ⟨rfl, hbw⟩
        · rw [decide_eq_false hm]
          have he := HK.out.trans (refFrom_miss _ 3 (bl s) (by rw [HBS.out]; omega) (by rw [HC.out]; exact hm))
          have HE := Lib.hid he; clear he hm
          go_wp2
          go_roundg 2
          case measure => omega
          case rel => exact ⟨4, by omega, by omega, by go_num, hbw, HE⟩
    · obtain rfl : k = 4 := by omega
      obtain ⟨_, hin⟩ := hin
      obtain ⟨x0, hx0⟩ : ∃ x, s[0]'(by omega) = x := ⟨_, rfl⟩
      obtain ⟨x1, hx1⟩ : ∃ x, s[1]'(by omega) = x := ⟨_, rfl⟩
      obtain ⟨x2, hx2⟩ : ∃ x, s[2]'(by omega) = x := ⟨_, rfl⟩
      obtain ⟨x3, hx3⟩ : ∃ x, s[3]'(by omega) = x := ⟨_, rfl⟩
      have hc : candN 4 (bl s) = ((x0.toNat : Int) - 240) * 262144 + ((x1.toNat : Int) - 128) * 4096 + ((x2.toNat : Int) - 128) * 64 + x3.toNat - 128 := by
        show cand4 (nth (bl s) 0) (nth (bl s) 1) (nth (bl s) 2) (nth (bl s) 3) = _
        rw [nth_get s 0 (by omega), hx0, nth_get s 1 (by omega), hx1, nth_get s 2 (by omega), hx2, nth_get s 3 (by omega), hx3]; rfl
      have HC := Lib.hid hc; clear hc
      have l0 : (x0.toNat : Int) < 256 := by have := UInt8.toNat_lt x0; omega
      have l1 : (x1.toNat : Int) < 256 := by have := UInt8.toNat_lt x1; omega
      have l2 : (x2.toNat : Int) < 256 := by have := UInt8.toNat_lt x2; omega
      have l3 : (x3.toNat : Int) < 256 := by have := UInt8.toNat_lt x3; omega
      have b0 : (0 : Int) < (s.size : Int) := by omega
      have b1 : (1 : Int) < (s.size : Int) := by omega
      have b2 : (2 : Int) < (s.size : Int) := by omega
      have b3 : (3 : Int) < (s.size : Int) := by omega
      have bk : (4 : Int) ≤ (s.size : Int) := by omega
      go_wp2
      go_quiet (fail)
      go_wp2_with fail
      go_cut [79] from 6 to 81 (fun b wx => b = .bool (decide (put (((x0.toNat : Int) - 240) * 262144 + ((x1.toNat : Int) - 128) * 4096 + ((x2.toNat : Int) - 128) * 64 + x3.toNat - 128) = (bl s).take 4)) ∧ Below wr.heap.size wr wx)
      case first =>
        go_region_with (go_at_call 18; refine (rput _ _).mono ?_; rintro e w1 ⟨rfl, hb1⟩)
        go_wp2_with fail
        go_meet
        exact ⟨by rw [str_eq], ⟨hb1.os, hb1.tape, hb1.output, hb1.size, hb1.block⟩⟩
      case rest =>
        obtain ⟨rfl, hb1⟩ := hcut
        have hbw : Below w.heap.size w wc := hb.trans (hb1.mono hb.size)
        by_cases hm : put (((x0.toNat : Int) - 240) * 262144 + ((x1.toNat : Int) - 128) * 4096 + ((x2.toNat : Int) - 128) * 64 + x3.toNat - 128) = (bl s).take 4
        · rw [decide_eq_true hm]
          have he := HK.out.trans (refFrom_hit _ 4 (bl s) (by rw [HBS.out]; omega) (by rw [HC.out]; exact hm))
          rw [HC.out] at he
          have hA := congrArg Prod.fst he
          have hB := congrArg Prod.snd he
          simp only at hA hB
          subst hA; subst hB
          clear he hm
          go_wp2
          go_ret2
          exact ⟨rfl, hbw⟩
        · rw [decide_eq_false hm]
          have he := HK.out.trans (refFrom_miss _ 4 (bl s) (by rw [HBS.out]; omega) (by rw [HC.out]; exact hm))
          have HE := Lib.hid he; clear he hm
          go_wp2
          go_roundg 1
          case measure => omega
          case rel => exact ⟨5, by omega, by omega, by go_num, hbw, HE⟩
/-- **galliardref01.Get at every string.** -/
theorem rget (s : ByteArray) (w : World) (hs : s.size ≤ 9223372036854775807) :
    Calls Tryd.prog 14 #[.string s] w fun e w' => e = .returned (.tuple #[.int .i64 (gl (bl s)).1, .int .i64 (gl (bl s)).2]) ∧ Below w.heap.size w w' :=
  rget0 s w _ _ hs (Lib.hid (gl_from (bl s)))

end Go.Proofs.YtincdacickhdkaaDoor
namespace Go.Proofs.YtincdacickhdkaaDoor
open Go.RowKit
set_option maxRecDepth 100000

set_option maxHeartbeats 1000000 in
theorem urun0 (s : ByteArray) (w : World) (A B : Int) (hs : s.size ≤ 9223372036854775807) (hT : Tabs w)
    (HR : Hid (A = (runL (bl s)).1 ∧ B = (runL (bl s)).2)) :
    Calls Tryd.prog 48 #[.string s] w fun e w' => e = .returned (.tuple #[.int .i64 A, .int .i64 B]) ∧ Below w.heap.size w w' := by
  have HBS := Lib.hid (bl_size s)
  have HT := Lib.hid hT; clear hT
  go_enter Tryd.func48, Tryd.ntmps48
  go_wp2
  go_loopg [2, 3] s.size (fun g c e wr => ∃ (n k : Nat), g + k = s.size ∧ c = .int .i64 n ∧ e = .int .i64 k ∧ Below w.heap.size w wr ∧ Hid (Gone (bl s) n k))
  case atStart => exact ⟨0, 0, rfl, rfl, rfl, Below.refl _ _, Lib.hid (Gone.start _)⟩
  case round =>
    obtain ⟨n, k, hg, rfl, rfl, hb, HK⟩ := hrel
    by_cases hin : (k : Int) < (s.size : Int)
    · have hTr : Tabs wr := HT.out.below hb
      have c := uget_in s k wr (by omega) hTr
      have hp := gl_pos ((bl s).drop k)
      have hle := HK.out.2.1
      obtain ⟨X, hX⟩ : ∃ X, (gl ((bl s).drop k)).1 = X := ⟨_, rfl⟩
      obtain ⟨Y, hY⟩ : ∃ Y, (gl ((bl s).drop k)).2 = Y := ⟨_, rfl⟩
      rw [hX, hY] at c
      have hdl : ((bl s).drop k).length = s.size - k := by rw [List.length_drop, HBS.out]
      rw [hdl, hY] at hp
      have C := Lib.hid c; clear c
      have HY := Lib.hid hY; clear hY
      clear hX hdl hTr
      have hy0 := hp.1
      have hy1 : Y ≤ s.size - k := by have := hp.2.1; omega
      clear hp
      by_cases hz : Y = 0
      · have hA : A = n ∧ B = k := by
          have := HK.out.stop (by rw [HY.out]; exact hz)
          have hr := HR.out
          rw [this] at hr
          exact hr
        obtain ⟨rfl, rfl⟩ := hA
        have hzb : (Y == 0) = true := by simp [hz]
        clear hz
        go_wp2_with (go_at_call 49; refine C.out.mono ?_; rintro e w1 ⟨rfl, hb1⟩)
        go_ret2
        exact ⟨rfl, hb.trans (hb1.mono hb.size)⟩
      · have hzb : (Y == 0) = false := by simp [hz]
        have hst := HK.out.step (by rw [HY.out]; exact hz)
        rw [HY.out] at hst
        have HS := Lib.hid hst; clear hst
        have hyp : 1 ≤ Y := by omega
        clear hz
        go_wp2_with (go_at_call 49; refine C.out.mono ?_; rintro e w1 ⟨rfl, hb1⟩)
        go_roundg (s.size - (k + Y.toNat))
        case measure => omega
        case rel => exact ⟨n + 1, k + Y.toNat, by omega, by go_num, congrArg (Value.int .i64) (by omega), hb.trans (hb1.mono hb.size), HS⟩
    · have hA : A = n ∧ B = k := by
        have := HK.out.whole (by rw [HBS.out]; omega)
        have hr := HR.out
        rw [this] at hr
        exact hr
      obtain ⟨rfl, rfl⟩ := hA
      go_wp2
      go_ret2
      exact ⟨rfl, hb⟩
theorem urun (s : ByteArray) (w : World) (hs : s.size ≤ 9223372036854775807) (hT : Tabs w) :
    Calls Tryd.prog 48 #[.string s] w fun e w' => e = .returned (.tuple #[.int .i64 (runL (bl s)).1, .int .i64 (runL (bl s)).2]) ∧ Below w.heap.size w w' :=
  urun0 s w _ _ hs hT (Lib.hid ⟨rfl, rfl⟩)
/-- **utf.Bad at every string.** -/
theorem ubad (s : ByteArray) (w : World) (hs : s.size ≤ 9223372036854775807) (hT : Tabs w) :
    Calls Tryd.prog 36 #[.string s] w fun e w' => e = .returned (.int .i64 (badL (bl s))) ∧ Below w.heap.size w w' := by
  have c := urun s w hs hT
  clear hT
  unfold badL
  rw [bl_size]
  obtain ⟨n, hn⟩ : ∃ n, (runL (bl s)).1 = n := ⟨_, rfl⟩
  obtain ⟨k, hk⟩ : ∃ n, (runL (bl s)).2 = n := ⟨_, rfl⟩
  rw [hn, hk] at c
  rw [hk]
  have C := Lib.hid c
  clear hn hk c
  by_cases h : k < s.size
  · rw [if_pos h]
    go_enter Tryd.func36, Tryd.ntmps36
    go_wp2_with (go_at_call 48; refine C.out.mono ?_; rintro e w1 ⟨rfl, hb1⟩)
    go_ret
    exact ⟨rfl, hb1⟩
  · rw [if_neg h]
    go_enter Tryd.func36, Tryd.ntmps36
    go_wp2_with (go_at_call 48; refine C.out.mono ?_; rintro e w1 ⟨rfl, hb1⟩)
    go_ret
    exact ⟨rfl, hb1⟩

/-! ### galliardref01.Bad -/
theorem size_from (s : ByteArray) (k : Nat) : (s.extract k s.size).size ≤ s.size := by
  rw [← bl_size, bl_from, List.length_drop, bl_size]; omega
set_option maxHeartbeats 1000000 in
theorem rbad0 (s : ByteArray) (w : World) (A : Int) (hs : s.size ≤ 9223372036854775807) (HR : Hid (A = badL (bl s))) :
    Calls Tryd.prog 13 #[.string s] w fun e w' => e = .returned (.int .i64 A) ∧ Below w.heap.size w w' := by
  have HBS := Lib.hid (bl_size s)
  go_enter Tryd.func13, Tryd.ntmps13
  go_wp2
  go_loopg [3] s.size (fun g e wr => ∃ (n k : Nat), g + k = s.size ∧ e = .int .i64 k ∧ Below w.heap.size w wr ∧ Hid (Gone (bl s) n k))
  case atStart => exact ⟨0, 0, rfl, rfl, Below.refl _ _, Lib.hid (Gone.start _)⟩
  case round =>
    obtain ⟨n, k, hg, rfl, hb, HK⟩ := hrel
    by_cases hin : (k : Int) < (s.size : Int)
    · have c := rget (s.extract k s.size) wr (Nat.le_trans (size_from s k) hs)
      rw [bl_from] at c
      have hp := gl_pos ((bl s).drop k)
      obtain ⟨X, hX⟩ : ∃ X, (gl ((bl s).drop k)).1 = X := ⟨_, rfl⟩
      obtain ⟨Y, hY⟩ : ∃ Y, (gl ((bl s).drop k)).2 = Y := ⟨_, rfl⟩
      rw [hX, hY] at c
      have hdl : ((bl s).drop k).length = s.size - k := by rw [List.length_drop, HBS.out]
      rw [hdl, hY] at hp
      have C := Lib.hid c; clear c
      have HY := Lib.hid hY; clear hY
      clear hX hdl
      have hy0 := hp.1
      have hy1 : Y ≤ s.size - k := by have := hp.2.1; omega
      clear hp
      by_cases hz : Y = 0
      · have hA : A = k := by
          have := HK.out.stop (by rw [HY.out]; exact hz)
          have hr := HR.out
          unfold badL at hr
          rw [this, if_pos (by rw [HBS.out]; simp only; omega)] at hr
          exact hr
        subst hA
        have hzb : (Y == 0) = true := by simp [hz]
        clear hz
        go_wp2_with (go_at_call 14; refine C.out.mono ?_; rintro e w1 ⟨rfl, hb1⟩)
        go_ret
        exact ⟨rfl, hb.trans (hb1.mono hb.size)⟩
      · have hzb : (Y == 0) = false := by simp [hz]
        have hst := HK.out.step (by rw [HY.out]; exact hz)
        rw [HY.out] at hst
        have HS := Lib.hid hst; clear hst
        have hyp : 1 ≤ Y := by omega
        clear hz
        go_wp2_with (go_at_call 14; refine C.out.mono ?_; rintro e w1 ⟨rfl, hb1⟩)
        go_roundg (s.size - (k + Y.toNat))
        case measure => omega
        case rel => exact ⟨n + 1, k + Y.toNat, by omega, congrArg (Value.int .i64) (by omega), hb.trans (hb1.mono hb.size), HS⟩
    · have hA : A = -1 := by
        have := HK.out.whole (by rw [HBS.out]; omega)
        have hr := HR.out
        unfold badL at hr
        rw [this, if_neg (by rw [HBS.out]; simp only; omega)] at hr
        exact hr
      subst hA
      go_wp2
      go_ret
      exact ⟨rfl, hb⟩
theorem rbad (s : ByteArray) (w : World) (hs : s.size ≤ 9223372036854775807) :
    Calls Tryd.prog 13 #[.string s] w fun e w' => e = .returned (.int .i64 (badL (bl s))) ∧ Below w.heap.size w w' :=
  rbad0 s w _ hs (Lib.hid rfl)

/-! ### small words -/
theorem min8 (n k : Nat) : ∃ m : Nat, m ≤ n ∧ m ≤ k ∧ (m = n ∨ m = k) ∧ Hid (min (n : Int) (k : Int) = (m : Int)) ∧ Hid (min m n = m) :=
  ⟨min n k, by omega, by omega, by omega, Lib.hid (by omega), Lib.hid (by omega)⟩
theorem cut_bl (s : ByteArray) (m : Nat) : bl (s.extract 0 m) = (bl s).take m := sub_list s m

end Go.Proofs.YtincdacickhdkaaDoor
namespace Go.Proofs.YtincdacickhdkaaDoor
open Go.RowKit
set_option maxRecDepth 100000

/-! ### one byte -/
set_option maxHeartbeats 1000000 in
theorem cstart_yes (c : Int) (w : World) (h : (97 ≤ c ∧ c ≤ 122) ∨ (65 ≤ c ∧ c ≤ 90) ∨ c = 95 ∨ (128 ≤ c ∧ c < 256)) :
    Calls Tryd.prog 34 #[.int .u8 c] w fun e w' => e = .returned (.bool true) ∧ w = w' := by
  rcases h with ⟨h1, h2⟩ | ⟨h1, h2⟩ | rfl | ⟨h1, h2⟩
  · go_enter Tryd.func34, Tryd.ntmps34
    go_wp2
    go_ret
    exact ⟨rfl, rfl⟩
  · have h3 : ¬ 97 ≤ c := by omega
    go_enter Tryd.func34, Tryd.ntmps34
    go_wp2
    go_ret
    exact ⟨rfl, rfl⟩
  · go_enter Tryd.func34, Tryd.ntmps34
    go_wp2
    go_ret
    exact ⟨rfl, rfl⟩
  · have h3 : ¬ c ≤ 122 := by omega
    have h4 : ¬ c ≤ 90 := by omega
    have h5 : (c == 95) = false := by simp; omega
    go_enter Tryd.func34, Tryd.ntmps34
    go_wp2
    go_ret
    exact ⟨rfl, rfl⟩
set_option maxHeartbeats 1000000 in
theorem cstart_no (c : Int) (w : World) (h0 : 0 ≤ c) (h : c < 65 ∨ (91 ≤ c ∧ c ≤ 94) ∨ c = 96 ∨ (123 ≤ c ∧ c ≤ 127)) :
    Calls Tryd.prog 34 #[.int .u8 c] w fun e w' => e = .returned (.bool false) ∧ w = w' := by
  have h5 : (c == 95) = false := by simp; omega
  have d1 : decide (128 ≤ c) = false := decide_eq_false (by omega)
  rcases h with h1 | ⟨h1, h2⟩ | rfl | ⟨h1, h2⟩
  · go_enter Tryd.func34, Tryd.ntmps34
    go_wp2
    go_ret
    exact ⟨rfl, rfl⟩
  · have d2 : decide (c ≤ 90) = false := decide_eq_false (by omega)
    go_enter Tryd.func34, Tryd.ntmps34
    go_wp2
    go_ret
    exact ⟨rfl, rfl⟩
  · go_enter Tryd.func34, Tryd.ntmps34
    go_wp2
    go_ret
    exact ⟨rfl, rfl⟩
  · have d2 : decide (c ≤ 90) = false := decide_eq_false (by omega)
    have d3 : decide (c ≤ 122) = false := decide_eq_false (by omega)
    go_enter Tryd.func34, Tryd.ntmps34
    go_wp2
    go_ret
    exact ⟨rfl, rfl⟩
/-- **chars.Start at every byte.** -/
theorem cstart (c : Int) (w : World) (h0 : 0 ≤ c) (h1 : c < 256) :
    Calls Tryd.prog 34 #[.int .u8 c] w fun e w' => e = .returned (.bool (startB c)) ∧ w = w' := by
  cases h : startB c with
  | true => unfold startB at h; have := of_decide_eq_true h; exact cstart_yes c w (by omega)
  | false => unfold startB at h; have := of_decide_eq_false h; exact cstart_no c w h0 (by omega)
set_option maxHeartbeats 1000000 in
/-- **chars.Part at every byte.** -/
theorem cpart (c : Int) (w : World) (h0 : 0 ≤ c) (h1 : c < 256) :
    Calls Tryd.prog 35 #[.int .u8 c] w fun e w' => e = .returned (.bool (partB c)) ∧ w = w' := by
  by_cases hs : startB c = true
  · have C := Lib.hid (fun w => cstart c w h0 h1)
    rw [start_part hs]
    rw [hs] at C
    clear hs
    go_enter Tryd.func35, Tryd.ntmps35
    go_wp2_with (go_at_call 34; refine (C.out _).mono ?_; rintro e w' ⟨rfl, rfl⟩)
    go_ret
    exact ⟨rfl, rfl⟩
  · have hs' : startB c = false := by simpa using hs
    have C := Lib.hid (fun w => cstart c w h0 h1)
    rw [hs'] at C
    have hr : ¬ ((97 ≤ c ∧ c ≤ 122) ∨ (65 ≤ c ∧ c ≤ 90) ∨ c = 95 ∨ 128 ≤ c) := by unfold startB at hs'; exact of_decide_eq_false hs'
    clear hs hs'
    have hc : c < 45 ∨ c = 45 ∨ c = 46 ∨ c = 47 ∨ (48 ≤ c ∧ c ≤ 57) ∨ 58 ≤ c := by omega
    rcases hc with h | rfl | rfl | rfl | ⟨h, h'⟩ | h
    · rw [show partB c = false by unfold partB; apply decide_eq_false; omega]
      have h5 : (c == 45) = false := by simp; omega
      have h6 : (c == 46) = false := by simp; omega
      clear hr
      go_enter Tryd.func35, Tryd.ntmps35
      go_wp2_with (go_at_call 34; refine (C.out _).mono ?_; rintro e w' ⟨rfl, rfl⟩)
      go_ret
      exact ⟨rfl, rfl⟩
    · clear hr
      go_enter Tryd.func35, Tryd.ntmps35
      go_wp2_with (go_at_call 34; refine (C.out _).mono ?_; rintro e w' ⟨rfl, rfl⟩)
      go_ret
      exact ⟨rfl, rfl⟩
    · clear hr
      go_enter Tryd.func35, Tryd.ntmps35
      go_wp2_with (go_at_call 34; refine (C.out _).mono ?_; rintro e w' ⟨rfl, rfl⟩)
      go_ret
      exact ⟨rfl, rfl⟩
    · clear hr
      go_enter Tryd.func35, Tryd.ntmps35
      go_wp2_with (go_at_call 34; refine (C.out _).mono ?_; rintro e w' ⟨rfl, rfl⟩)
      go_ret
      exact ⟨rfl, rfl⟩
    · rw [show partB c = true by unfold partB; apply decide_eq_true; omega]
      clear hr
      go_enter Tryd.func35, Tryd.ntmps35
      go_wp2_with (go_at_call 34; refine (C.out _).mono ?_; rintro e w' ⟨rfl, rfl⟩)
      go_ret
      exact ⟨rfl, rfl⟩
    · rw [show partB c = false by unfold partB; apply decide_eq_false; omega]
      have h5 : (c == 45) = false := by simp; omega
      have h6 : (c == 46) = false := by simp; omega
      have d1 : decide (c ≤ 57) = false := decide_eq_false (by omega)
      clear hr
      go_enter Tryd.func35, Tryd.ntmps35
      go_wp2_with (go_at_call 34; refine (C.out _).mono ?_; rintro e w' ⟨rfl, rfl⟩)
      go_ret
      exact ⟨rfl, rfl⟩
/-! ### letters -/
set_option maxHeartbeats 2000000 in
/-- **chars.Letter at every number.** -/
theorem cletter (r : Int) (w : World) :
    Calls Tryd.prog 50 #[.int .i64 r] w fun e w' => e = .returned (.bool (letB r)) ∧ w = w' := by
  have hc : r = 9 ∨ r = 10 ∨ r = 13 ∨ r = 65534 ∨ r = 65535 ∨ (r < 32 ∧ r ≠ 9 ∧ r ≠ 10 ∧ r ≠ 13) ∨ (32 ≤ r ∧ r ≠ 65534 ∧ r ≠ 65535) := by omega
  rcases hc with rfl | rfl | rfl | rfl | rfl | ⟨h, h1, h2, h3⟩ | ⟨h, h1, h2⟩
  · go_enter Tryd.func50, Tryd.ntmps50
    go_wp2
    go_ret
    exact ⟨rfl, rfl⟩
  · go_enter Tryd.func50, Tryd.ntmps50
    go_wp2
    go_ret
    exact ⟨rfl, rfl⟩
  · go_enter Tryd.func50, Tryd.ntmps50
    go_wp2
    go_ret
    exact ⟨rfl, rfl⟩
  · go_enter Tryd.func50, Tryd.ntmps50
    go_wp2
    go_ret
    exact ⟨rfl, rfl⟩
  · go_enter Tryd.func50, Tryd.ntmps50
    go_wp2
    go_ret
    exact ⟨rfl, rfl⟩
  · rw [show letB r = false by rw [letB_not]; omega]
    have e1 : (r == 9) = false := by simp; omega
    have e2 : (r == 10) = false := by simp; omega
    have e3 : (r == 13) = false := by simp; omega
    have e4 : (r == 65534) = false := by simp; omega
    have e5 : (r == 65535) = false := by simp; omega
    clear h1 h2 h3
    go_enter Tryd.func50, Tryd.ntmps50
    go_wp2
    go_ret
    exact ⟨rfl, rfl⟩
  · have e1 : (r == 9) = false := by simp; omega
    have e2 : (r == 10) = false := by simp; omega
    have e3 : (r == 13) = false := by simp; omega
    have e4 : (r == 65534) = false := by simp; omega
    have e5 : (r == 65535) = false := by simp; omega
    have hm : letB r = mayB r := by
      unfold letB mayB
      by_cases hq : (0 ≤ r ∧ r < 55296) ∨ (57343 < r ∧ r ≤ 1114111)
      · rw [decide_eq_true hq]; apply decide_eq_true; omega
      · rw [decide_eq_false hq]; apply decide_eq_false; omega
    rw [hm]
    have C := Lib.hid (fun w => may_any r w)
    generalize mayB r = b at C
    clear h1 h2 hm
    go_enter Tryd.func50, Tryd.ntmps50
    go_wp2_with (go_at_call 63; refine (C.out _).mono ?_; rintro e w' ⟨rfl, rfl⟩)
    go_ret
    exact ⟨rfl, rfl⟩
set_option maxHeartbeats 2000000 in
theorem ctext0 (s : ByteArray) (w : World) (A : Int) (hs : s.size ≤ 9223372036854775807) (hT : Tabs w) (HR : Hid (A = textL (bl s))) :
    Calls Tryd.prog 37 #[.string s] w fun e w' => e = .returned (.int .i64 A) ∧ Below w.heap.size w w' := by
  have HBS := Lib.hid (bl_size s)
  have HT := Lib.hid hT; clear hT
  go_enter Tryd.func37, Tryd.ntmps37
  go_wp2
  go_loopg [3] s.size (fun g e wr => ∃ k : Nat, g + k = s.size ∧ e = .int .i64 k ∧ Below w.heap.size w wr ∧ Hid (Went (bl s) k))
  case atStart => exact ⟨0, rfl, rfl, Below.refl _ _, Lib.hid (Went.start _)⟩
  case round =>
    obtain ⟨k, hg, rfl, hb, HK⟩ := hrel
    by_cases hin : (k : Int) < (s.size : Int)
    · have hTr : Tabs wr := HT.out.below hb
      have c := uget_in s k wr (by omega) hTr
      have hp := gl_pos ((bl s).drop k)
      have hst := @Went.step (bl s) k HK.out
      have hsp := HK.out.stop
      have hlp := let_pos ((bl s).drop k)
      obtain ⟨X, hX⟩ : ∃ X, (gl ((bl s).drop k)).1 = X := ⟨_, rfl⟩
      obtain ⟨Y, hY⟩ : ∃ Y, (gl ((bl s).drop k)).2 = Y := ⟨_, rfl⟩
      rw [hX, hY] at c hlp
      rw [hX] at hsp hst
      rw [hY] at hst
      have hdl : ((bl s).drop k).length = s.size - k := by rw [List.length_drop, HBS.out]
      rw [hdl, hY] at hp
      have C := Lib.hid c; clear c
      have CL := Lib.hid (fun w => cletter X w)
      clear hX hdl hTr hY
      have hy0 := hp.1
      have hy1 : Y ≤ s.size - k := by have := hp.2.1; omega
      clear hp
      cases hl : letB X with
      | false =>
        have hA : A = k := HR.out.trans (hsp hl (by rw [HBS.out]; omega))
        rw [hl] at CL
        subst hA
        clear hl hlp hst hsp HR
        go_wp2_with (first | (go_at_call 49; refine C.out.mono ?_; rintro e w1 ⟨rfl, hb1⟩) | (go_at_call 50; refine (CL.out _).mono ?_; rintro e w1 ⟨rfl, rfl⟩))
        go_ret
        exact ⟨rfl, hb.trans (hb1.mono hb.size)⟩
      | true =>
        have HS := Lib.hid (hst hl)
        rw [hl] at CL
        have hyp := hlp hl
        clear hl hlp hst hsp
        go_wp2_with (first | (go_at_call 49; refine C.out.mono ?_; rintro e w1 ⟨rfl, hb1⟩) | (go_at_call 50; refine (CL.out _).mono ?_; rintro e w1 ⟨rfl, rfl⟩))
        go_roundg (s.size - (k + Y.toNat))
        case measure => omega
        case rel => exact ⟨k + Y.toNat, by omega, congrArg (Value.int .i64) (by omega), hb.trans (hb1.mono hb.size), HS⟩
    · have hA : A = -1 := HR.out.trans (HK.out.whole (by rw [HBS.out]; omega))
      subst hA
      clear HR
      go_wp2
      go_ret
      exact ⟨rfl, hb⟩
/-- **chars.Text at every string.** -/
theorem ctext (s : ByteArray) (w : World) (hs : s.size ≤ 9223372036854775807) (hT : Tabs w) :
    Calls Tryd.prog 37 #[.string s] w fun e w' => e = .returned (.int .i64 (textL (bl s))) ∧ Below w.heap.size w w' :=
  ctext0 s w _ hs hT (Lib.hid rfl)

/-! ### names -/
/-- The library's own variable holds some number. -/
def MaxL (w : World) : Prop := ∃ m : Int, w.cell? ⟨1, 0, none⟩ = some (.int .i64 m)
theorem MaxL.below {w w' : World} (h : MaxL w) (hb : Below w.heap.size w w') : MaxL w' := by
  obtain ⟨m, hm⟩ := h
  exact ⟨m, (hb.cell (World.block_lt_of_cell? _ _ hm)).trans hm⟩
theorem bl_empty (s : ByteArray) (h : s.size = 0) : s.toList.isEmpty = true := by
  rw [Lib.toList_data, show s.data.toList = [] from List.eq_nil_of_length_eq_zero (by rw [← Lib.size_eq]; exact h)]; rfl
theorem bl_more (s : ByteArray) (h : s.size ≠ 0) : s.toList.isEmpty = false := by
  rw [Lib.toList_data]
  cases e : s.data.toList with
  | nil => exact absurd (by rw [Lib.size_eq, e]; rfl) h
  | cons _ _ => rfl
set_option maxRecDepth 100000 in
set_option maxHeartbeats 2000000 in
theorem cname0 (s : ByteArray) (w : World) (A : Bool) (hs : s.size ≤ 9223372036854775807) (hT : Tabs w) (HR : Hid (A = nameL (bl s))) :
    Calls Tryd.prog 24 #[.string s] w fun e w' => e = .returned (.bool A) ∧ Below w.heap.size w w' := by
  have HBS := Lib.hid (bl_size s)
  have HT := Lib.hid hT; clear hT
  by_cases h0 : s.size = 0
  · have hA : A = false := HR.out.trans (name_none _ (.inl (by rw [HBS.out]; exact h0)))
    subst hA
    have hemp := bl_empty s h0
    clear h0 HR HBS
    go_enter Tryd.func24, Tryd.ntmps24
    go_wp2
    go_ret
    exact ⟨rfl, Below.refl _ _⟩
  have hemp := bl_more s h0
  by_cases h60 : 60 < s.size
  · have hA : A = false := HR.out.trans (name_none _ (.inr (.inl (by rw [HBS.out]; exact h60))))
    subst hA
    have h60' : (60 : Int) < (s.size : Int) := by omega
    clear h60 h0 HR HBS
    go_enter Tryd.func24, Tryd.ntmps24
    go_wp2
    go_ret
    exact ⟨rfl, Below.refl _ _⟩
  have h60' : decide ((60 : Int) < (s.size : Int)) = false := decide_eq_false (by omega)
  have h61 : (s.size : Int) ≤ 60 := by omega
  have h01 : (0 : Int) < (s.size : Int) := by omega
  have Hn0 := Lib.hid h0
  have H60 := Lib.hid h60
  have h02 : 0 < s.size := by omega
  clear h0 h60
  obtain ⟨x0, hx0⟩ : ∃ x, s[0]'h02 = x := ⟨_, rfl⟩
  have hn0 : nth (bl s) 0 = x0.toNat := by rw [nth_get s 0 h02, hx0]
  have l0 : (x0.toNat : Int) < 256 := by have := UInt8.toNat_lt x0; omega
  have CS := Lib.hid (fun w => cstart (x0.toNat : Int) w (by omega) l0)
  cases hst : startB (x0.toNat : Int) with
  | false =>
    have hA : A = false := HR.out.trans (name_none _ (.inr (.inr (.inl (by rw [hn0]; exact hst)))))
    subst hA
    rw [hst] at CS
    clear HR hst hn0
    go_enter Tryd.func24, Tryd.ntmps24
    go_wp2_with (go_at_call 34; refine (CS.out _).mono ?_; rintro e w' ⟨rfl, rfl⟩)
    go_ret
    exact ⟨rfl, Below.refl _ _⟩
  | true =>
    have HS : Hid (startB (nth (bl s) 0) = true) := Lib.hid (by rw [hn0]; exact hst)
    rw [hst] at CS
    clear hst hn0
    go_enter Tryd.func24, Tryd.ntmps24
    go_wp2_with (go_at_call 34; refine (CS.out _).mono ?_; rintro e w' ⟨rfl, rfl⟩)
    go_loop [19] (fun i => ∃ k : Nat, k ≤ s.size ∧ i = .int .i64 k ∧ Hid (Parts (bl s) k)) (fun i => s.size - (intOf i).toNat)
    case atStart => exact ⟨0, by omega, rfl, Lib.hid (Parts.start _)⟩
    case round =>
      obtain ⟨k, hk, rfl, HK⟩ := hrel
      by_cases hin : k < s.size
      · have hin' : (k : Int) < (s.size : Int) := by omega
        obtain ⟨x, hx⟩ : ∃ x, s[k]'hin = x := ⟨_, rfl⟩
        have hn : nth (bl s) k = x.toNat := by rw [nth_get s k hin, hx]
        have l1 : (x.toNat : Int) < 256 := by have := UInt8.toNat_lt x; omega
        have CP := Lib.hid (fun w => cpart (x.toNat : Int) w (by omega) l1)
        cases hp : partB (x.toNat : Int) with
        | false =>
          have hA : A = false := HR.out.trans (name_bad _ k (by rw [HBS.out]; exact hin) (by rw [hn]; exact hp))
          subst hA
          rw [hp] at CP
          clear HR hp hn
          go_wp2_with (go_at_call 35; refine (CP.out _).mono ?_; rintro e w' ⟨rfl, rfl⟩)
          go_ret
          exact ⟨rfl, Below.refl _ _⟩
        | true =>
          have HN := Lib.hid (HK.out.step (by rw [hn]; exact hp))
          rw [hp] at CP
          clear hp hn
          go_wp2_with (go_at_call 35; refine (CP.out _).mono ?_; rintro e w' ⟨rfl, rfl⟩)
          go_round
          case rel => exact ⟨k + 1, by omega, by go_num, HN⟩
          case measure => simp [intOf]; omega
      · obtain rfl : k = s.size := by omega
        have hA : A = decide (badL (bl s) < 0) := HR.out.trans (name_yes _ (by rw [HBS.out]; exact Hn0.out) (by rw [HBS.out]; have := H60.out; omega) HS.out (by rw [HBS.out]; exact HK.out))
        have c := ubad s w hs HT.out
        generalize badL (bl s) = B at hA c
        subst hA
        have C := Lib.hid c
        clear c HR hk hin
        go_wp2_with (go_at_call 36; refine C.out.mono ?_; rintro e w' ⟨rfl, hb⟩)
        go_ret
        exact ⟨rfl, hb⟩
/-- **chars.Name at every string.** -/
theorem cname (s : ByteArray) (w : World) (hs : s.size ≤ 9223372036854775807) (hT : Tabs w) :
    Calls Tryd.prog 24 #[.string s] w fun e w' => e = .returned (.bool (nameL (bl s))) ∧ Below w.heap.size w w' :=
  cname0 s w _ hs hT (Lib.hid rfl)

/-! ### blanks at the ends -/
set_option maxHeartbeats 1000000 in
/-- **chars.Trim at every string.** -/
theorem ctrim (s : ByteArray) (w : World) (hs : s.size ≤ 9223372036854775807) :
    Calls Tryd.prog 27 #[.string s] w fun e w' => e = .returned (.string (trimmed s)) ∧ Below w.heap.size w w' := by
  have hcon := Any.strings_Trim_laid Tryd.lays160 (by kernel_rfl) s ⟨#[32, 9, 10, 13]⟩ w hs (by decide) (ascii_of_all (by decide))
  change Calls Tryd.prog 40 _ _ (fun e w' => e = .returned (.string (trimmed s)) ∧ Below w.heap.size w w') at hcon
  generalize trimmed s = r at hcon ⊢
  have C := Lib.hid hcon; clear hcon
  go_enter Tryd.func27, Tryd.ntmps27
  go_wp2_with (go_at_call 40; refine C.out.mono ?_; rintro e w' ⟨rfl, hb⟩)
  go_ret
  exact ⟨rfl, hb⟩
/-! ### a colon -/
end Go.Proofs.YtincdacickhdkaaDoor
