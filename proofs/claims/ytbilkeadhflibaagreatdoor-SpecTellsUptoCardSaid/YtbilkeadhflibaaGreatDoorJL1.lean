import Derived.Shelf.Strings.OnBuilder
import Derived.Shelf.Strconv.Itoa3
import Derived.Ground.MpProg
import Derived.Shelf.Pu.ParseUintPublic10
import Derived.Test.YtbilkeadhflibaaGreatDoorProg
import Derived.WalkKit
import Derived.WalkSpells
import Derived.WalkLawsBesides
import Derived.Laws.BytesArg
import Derived.Lib.Hide
import Derived.Defers
import Derived.Recover
import Derived.Deep.RegionHeld3
import Derived.BigQuiet
import Derived.Deep.QuietTactic
import Derived.Lib.Strings
import Derived.Deep.OwnRows
import Derived.Deep.LoopGhost
import Derived.Laws.Strings3
import Derived.Lib.Walk
import Derived.Lib.Split
import Derived.ChangeKeysEq
import Derived.Lib.Mul64
import Derived.Shelf.Bits.Mul64
import Derived.RegionTactic
import Derived.ChangeAlike
import Derived.Lib.Join
import Derived.Lib.DecodeN
import Derived.Lib.RuneCount
import Derived.Lib.Bytealg
import Derived.Lib.IndexLaws
import Derived.Test.YtbilkeadhflibaaGreatDoorRows
import Derived.ProofKit
import Derived.OpenShut
import Derived.SizedLaws
import Derived.Below
import Derived.Deep.Strs
/- Which numbers of this program the library's own contracts speak of (made by program for this seat: shelf.py). -/
namespace Go.Proofs.YtbilkeadhflibaaGreatDoor.LaidJ
open Go.Shelf
def lays156_ren : Go.Shelf.Ren := ⟨fun | 156 => 59 | 165 => 99 | 166 => 100 | 169 => 101 | 240 => 131 | 241 => 132 | 276 => 148 | 277 => 149 | n => n, fun | 31 => 28 | 9 => 9 | 3 => 3 | 4 => 4 | 0 => 0 | 20 => 20 | 72 => 136 | 76 => 140 | 70 => 134 | 37 => 56 | 75 => 139 | 127 => 161 | 164 => 180 | 5 => 5 | 80 => 142 | n => n, fun | n => n⟩
theorem lays156 : Go.Proofs.Lays.n156 Tryz.prog lays156_ren := {
  mixed := by kernel_rfl
  f156 := Tryz.func59.trans (congrArg some (by kernel_rfl))
  f165 := Tryz.func99.trans (congrArg some (by kernel_rfl))
  f166 := Tryz.func100.trans (congrArg some (by kernel_rfl))
  f169 := Tryz.func101.trans (congrArg some (by kernel_rfl))
  f240 := Tryz.func131.trans (congrArg some (by kernel_rfl))
  f241 := Tryz.func132.trans (congrArg some (by kernel_rfl))
  f276 := Tryz.func148.trans (congrArg some (by kernel_rfl))
  f277 := Tryz.func149.trans (congrArg some (by kernel_rfl))
  t0 := Tryz.underlying0
  a0 := Tryz.isAgg0
  z0 := Tryz.sizeOf0
  v0 := Tryz.zeroValue0
  t3 := Tryz.underlying3
  a3 := Tryz.isAgg3
  z3 := Tryz.sizeOf3
  v3 := Tryz.zeroValue3
  t4 := Tryz.underlying4
  a4 := Tryz.isAgg4
  z4 := Tryz.sizeOf4
  v4 := Tryz.zeroValue4
  t9 := Tryz.underlying9
  a9 := Tryz.isAgg9
  z9 := Tryz.sizeOf9
  v9 := Tryz.zeroValue9
  t20 := Tryz.underlying20
  a20 := Tryz.isAgg20
  z20 := Tryz.sizeOf20
  v20 := Tryz.zeroValue20
  t31 := Tryz.underlying28
  a31 := Tryz.isAgg28
  z31 := Tryz.sizeOf28
  v31 := Tryz.zeroValue28
  t37 := Tryz.underlying56
  a37 := Tryz.isAgg56
  z37 := Tryz.sizeOf56
  v37 := Tryz.zeroValue56
  t70 := Tryz.underlying134
  a70 := Tryz.isAgg134
  z70 := Tryz.sizeOf134
  v70 := Tryz.zeroValue134
  t72 := Tryz.underlying136
  a72 := Tryz.isAgg136
  z72 := Tryz.sizeOf136
  v72 := Tryz.zeroValue136
  t75 := Tryz.underlying139
  a75 := Tryz.isAgg139
  z75 := Tryz.sizeOf139
  v75 := Tryz.zeroValue139
  t76 := Tryz.underlying140
  a76 := Tryz.isAgg140
  z76 := Tryz.sizeOf140
  v76 := Tryz.zeroValue140
  t127 := Tryz.underlying161
  a127 := Tryz.isAgg161
  z127 := Tryz.sizeOf161
  v127 := Tryz.zeroValue161
  t164 := Tryz.underlying180
  a164 := Tryz.isAgg180
  z164 := Tryz.sizeOf180
  v164 := Tryz.zeroValue180 }
theorem Builder_Extra_156 : Builder.Extra Tryz.prog lays156_ren := {
  sizeBuilder := by kernel_rfl
  liesBuilder := by kernel_rfl
  t5 := Tryz.underlying5
  a5 := Tryz.isAgg5
  z5 := Tryz.sizeOf5
  v5 := Tryz.zeroValue5
  infoByte := by kernel_rfl
  cellsByte := by kernel_rfl
  sizeByte := by kernel_rfl
  neB5 := by decide }
def lays283_ren : Go.Shelf.Ren := ⟨fun | 283 => 144 | n => n, fun | 3 => 3 | 9 => 9 | 4 => 4 | n => n, fun | n => n⟩
theorem lays283 : Go.Proofs.Lays.n283 Tryz.prog lays283_ren := {
  mixed := by kernel_rfl
  f283 := Tryz.func144.trans (congrArg some (by kernel_rfl))
  t3 := Tryz.underlying3
  a3 := Tryz.isAgg3
  z3 := Tryz.sizeOf3
  v3 := Tryz.zeroValue3
  t4 := Tryz.underlying4
  a4 := Tryz.isAgg4
  z4 := Tryz.sizeOf4
  v4 := Tryz.zeroValue4
  t9 := Tryz.underlying9
  a9 := Tryz.isAgg9
  z9 := Tryz.sizeOf9
  v9 := Tryz.zeroValue9 }
def laysM284_ren : Go.Shelf.Ren := ⟨fun | 284 => 145 | 129 => 164 | 317 => 163 | 318 => 165 | n => n, fun | 53 => 22 | 3 => 3 | 212 => 194 | 0 => 0 | 4 => 4 | 46 => 130 | 5 => 5 | 9 => 9 | n => n, fun | 17 => 1 | n => n⟩
theorem laysM284 : Go.Proofs.LaysM.n284 Tryz.prog laysM284_ren := {
  mixed := by kernel_rfl
  f129 := Tryz.func164.trans (congrArg some (by kernel_rfl))
  f284 := Tryz.func145.trans (congrArg some (by kernel_rfl))
  f317 := Tryz.func163.trans (congrArg some (by kernel_rfl))
  f318 := Tryz.func165.trans (congrArg some (by kernel_rfl))
  t0 := Tryz.underlying0
  a0 := Tryz.isAgg0
  z0 := Tryz.sizeOf0
  v0 := Tryz.zeroValue0
  t3 := Tryz.underlying3
  a3 := Tryz.isAgg3
  z3 := Tryz.sizeOf3
  v3 := Tryz.zeroValue3
  t4 := Tryz.underlying4
  a4 := Tryz.isAgg4
  z4 := Tryz.sizeOf4
  v4 := Tryz.zeroValue4
  t5 := Tryz.underlying5
  a5 := Tryz.isAgg5
  z5 := Tryz.sizeOf5
  v5 := Tryz.zeroValue5
  t9 := Tryz.underlying9
  a9 := Tryz.isAgg9
  z9 := Tryz.sizeOf9
  v9 := Tryz.zeroValue9
  t46 := Tryz.underlying130
  a46 := Tryz.isAgg130
  z46 := Tryz.sizeOf130
  v46 := Tryz.zeroValue130
  t53 := Tryz.underlying22
  a53 := Tryz.isAgg22
  z53 := Tryz.sizeOf22
  v53 := Tryz.zeroValue22
  t212 := Tryz.underlying194
  a212 := Tryz.isAgg194
  z212 := Tryz.sizeOf194
  v212 := Tryz.zeroValue194
  g17 := by kernel_rfl
  i0 := by kernel_rfl
  i3 := by kernel_rfl
  i4 := by kernel_rfl
  i5 := by kernel_rfl
  i9 := by kernel_rfl
  i46 := by kernel_rfl
  i53 := by kernel_rfl
  i212 := by kernel_rfl
  m17 := by kernel_rfl }
def lays285_ren : Go.Shelf.Ren := ⟨fun | 285 => 146 | n => n, fun | 37 => 56 | 53 => 22 | 3 => 3 | 4 => 4 | 51 => 195 | 9 => 9 | 5 => 5 | 0 => 0 | n => n, fun | n => n⟩
theorem lays285 : Go.Proofs.Lays.n285 Tryz.prog lays285_ren := {
  mixed := by kernel_rfl
  f285 := Tryz.func146.trans (congrArg some (by kernel_rfl))
  t0 := Tryz.underlying0
  a0 := Tryz.isAgg0
  z0 := Tryz.sizeOf0
  v0 := Tryz.zeroValue0
  t3 := Tryz.underlying3
  a3 := Tryz.isAgg3
  z3 := Tryz.sizeOf3
  v3 := Tryz.zeroValue3
  t4 := Tryz.underlying4
  a4 := Tryz.isAgg4
  z4 := Tryz.sizeOf4
  v4 := Tryz.zeroValue4
  t5 := Tryz.underlying5
  a5 := Tryz.isAgg5
  z5 := Tryz.sizeOf5
  v5 := Tryz.zeroValue5
  t9 := Tryz.underlying9
  a9 := Tryz.isAgg9
  z9 := Tryz.sizeOf9
  v9 := Tryz.zeroValue9
  t37 := Tryz.underlying56
  a37 := Tryz.isAgg56
  z37 := Tryz.sizeOf56
  v37 := Tryz.zeroValue56
  t51 := Tryz.underlying195
  a51 := Tryz.isAgg195
  z51 := Tryz.sizeOf195
  v51 := Tryz.zeroValue195
  t53 := Tryz.underlying22
  a53 := Tryz.isAgg22
  z53 := Tryz.sizeOf22
  v53 := Tryz.zeroValue22 }
def laysM171_ren : Go.Shelf.Ren := ⟨fun | 171 => 58 | 243 => 98 | 246 => 130 | 283 => 144 | 284 => 145 | 285 => 146 | 286 => 147 | 129 => 164 | 317 => 163 | 318 => 165 | 319 => 166 | 320 => 167 | 337 => 177 | 338 => 178 | n => n, fun | 3 => 3 | 9 => 9 | 2 => 2 | 4 => 4 | 171 => 176 | 0 => 0 | 53 => 22 | 37 => 56 | 5 => 5 | 173 => 178 | 212 => 194 | 51 => 195 | 20 => 20 | 213 => 196 | 46 => 130 | 232 => 212 | 233 => 213 | n => n, fun | 17 => 1 | 18 => 7 | 19 => 8 | n => n⟩
theorem laysM171 : Go.Proofs.LaysM.n171 Tryz.prog laysM171_ren := {
  mixed := by kernel_rfl
  f129 := Tryz.func164.trans (congrArg some (by kernel_rfl))
  f171 := Tryz.func58.trans (congrArg some (by kernel_rfl))
  f243 := Tryz.func98.trans (congrArg some (by kernel_rfl))
  f246 := Tryz.func130.trans (congrArg some (by kernel_rfl))
  f283 := Tryz.func144.trans (congrArg some (by kernel_rfl))
  f284 := Tryz.func145.trans (congrArg some (by kernel_rfl))
  f285 := Tryz.func146.trans (congrArg some (by kernel_rfl))
  f286 := Tryz.func147.trans (congrArg some (by kernel_rfl))
  f317 := Tryz.func163.trans (congrArg some (by kernel_rfl))
  f318 := Tryz.func165.trans (congrArg some (by kernel_rfl))
  f319 := Tryz.func166.trans (congrArg some (by kernel_rfl))
  f320 := Tryz.func167.trans (congrArg some (by kernel_rfl))
  f337 := Tryz.func177.trans (congrArg some (by kernel_rfl))
  f338 := Tryz.func178.trans (congrArg some (by kernel_rfl))
  t0 := Tryz.underlying0
  a0 := Tryz.isAgg0
  z0 := Tryz.sizeOf0
  v0 := Tryz.zeroValue0
  t2 := Tryz.underlying2
  a2 := Tryz.isAgg2
  z2 := Tryz.sizeOf2
  v2 := Tryz.zeroValue2
  t3 := Tryz.underlying3
  a3 := Tryz.isAgg3
  z3 := Tryz.sizeOf3
  v3 := Tryz.zeroValue3
  t4 := Tryz.underlying4
  a4 := Tryz.isAgg4
  z4 := Tryz.sizeOf4
  v4 := Tryz.zeroValue4
  t5 := Tryz.underlying5
  a5 := Tryz.isAgg5
  z5 := Tryz.sizeOf5
  v5 := Tryz.zeroValue5
  t9 := Tryz.underlying9
  a9 := Tryz.isAgg9
  z9 := Tryz.sizeOf9
  v9 := Tryz.zeroValue9
  t20 := Tryz.underlying20
  a20 := Tryz.isAgg20
  z20 := Tryz.sizeOf20
  v20 := Tryz.zeroValue20
  t37 := Tryz.underlying56
  a37 := Tryz.isAgg56
  z37 := Tryz.sizeOf56
  v37 := Tryz.zeroValue56
  t46 := Tryz.underlying130
  a46 := Tryz.isAgg130
  z46 := Tryz.sizeOf130
  v46 := Tryz.zeroValue130
  t51 := Tryz.underlying195
  a51 := Tryz.isAgg195
  z51 := Tryz.sizeOf195
  v51 := Tryz.zeroValue195
  t53 := Tryz.underlying22
  a53 := Tryz.isAgg22
  z53 := Tryz.sizeOf22
  v53 := Tryz.zeroValue22
  t171 := Tryz.underlying176
  a171 := Tryz.isAgg176
  z171 := Tryz.sizeOf176
  v171 := Tryz.zeroValue176
  t173 := Tryz.underlying178
  a173 := Tryz.isAgg178
  z173 := Tryz.sizeOf178
  v173 := Tryz.zeroValue178
  t212 := Tryz.underlying194
  a212 := Tryz.isAgg194
  z212 := Tryz.sizeOf194
  v212 := Tryz.zeroValue194
  t213 := Tryz.underlying196
  a213 := Tryz.isAgg196
  z213 := Tryz.sizeOf196
  t232 := Tryz.underlying212
  a232 := Tryz.isAgg212
  z232 := Tryz.sizeOf212
  v232 := Tryz.zeroValue212
  t233 := Tryz.underlying213
  a233 := Tryz.isAgg213
  z233 := Tryz.sizeOf213
  v233 := Tryz.zeroValue213
  g17 := by kernel_rfl
  g18 := by kernel_rfl
  g19 := by kernel_rfl
  i0 := by kernel_rfl
  i2 := by kernel_rfl
  i3 := by kernel_rfl
  i4 := by kernel_rfl
  i5 := by kernel_rfl
  i9 := by kernel_rfl
  i20 := by kernel_rfl
  i37 := by kernel_rfl
  i46 := by kernel_rfl
  i51 := by kernel_rfl
  i53 := by kernel_rfl
  i171 := by kernel_rfl
  i173 := by kernel_rfl
  i212 := by kernel_rfl
  i232 := by kernel_rfl
  i233 := by kernel_rfl
  m17 := by kernel_rfl
  m18 := by kernel_rfl
  m19 := by kernel_rfl }
def lays171_ren : Go.Shelf.Ren := ⟨fun | 171 => 58 | 243 => 98 | 246 => 130 | 283 => 144 | 284 => 145 | 285 => 146 | 286 => 147 | 129 => 164 | 317 => 163 | 318 => 165 | 319 => 166 | 320 => 167 | 337 => 177 | 338 => 178 | n => n, fun | 3 => 3 | 9 => 9 | 2 => 2 | 4 => 4 | 171 => 176 | 0 => 0 | 53 => 22 | 37 => 56 | 5 => 5 | 173 => 178 | 212 => 194 | 51 => 195 | 20 => 20 | 213 => 196 | 46 => 130 | 232 => 212 | 233 => 213 | n => n, fun | 17 => 1 | 18 => 7 | 19 => 8 | n => n⟩
theorem lays171 : Go.Proofs.Lays.n171 Tryz.prog lays171_ren := {
  mixed := by kernel_rfl
  f129 := Tryz.func164.trans (congrArg some (by kernel_rfl))
  f171 := Tryz.func58.trans (congrArg some (by kernel_rfl))
  f243 := Tryz.func98.trans (congrArg some (by kernel_rfl))
  f246 := Tryz.func130.trans (congrArg some (by kernel_rfl))
  f283 := Tryz.func144.trans (congrArg some (by kernel_rfl))
  f284 := Tryz.func145.trans (congrArg some (by kernel_rfl))
  f285 := Tryz.func146.trans (congrArg some (by kernel_rfl))
  f286 := Tryz.func147.trans (congrArg some (by kernel_rfl))
  f317 := Tryz.func163.trans (congrArg some (by kernel_rfl))
  f318 := Tryz.func165.trans (congrArg some (by kernel_rfl))
  f319 := Tryz.func166.trans (congrArg some (by kernel_rfl))
  f320 := Tryz.func167.trans (congrArg some (by kernel_rfl))
  f337 := Tryz.func177.trans (congrArg some (by kernel_rfl))
  f338 := Tryz.func178.trans (congrArg some (by kernel_rfl))
  t0 := Tryz.underlying0
  a0 := Tryz.isAgg0
  z0 := Tryz.sizeOf0
  v0 := Tryz.zeroValue0
  t2 := Tryz.underlying2
  a2 := Tryz.isAgg2
  z2 := Tryz.sizeOf2
  v2 := Tryz.zeroValue2
  t3 := Tryz.underlying3
  a3 := Tryz.isAgg3
  z3 := Tryz.sizeOf3
  v3 := Tryz.zeroValue3
  t4 := Tryz.underlying4
  a4 := Tryz.isAgg4
  z4 := Tryz.sizeOf4
  v4 := Tryz.zeroValue4
  t5 := Tryz.underlying5
  a5 := Tryz.isAgg5
  z5 := Tryz.sizeOf5
  v5 := Tryz.zeroValue5
  t9 := Tryz.underlying9
  a9 := Tryz.isAgg9
  z9 := Tryz.sizeOf9
  v9 := Tryz.zeroValue9
  t20 := Tryz.underlying20
  a20 := Tryz.isAgg20
  z20 := Tryz.sizeOf20
  v20 := Tryz.zeroValue20
  t37 := Tryz.underlying56
  a37 := Tryz.isAgg56
  z37 := Tryz.sizeOf56
  v37 := Tryz.zeroValue56
  t46 := Tryz.underlying130
  a46 := Tryz.isAgg130
  z46 := Tryz.sizeOf130
  v46 := Tryz.zeroValue130
  t51 := Tryz.underlying195
  a51 := Tryz.isAgg195
  z51 := Tryz.sizeOf195
  v51 := Tryz.zeroValue195
  t53 := Tryz.underlying22
  a53 := Tryz.isAgg22
  z53 := Tryz.sizeOf22
  v53 := Tryz.zeroValue22
  t171 := Tryz.underlying176
  a171 := Tryz.isAgg176
  z171 := Tryz.sizeOf176
  v171 := Tryz.zeroValue176
  t173 := Tryz.underlying178
  a173 := Tryz.isAgg178
  z173 := Tryz.sizeOf178
  v173 := Tryz.zeroValue178
  t212 := Tryz.underlying194
  a212 := Tryz.isAgg194
  z212 := Tryz.sizeOf194
  v212 := Tryz.zeroValue194
  t213 := Tryz.underlying196
  a213 := Tryz.isAgg196
  z213 := Tryz.sizeOf196
  t232 := Tryz.underlying212
  a232 := Tryz.isAgg212
  z232 := Tryz.sizeOf212
  v232 := Tryz.zeroValue212
  t233 := Tryz.underlying213
  a233 := Tryz.isAgg213
  z233 := Tryz.sizeOf213
  v233 := Tryz.zeroValue213
  g17 := by kernel_rfl
  g18 := by kernel_rfl
  g19 := by kernel_rfl }
def laysPu14_ren : Go.Shelf.Ren := ⟨fun | 14 => 118 | 16 => 136 | 17 => 137 | 19 => 150 | 20 => 151 | 21 => 152 | 22 => 153 | 23 => 154 | 24 => 155 | 25 => 168 | 27 => 58 | 26 => 169 | 28 => 98 | 29 => 130 | 30 => 144 | 31 => 145 | 32 => 146 | 33 => 147 | 35 => 164 | 34 => 163 | 36 => 165 | 37 => 166 | 38 => 167 | 39 => 177 | 40 => 178 | n => n, fun | 9 => 9 | 3 => 3 | 22 => 22 | 24 => 139 | 25 => 153 | 4 => 4 | 34 => 185 | 5 => 5 | 36 => 130 | 37 => 56 | 0 => 0 | 39 => 187 | 21 => 21 | 44 => 200 | 47 => 161 | 50 => 205 | 48 => 203 | 2 => 2 | 52 => 176 | 55 => 178 | 59 => 194 | 60 => 195 | 20 => 20 | 61 => 196 | 65 => 212 | 66 => 213 | 67 => 142 | n => n, fun | 0 => 3 | 1 => 4 | 2 => 1 | 3 => 7 | 4 => 8 | n => n⟩
theorem laysPu14 : Go.Proofs.LaysPu.n14 Tryz.prog laysPu14_ren := {
  mixed := by kernel_rfl
  f14 := Tryz.func118.trans (congrArg some (by kernel_rfl))
  f16 := Tryz.func136.trans (congrArg some (by kernel_rfl))
  f17 := Tryz.func137.trans (congrArg some (by kernel_rfl))
  f19 := Tryz.func150.trans (congrArg some (by kernel_rfl))
  f20 := Tryz.func151.trans (congrArg some (by kernel_rfl))
  f21 := Tryz.func152.trans (congrArg some (by kernel_rfl))
  f22 := Tryz.func153.trans (congrArg some (by kernel_rfl))
  f23 := Tryz.func154.trans (congrArg some (by kernel_rfl))
  f24 := Tryz.func155.trans (congrArg some (by kernel_rfl))
  f25 := Tryz.func168.trans (congrArg some (by kernel_rfl))
  f26 := Tryz.func169.trans (congrArg some (by kernel_rfl))
  f27 := Tryz.func58.trans (congrArg some (by kernel_rfl))
  f28 := Tryz.func98.trans (congrArg some (by kernel_rfl))
  f29 := Tryz.func130.trans (congrArg some (by kernel_rfl))
  f30 := Tryz.func144.trans (congrArg some (by kernel_rfl))
  f31 := Tryz.func145.trans (congrArg some (by kernel_rfl))
  f32 := Tryz.func146.trans (congrArg some (by kernel_rfl))
  f33 := Tryz.func147.trans (congrArg some (by kernel_rfl))
  f34 := Tryz.func163.trans (congrArg some (by kernel_rfl))
  f35 := Tryz.func164.trans (congrArg some (by kernel_rfl))
  f36 := Tryz.func165.trans (congrArg some (by kernel_rfl))
  f37 := Tryz.func166.trans (congrArg some (by kernel_rfl))
  f38 := Tryz.func167.trans (congrArg some (by kernel_rfl))
  f39 := Tryz.func177.trans (congrArg some (by kernel_rfl))
  f40 := Tryz.func178.trans (congrArg some (by kernel_rfl))
  t0 := Tryz.underlying0
  a0 := Tryz.isAgg0
  z0 := Tryz.sizeOf0
  v0 := Tryz.zeroValue0
  i0 := by kernel_rfl
  t2 := Tryz.underlying2
  a2 := Tryz.isAgg2
  z2 := Tryz.sizeOf2
  v2 := Tryz.zeroValue2
  i2 := by kernel_rfl
  t3 := Tryz.underlying3
  a3 := Tryz.isAgg3
  z3 := Tryz.sizeOf3
  v3 := Tryz.zeroValue3
  i3 := by kernel_rfl
  t4 := Tryz.underlying4
  a4 := Tryz.isAgg4
  z4 := Tryz.sizeOf4
  v4 := Tryz.zeroValue4
  i4 := by kernel_rfl
  t5 := Tryz.underlying5
  a5 := Tryz.isAgg5
  z5 := Tryz.sizeOf5
  v5 := Tryz.zeroValue5
  i5 := by kernel_rfl
  t9 := Tryz.underlying9
  a9 := Tryz.isAgg9
  z9 := Tryz.sizeOf9
  v9 := Tryz.zeroValue9
  i9 := by kernel_rfl
  t20 := Tryz.underlying20
  a20 := Tryz.isAgg20
  z20 := Tryz.sizeOf20
  v20 := Tryz.zeroValue20
  i20 := by kernel_rfl
  t21 := Tryz.underlying21
  a21 := Tryz.isAgg21
  z21 := Tryz.sizeOf21
  v21 := Tryz.zeroValue21
  i21 := by kernel_rfl
  t22 := Tryz.underlying22
  a22 := Tryz.isAgg22
  z22 := Tryz.sizeOf22
  v22 := Tryz.zeroValue22
  i22 := by kernel_rfl
  t24 := Tryz.underlying139
  a24 := Tryz.isAgg139
  z24 := Tryz.sizeOf139
  v24 := Tryz.zeroValue139
  i24 := by kernel_rfl
  t25 := Tryz.underlying153
  a25 := Tryz.isAgg153
  z25 := Tryz.sizeOf153
  v25 := Tryz.zeroValue153
  i25 := by kernel_rfl
  t34 := Tryz.underlying185
  a34 := Tryz.isAgg185
  z34 := Tryz.sizeOf185
  v34 := Tryz.zeroValue185
  i34 := by kernel_rfl
  c34 := by kernel_rfl
  t36 := Tryz.underlying130
  a36 := Tryz.isAgg130
  z36 := Tryz.sizeOf130
  v36 := Tryz.zeroValue130
  i36 := by kernel_rfl
  t37 := Tryz.underlying56
  a37 := Tryz.isAgg56
  z37 := Tryz.sizeOf56
  v37 := Tryz.zeroValue56
  i37 := by kernel_rfl
  t39 := Tryz.underlying187
  a39 := Tryz.isAgg187
  z39 := Tryz.sizeOf187
  v39 := Tryz.zeroValue187
  i39 := by kernel_rfl
  t44 := Tryz.underlying200
  a44 := Tryz.isAgg200
  z44 := Tryz.sizeOf200
  v44 := Tryz.zeroValue200
  i44 := by kernel_rfl
  t47 := Tryz.underlying161
  a47 := Tryz.isAgg161
  z47 := Tryz.sizeOf161
  v47 := Tryz.zeroValue161
  i47 := by kernel_rfl
  t48 := Tryz.underlying203
  a48 := Tryz.isAgg203
  z48 := Tryz.sizeOf203
  v48 := Tryz.zeroValue203
  i48 := by kernel_rfl
  t50 := Tryz.underlying205
  a50 := Tryz.isAgg205
  z50 := Tryz.sizeOf205
  v50 := Tryz.zeroValue205
  i50 := by kernel_rfl
  t52 := Tryz.underlying176
  a52 := Tryz.isAgg176
  z52 := Tryz.sizeOf176
  v52 := Tryz.zeroValue176
  i52 := by kernel_rfl
  t55 := Tryz.underlying178
  a55 := Tryz.isAgg178
  z55 := Tryz.sizeOf178
  v55 := Tryz.zeroValue178
  i55 := by kernel_rfl
  t59 := Tryz.underlying194
  a59 := Tryz.isAgg194
  z59 := Tryz.sizeOf194
  v59 := Tryz.zeroValue194
  i59 := by kernel_rfl
  t60 := Tryz.underlying195
  a60 := Tryz.isAgg195
  z60 := Tryz.sizeOf195
  v60 := Tryz.zeroValue195
  i60 := by kernel_rfl
  t61 := Tryz.underlying196
  a61 := Tryz.isAgg196
  z61 := Tryz.sizeOf196
  t65 := Tryz.underlying212
  a65 := Tryz.isAgg212
  z65 := Tryz.sizeOf212
  v65 := Tryz.zeroValue212
  i65 := by kernel_rfl
  t66 := Tryz.underlying213
  a66 := Tryz.isAgg213
  z66 := Tryz.sizeOf213
  v66 := Tryz.zeroValue213
  i66 := by kernel_rfl
  t67 := Tryz.underlying142
  a67 := Tryz.isAgg142
  z67 := Tryz.sizeOf142
  v67 := Tryz.zeroValue142
  i67 := by kernel_rfl
  g0 := by kernel_rfl
  m0 := by kernel_rfl
  g1 := by kernel_rfl
  m1 := by kernel_rfl
  g2 := by kernel_rfl
  m2 := by kernel_rfl
  g3 := by kernel_rfl
  m3 := by kernel_rfl
  g4 := by kernel_rfl
  m4 := by kernel_rfl }
end Go.Proofs.YtbilkeadhflibaaGreatDoor.LaidJ

/- The digits of seven bits of a number, and what is read of bytes: plain facts on lists of bytes and numbers, without the program. -/
namespace Go.Proofs.YtbilkeadhflibaaGreatDoor.Wire

/-- The only form of a number: its digits of seven bits, the least first. -/
def putL (u : Nat) : List UInt8 := if u < 128 then [UInt8.ofNat u] else UInt8.ofNat (u % 128 + 128) :: putL (u / 128)
  termination_by u
  decreasing_by omega

theorem putL_lt {u : Nat} (h : u < 128) : putL u = [UInt8.ofNat u] := by rw [putL, if_pos h]
theorem putL_ge {u : Nat} (h : 128 ≤ u) : putL u = UInt8.ofNat (u % 128 + 128) :: putL (u / 128) := by rw [putL, if_neg (by omega)]
theorem putL_pos (u : Nat) : 0 < (putL u).length := by
  by_cases h : u < 128
  · rw [putL_lt h]; simp
  · rw [putL_ge (by omega)]; simp
theorem putL_ne (u : Nat) : putL u ≠ [] := fun h => by have := putL_pos u; rw [h] at this; simp at this
theorem putL_len : ∀ (k u : Nat), u < 128 ^ (k + 1) → (putL u).length ≤ k + 1
  | 0, u, h => by rw [putL_lt (by simpa using h)]; simp
  | k + 1, u, h => by
    by_cases h1 : u < 128
    · rw [putL_lt h1]; simp
    · rw [putL_ge (by omega)]
      have h2 : u / 128 < 128 ^ (k + 1) := by
        rw [Nat.div_lt_iff_lt_mul (by omega)]
        rw [Nat.pow_succ] at h
        exact h
      have := putL_len k (u / 128) h2
      simp only [List.length_cons]
      omega
theorem putL_ten {u : Nat} (h : u < 18446744073709551616) : (putL u).length ≤ 10 := putL_len 9 u (Nat.lt_of_lt_of_le h (by decide))
theorem putL_one (u : Nat) : (putL u).length = 1 ↔ u < 128 := by
  by_cases h : u < 128
  · rw [putL_lt h]; simp [h]
  · rw [putL_ge (by omega)]
    have := putL_pos (u / 128)
    simp only [List.length_cons]
    omega

theorem byte_lo {c : Nat} (h : c < 128) : (UInt8.ofNat c).toNat = c := by simp; omega
theorem byte_hi (u : Nat) : (UInt8.ofNat (u % 128 + 128)).toNat = u % 128 + 128 := by simp; omega

/-- What is read of bytes: the digits up to a last one, at most so many: their number (unbounded), and how many they are. -/
def takeL : Nat → List UInt8 → Option (Nat × Nat)
  | 0, _ => none
  | _ + 1, [] => none
  | f + 1, c :: r => if c.toNat < 128 then some (c.toNat, 1) else (takeL f r).map fun x => (c.toNat - 128 + 128 * x.1, x.2 + 1)

theorem takeL_put : ∀ (f u : Nat) (r : List UInt8), (putL u).length ≤ f → takeL f (putL u ++ r) = some (u, (putL u).length)
  | 0, u, r, h => by have := putL_pos u; omega
  | f + 1, u, r, h => by
    by_cases h1 : u < 128
    · rw [putL_lt h1]
      simp only [List.cons_append, takeL, byte_lo h1, if_pos h1, List.length_cons, List.nil_append, List.length_nil]
    · rw [putL_ge (by omega)] at h ⊢
      simp only [List.length_cons] at h
      simp only [List.cons_append, takeL, byte_hi]
      rw [if_neg (by omega), takeL_put f (u / 128) r (by omega)]
      simp only [Option.map_some, List.length_cons]
      congr 2
      omega

theorem takeL_len : ∀ (f : Nat) (l : List UInt8) (v k : Nat), takeL f l = some (v, k) → 1 ≤ k ∧ k ≤ f ∧ k ≤ l.length
  | 0, l, v, k, h => by simp [takeL] at h
  | f + 1, [], v, k, h => by simp [takeL] at h
  | f + 1, c :: r, v, k, h => by
    simp only [takeL] at h
    split at h
    · simp only [Option.some.injEq, Prod.mk.injEq] at h
      obtain ⟨rfl, rfl⟩ := h
      simp
    · simp only [Option.map_eq_some_iff, Prod.mk.injEq, Prod.exists] at h
      obtain ⟨v', k', h', rfl, rfl⟩ := h
      have := takeL_len f r v' k' h'
      simp only [List.length_cons]
      omega

/-- Of what begins alike the numbers are alike. -/
theorem putL_same {u v : Nat} {a b : List UInt8} (h : putL u ++ a = putL v ++ b) : u = v ∧ a = b := by
  have h1 := takeL_put ((putL u).length + (putL v).length) u a (by omega)
  have h2 := takeL_put ((putL u).length + (putL v).length) v b (by omega)
  rw [h, h2] at h1
  simp only [Option.some.injEq, Prod.mk.injEq] at h1
  obtain ⟨rfl, -⟩ := h1
  exact ⟨rfl, List.append_cancel_left h⟩
theorem putL_begins {u v : Nat} {r : List UInt8} (h : putL v = putL u ++ r) : u = v ∧ r = [] := by
  have := putL_same (u := u) (v := v) (a := r) (b := []) (by simp [h])
  exact this
theorem putL_inj {u v : Nat} (h : putL u = putL v) : u = v := (putL_same (a := []) (b := []) (by simp [h])).1

/-- What stands in l is the form of u, and something behind. -/
def Stands (u : Nat) (l : List UInt8) : Prop := u < 18446744073709551616 ∧ ∃ r, l = putL u ++ r

theorem Stands.one {u v : Nat} {l : List UInt8} (h : Stands u l) (k : Stands v l) : u = v := by
  obtain ⟨_, r, rfl⟩ := h
  obtain ⟨_, s, e⟩ := k
  exact (putL_same e).1
theorem not_stands_nil (u : Nat) : ¬ Stands u [] := by
  rintro ⟨_, r, h⟩
  have := congrArg List.length h
  have := putL_pos u
  simp at *
  omega
theorem Stands.takes {u : Nat} {l : List UInt8} (h : Stands u l) : takeL 10 l = some (u, (putL u).length) := by
  obtain ⟨hu, r, rfl⟩ := h
  exact takeL_put 10 u r (putL_ten hu)
theorem stands_of {l : List UInt8} {u k : Nat} (hu : u < 18446744073709551616) (h : putL u = l.take k) : Stands u l :=
  ⟨hu, l.drop k, by rw [h, List.take_append_drop]⟩
theorem Stands.take {u : Nat} {l : List UInt8} (h : Stands u l) : l.take (putL u).length = putL u := by
  obtain ⟨_, r, rfl⟩ := h
  simp
theorem Stands.len {u : Nat} {l : List UInt8} (h : Stands u l) : (putL u).length ≤ l.length := by
  obtain ⟨_, r, rfl⟩ := h
  simp
end Go.Proofs.YtbilkeadhflibaaGreatDoor.Wire

/- What wire.Put answers, for every number of 64 bits: its digits of seven bits, the least first; of memory that was there nothing turns. -/
namespace Go.Proofs.YtbilkeadhflibaaGreatDoor.Wire
open Go.RowKit

theorem info5 : (Tryz.prog.info? 5).map (fun i => (i.zero, i.size, i.bytes)) = some (some (.int .u8 0), 1, 1) := by kernel_rfl

/-- Bytes as values. -/
def vals (l : List UInt8) : List Value := l.map fun c => Value.int .u8 (c.toNat : Int)
theorem vals_append (a b : List UInt8) : vals (a ++ b) = vals a ++ vals b := by simp [vals]
theorem vals_length (a : List UInt8) : (vals a).length = a.length := by simp [vals]
/-- A text of bytes. -/
def str (l : List UInt8) : ByteArray := ⟨l.toArray⟩
theorem str_toList (l : List UInt8) : (str l).data.toList = l := by simp [str]
theorem str_size (l : List UInt8) : (str l).size = l.length := by simp [str, ByteArray.size]

set_option maxRecDepth 100000 in
theorem conv_own {w : World} {B : Nat} {v : Value} {l : List UInt8} {n : Nat} (hn : n = l.length) (h : w.ownsRow B 5 1 v n (vals l)) (hl : 0 < l.length) :
    (convert 56 9 v).run Tryz.prog w = .ok (.string (str l)) w := by
  subst hn
  have h' := h
  rcases h.2 with ⟨rfl, h0⟩ | ⟨g, cap, cur, rfl, _⟩
  · omega
  have := run_convert_bytes_arg (P := Tryz.prog) w 56 5 Tryz.underlying56 Tryz.underlying5 g 0 l.length cap (l.map fun c => (c.toNat : Int)) (by simp) (fun i hi => by
    rw [Nat.zero_add, h'.cellAt i (by simpa using hi)]
    simp [vals, hi]) 9 Tryz.underlying9
  rw [this]
  congr 2
  simp only [strOfNums, str, List.map_map]
  congr 1
  congr 1
  exact (List.map_congr_left fun c _ => by simp).trans (List.map_id _)

set_option maxRecDepth 100000 in
theorem or_hi : ∀ m : Nat, m < 256 → m ||| 128 = m % 128 + 128 := by decide
theorem u8_or_hi (n : Nat) : bits .or .u8 ((n : Int) % 256) 128 = ((UInt8.ofNat (n % 128 + 128)).toNat : Int) := by
  have h := u8_or_nat (n % 256) 128 (by omega) (by omega)
  rw [or_hi _ (by omega)] at h
  rw [byte_hi, show (n : Int) % 256 = ((n % 256 : Nat) : Int) from by omega]
  refine h.trans ?_
  omega

theorem own_last {w : World} {B n : Nat} {v : Value} {xs : List UInt8} (h128 : n < 128) (h : w.ownsRow B 5 1 v (xs.length + 1) (vals xs ++ [.int .u8 (n : Int)])) :
    w.ownsRow B 5 1 v (xs ++ putL n).length (vals (xs ++ putL n)) := by
  rw [putL_lt h128, vals_append]
  simpa [vals, byte_lo h128] using h
theorem own_more {w : World} {B : Nat} {c : UInt8} {v : Value} {xs : List UInt8} (h : w.ownsRow B 5 1 v (xs.length + 1) (vals xs ++ [.int .u8 (c.toNat : Int)])) :
    w.ownsRow B 5 1 v (xs ++ [c]).length (vals (xs ++ [c])) := by
  rw [vals_append]
  simpa [vals] using h

set_option maxRecDepth 100000 in
set_option maxHeartbeats 1000000 in
theorem put_any (U : Nat) (hU : U < 18446744073709551616) (w : World) :
    Calls Tryz.prog 51 #[.int .u64 U] w fun e w' => e = .returned (.string (str (putL U))) ∧ Below w.heap.size w w' := by
  obtain ⟨i0, hi, hz0, hz1, hz2⟩ := info_parts info5
  have hten := putL_ten hU
  go_enter Tryz.func51, Tryz.ntmps51
  go_wp2
  go_loopw [0, 3] (fun u v wr => ∃ (n : Nat) (xs : List UInt8), n < 18446744073709551616 ∧ u = .int .u64 n ∧ wr.ownsRow w.heap.size 5 1 v xs.length (vals xs) ∧ putL U = xs ++ putL n ∧ Below w.heap.size w wr)
    (fun u _ _ => (intOf u).toNat)
  case atStart => exact ⟨U, [], hU, rfl, World.ownsRow_nil _ _ _ _, rfl, Below.refl _ _⟩
  case round =>
    obtain ⟨n, xs, hn, rfl, hown, hput, hb⟩ := hrel
    have HP := Lib.hid hput
    have hlen : xs.length + 1 ≤ 10 := by have := congrArg List.length hput; have := putL_pos n; simp at *; omega
    clear hput
    by_cases h128 : n < 128
    · go_wp2_with (at_builtin; refine wpList_append_own _ rfl _ _ 56 rfl w.heap.size 5 i0 (.int .u8 0) 1 1 Tryz.underlying56 hi hz0 hz1 hz2 rfl (by decide) _ _ _ rfl (hown.alloc _) ⟨wr.heap.size, 0, none⟩ 1 1 [.int .u8 (n : Int)] rfl rfl ?c1 ?c2 ?c3 ?c4 ?c5 ?_)
      case c1 => exact cell_one_new _ _ _
      case c2 => intro u hu; simp at hu; subst hu; rfl
      case c3 => unfold maxLen; omega
      case c4 => omega
      case c5 => have := hb.size; simp; omega
      intro v' w1 hown' hgrow _
      have hconv := conv_own (l := xs ++ putL n) rfl (own_last h128 hown') (by have := putL_pos n; simp; omega)
      rw [← HP.out] at hconv
      have hb' : Below w.heap.size w w1 := (hb.alloc hb.size _).grown hgrow (by have := hb.size; simp; omega) (fun k hk => (hown.lt k hk).1)
      clear hown hown' hgrow
      go_wp2
      go_ret
      exact ⟨rfl, hb'⟩
    · have hbits := u8_or_hi n
      obtain ⟨c, hc⟩ : ∃ c, c = UInt8.ofNat (n % 128 + 128) := ⟨_, rfl⟩
      rw [← hc] at hbits
      have HC := Lib.hid hc
      clear hc
      go_wp2_with (at_builtin; refine wpList_append_own _ rfl _ _ 56 rfl w.heap.size 5 i0 (.int .u8 0) 1 1 Tryz.underlying56 hi hz0 hz1 hz2 rfl (by decide) _ _ _ rfl (hown.alloc _) ⟨wr.heap.size, 0, none⟩ 1 1 [.int .u8 (c.toNat : Int)] rfl rfl ?d1 ?d2 ?d3 ?d4 ?d5 ?_)
      case d1 => exact cell_one_new _ _ _
      case d2 => intro u hu; simp at hu; subst hu; rfl
      case d3 => unfold maxLen; omega
      case d4 => omega
      case d5 => have := hb.size; simp; omega
      intro v' w1 hown' hgrow _
      have hown2 := own_more hown'
      have hb' : Below w.heap.size w w1 := (hb.alloc hb.size _).grown hgrow (by have := hb.size; simp; omega) (fun k hk => (hown.lt k hk).1)
      clear hown hown' hgrow hbits
      go_wp2
      go_roundw
      case rel => exact ⟨n / 128, xs ++ [c], by omega, by go_num, hown2, by rw [HP.out, putL_ge (by omega), ← HC.out]; simp, hb'⟩
      case measure => simp [intOf]; omega
end Go.Proofs.YtbilkeadhflibaaGreatDoor.Wire

/- What wire.Get defers: if nothing was taken, or what was taken is not the only form of its number, the three answers become 0, 0, false; else they stay. -/
namespace Go.Proofs.YtbilkeadhflibaaGreatDoor.Wire
open Go.RowKit

/-- The five variables of Get, in blocks H to H + 4. -/
def Vars (H : Nat) (s : ByteArray) (p u n : Int) (ok : Bool) (w : World) : Prop :=
  w.cell? ⟨H, 0, none⟩ = some (.string s) ∧ w.cell? ⟨H + 1, 0, none⟩ = some (.int .i64 p) ∧ w.cell? ⟨H + 2, 0, none⟩ = some (.int .u64 u) ∧ w.cell? ⟨H + 3, 0, none⟩ = some (.int .i64 n) ∧ w.cell? ⟨H + 4, 0, none⟩ = some (.bool ok) ∧
  w.frozen? ⟨H + 2, 0, none⟩ = false ∧ w.frozen? ⟨H + 3, 0, none⟩ = false ∧ w.frozen? ⟨H + 4, 0, none⟩ = false

/-- The three answers' variables, written. -/
def put3 (H : Nat) (u n : Int) (ok : Bool) (w : World) : World :=
  ((w.setCell ⟨H + 2, 0, none⟩ (.int .u64 u)).setCell ⟨H + 3, 0, none⟩ (.int .i64 n)).setCell ⟨H + 4, 0, none⟩ (.bool ok)
theorem Vars.put3 {H : Nat} {s : ByteArray} {p u n : Int} {ok : Bool} {w : World} (h : Vars H s p u n ok w) (u' n' : Int) (ok' : Bool) : Vars H s p u' n' ok' (put3 H u' n' ok' w) := by
  obtain ⟨c0, c1, c2, c3, c4, f2, f3, f4⟩ := h
  unfold Wire.put3
  have far : ∀ (x y : Nat) (v : Value) (z : World), x ≠ y → (z.setCell ⟨x, 0, none⟩ v).cell? ⟨y, 0, none⟩ = z.cell? ⟨y, 0, none⟩ := fun x y v z hxy => World.cell?_setCell_far z _ _ v hxy
  refine ⟨?_, ?_, ?_, ?_, ?_, ?_, ?_, ?_⟩
  · rw [far _ _ _ _ (by omega), far _ _ _ _ (by omega), far _ _ _ _ (by omega)]; exact c0
  · rw [far _ _ _ _ (by omega), far _ _ _ _ (by omega), far _ _ _ _ (by omega)]; exact c1
  · rw [far _ _ _ _ (by omega), far _ _ _ _ (by omega)]; exact World.cell?_setCell_same _ _ _ c2
  · rw [far _ _ _ _ (by omega)]; exact World.cell?_setCell_same _ _ _ ((far _ _ _ _ (by omega)).trans c3)
  · exact World.cell?_setCell_same _ _ _ ((far _ _ _ _ (by omega)).trans ((far _ _ _ _ (by omega)).trans c4))
  · simpa using f2
  · simpa using f3
  · simpa using f4
theorem below_put3 {H : Nat} {a w : World} (h : Below H a w) (u n : Int) (ok : Bool) : Below H a (put3 H u n ok w) :=
  ((h.setCell (by simp) _).setCell (by simp) _).setCell (by simp) _
theorem Vars.drewN {H : Nat} {s : ByteArray} {p u n : Int} {ok : Bool} {w : World} (h : Vars H s p u n ok w) (k : Nat) : Vars H s p u n ok (w.drewN k) := h
theorem Vars.lt {H : Nat} {s : ByteArray} {p u n : Int} {ok : Bool} {w : World} (h : Vars H s p u n ok w) : H + 4 < w.heap.size := World.block_lt_of_cell? w ⟨H + 4, 0, none⟩ h.2.2.2.2.1
theorem Vars.later {H : Nat} {s : ByteArray} {p u n : Int} {ok : Bool} {w w' : World} (h : Vars H s p u n ok w) (hb : Below w.heap.size w w') : Vars H s p u n ok w' := by
  have hl := h.lt
  obtain ⟨c0, c1, c2, c3, c4, f2, f3, f4⟩ := h
  exact ⟨cell_later hb c0, cell_later hb c1, cell_later hb c2, cell_later hb c3, cell_later hb c4,
    (hb.frozen (p := ⟨H + 2, 0, none⟩) (by simp; omega)).trans f2, (hb.frozen (p := ⟨H + 3, 0, none⟩) (by simp; omega)).trans f3, (hb.frozen (p := ⟨H + 4, 0, none⟩) (by simp; omega)).trans f4⟩

set_option maxRecDepth 100000 in
set_option maxHeartbeats 1000000 in
theorem undo_none (H : Nat) (s : ByteArray) (p u n : Int) (w : World) (hv : Vars H s p u n false w) :
    CallsD Tryz.prog 112 #[.pointer (some ⟨H + 4, 0, none⟩), .pointer (some ⟨H + 2, 0, none⟩), .pointer (some ⟨H, 0, none⟩), .pointer (some ⟨H + 1, 0, none⟩), .pointer (some ⟨H + 3, 0, none⟩)] .returning w fun e u' w' =>
      u' = .returning ∧ (e = .returned (.tuple #[]) ∧ Vars H s p 0 0 false w' ∧ Below H w w') := by
  obtain ⟨c0, c1, c2, c3, c4, f2, f3, f4⟩ := hv
  go_enter_d Tryz.func112, Tryz.ntmps112
  go_wp2_with fail
  go_quiet (fail)
  go_wp2
  go_end0
  exact ⟨rfl, Vars.put3 (Vars.drewN ⟨c0, c1, c2, c3, c4, f2, f3, f4⟩ _) 0 0 false, below_put3 (below_drewN (Below.refl _ _) _) 0 0 false⟩

theorem vars_S {H : Nat} {s : ByteArray} {p u n : Int} {ok : Bool} {w0 w w' : World} (h : Vars H s p u n ok w) (h0 : Below H w0 w) (hb : Below w.heap.size w w') : Vars H s p u n ok w' ∧ Below H w0 w' :=
  ⟨h.later hb, h0.trans (hb.mono (by have := h.lt; omega))⟩

set_option maxRecDepth 100000 in
set_option maxHeartbeats 1000000 in
theorem undo_same (H : Nat) (s : ByteArray) (p n U : Nat) (hU : U < 18446744073709551616) (hpn : p ≤ n) (hn : n ≤ s.size) (hsame : (str (putL U)).toList = (s.extract p n).toList) (w : World) (hv : Vars H s p U n true w) :
    CallsD Tryz.prog 112 #[.pointer (some ⟨H + 4, 0, none⟩), .pointer (some ⟨H + 2, 0, none⟩), .pointer (some ⟨H, 0, none⟩), .pointer (some ⟨H + 1, 0, none⟩), .pointer (some ⟨H + 3, 0, none⟩)] .returning w fun e u' w' =>
      u' = .returning ∧ (e = .returned (.tuple #[]) ∧ Vars H s p U n true w' ∧ Below H w w') := by
  have hp0 : (0 : Int) ≤ (p : Int) := by omega
  have hpn' : (p : Int) ≤ (n : Int) := by omega
  have hn' : (n : Int) ≤ (s.size : Int) := by omega
  obtain ⟨c0, c1, c2, c3, c4, f2, f3, f4⟩ := hv
  go_enter_d Tryz.func112, Tryz.ntmps112
  go_wp2_with fail
  go_region_held3 (fun w' => w'.cell? ⟨H, 0, none⟩ = some (.string s) ∧ w'.cell? ⟨H + 1, 0, none⟩ = some (.int .i64 p) ∧ w'.cell? ⟨H + 2, 0, none⟩ = some (.int .u64 U) ∧ w'.cell? ⟨H + 3, 0, none⟩ = some (.int .i64 n) ∧ w'.cell? ⟨H + 4, 0, none⟩ = some (.bool true))
    (first | go_keep | exact ⟨cell_later ‹Below _ _ _› (by simp [*]), cell_later ‹Below _ _ _› (by simp [*]), cell_later ‹Below _ _ _› (by simp [*]), cell_later ‹Below _ _ _› (by simp [*]), cell_later ‹Below _ _ _› (by simp [*])⟩)
    (first | (go_at_call 51; refine (put_any U hU _).mono ?_; rintro e w1 ⟨rfl, hb⟩))
  have hv1 := vars_S (w0 := w) (w := w.drew) (w' := w1) (H := H) (s := s) (p := p) (u := U) (n := n) (ok := true) ⟨c0, c1, c2, c3, c4, f2, f3, f4⟩ (Below.refl _ _).drew hb
  go_wp2
  go_end0
  exact ⟨rfl, hv1.1, hv1.2⟩

set_option maxRecDepth 100000 in
set_option maxHeartbeats 1000000 in
theorem undo_other (H : Nat) (s : ByteArray) (p n U : Nat) (hU : U < 18446744073709551616) (hpn : p ≤ n) (hn : n ≤ s.size) (hdiff : ((str (putL U)).toList == (s.extract p n).toList) = false) (w : World) (hv : Vars H s p U n true w) :
    CallsD Tryz.prog 112 #[.pointer (some ⟨H + 4, 0, none⟩), .pointer (some ⟨H + 2, 0, none⟩), .pointer (some ⟨H, 0, none⟩), .pointer (some ⟨H + 1, 0, none⟩), .pointer (some ⟨H + 3, 0, none⟩)] .returning w fun e u' w' =>
      u' = .returning ∧ (e = .returned (.tuple #[]) ∧ Vars H s p 0 0 false w' ∧ Below H w w') := by
  have hp0 : (0 : Int) ≤ (p : Int) := by omega
  have hpn' : (p : Int) ≤ (n : Int) := by omega
  have hn' : (n : Int) ≤ (s.size : Int) := by omega
  obtain ⟨c0, c1, c2, c3, c4, f2, f3, f4⟩ := hv
  go_enter_d Tryz.func112, Tryz.ntmps112
  go_wp2_with fail
  go_region_held3 (fun w' => w'.cell? ⟨H, 0, none⟩ = some (.string s) ∧ w'.cell? ⟨H + 1, 0, none⟩ = some (.int .i64 p) ∧ w'.cell? ⟨H + 2, 0, none⟩ = some (.int .u64 U) ∧ w'.cell? ⟨H + 3, 0, none⟩ = some (.int .i64 n) ∧ w'.cell? ⟨H + 4, 0, none⟩ = some (.bool true))
    (first | go_keep | exact ⟨cell_later ‹Below _ _ _› (by simp [*]), cell_later ‹Below _ _ _› (by simp [*]), cell_later ‹Below _ _ _› (by simp [*]), cell_later ‹Below _ _ _› (by simp [*]), cell_later ‹Below _ _ _› (by simp [*])⟩)
    (first | (go_at_call 51; refine (put_any U hU _).mono ?_; rintro e w1 ⟨rfl, hb⟩))
  have hv1 := vars_S (w0 := w) (w := w.drew) (w' := w1) (H := H) (s := s) (p := p) (u := U) (n := n) (ok := true) ⟨c0, c1, c2, c3, c4, f2, f3, f4⟩ (Below.refl _ _).drew hb
  obtain ⟨⟨d0, d1, d2, d3, d4, g2, g3, g4⟩, hb1⟩ := hv1
  go_wp2
  go_end0
  exact ⟨rfl, Vars.put3 (u := U) (n := n) (ok := true) ⟨d0, d1, d2, d3, d4, g2, g3, g4⟩ 0 0 false, below_put3 hb1 0 0 false⟩
end Go.Proofs.YtbilkeadhflibaaGreatDoor.Wire

/- What wire.takeDigits answers, for every text and every place in it: the digits up to a last one, at most ten of them; the world stays as it was. -/
namespace Go.Proofs.YtbilkeadhflibaaGreatDoor.Wire
open Go.RowKit

/-- What takeDigits hands back. -/
def tkRes (p : Nat) : Option (Nat × Nat) → Value
  | none => .tuple #[.int .u64 0, .int .i64 0, .bool false]
  | some x => .tuple #[.int .u64 ((x.1 % 18446744073709551616 : Nat) : Int), .int .i64 ((p + x.2 : Nat) : Int), .bool true]

/-- The state of the loop behind k digits. -/
def Took (L : List UInt8) (k X : Nat) : Prop :=
  X < 18446744073709551616 ∧ (k ≤ 9 → X < 2 ^ (7 * k)) ∧ takeL 10 L = (takeL (10 - k) (L.drop k)).map fun x => (X + 2 ^ (7 * k) * x.1, x.2 + k)

theorem Took.start (L : List UInt8) : Took L 0 0 := by
  refine ⟨by decide, fun _ => by decide, ?_⟩
  simp

/-- A digit behind digits: its bits and theirs do not meet. -/
theorem or_step {X k d : Nat} (hk : k ≤ 9) (hX : X < 2 ^ (7 * k)) : X ||| d * 2 ^ (7 * k) % 18446744073709551616 = (X + 2 ^ (7 * k) * d) % 18446744073709551616 := by
  have hpq : 2 ^ (7 * k) * 2 ^ (64 - 7 * k) = 18446744073709551616 := by
    rw [← Nat.pow_add, show 7 * k + (64 - 7 * k) = 64 from by omega]
  rw [← hpq, Nat.mul_comm d, Nat.mul_mod_mul_left, Nat.or_comm, ← Nat.two_pow_add_eq_or_of_lt hX, Nat.mod_mul (x := X + 2 ^ (7 * k) * d), Nat.add_mul_mod_self_left, Nat.mod_eq_of_lt hX,
    Nat.add_mul_div_left _ _ (Nat.two_pow_pos _), Nat.div_eq_of_lt hX, Nat.zero_add, Nat.add_comm]

theorem and127 : ∀ c : Nat, c < 256 → c &&& 127 = c % 128 := fun c _ => Nat.and_two_pow_sub_one_eq_mod c 7
theorem digit_bits (c : UInt8) : bits .andNot .u8 (c.toNat : Int) 128 = ((c.toNat % 128 : Nat) : Int) := by
  have hc := c.toNat_lt
  have h := u8_andNot_nat c.toNat 128 (by omega) (by omega)
  rw [show 255 - 128 = 127 from rfl, and127 _ (by omega)] at h
  exact h
theorem step_bits (c : UInt8) (X k : Nat) (hX : X < 18446744073709551616) :
    bits .or .u64 (X : Int) (IntKind.u64.wrap (IntKind.u64.wrap (bits .andNot .u8 (c.toNat : Int) 128) * 2 ^ (k * 7))) = ((X ||| (c.toNat % 128) * 2 ^ (7 * k) % 18446744073709551616 : Nat) : Int) := by
  rw [digit_bits, show IntKind.u64.wrap ((c.toNat % 128 : Nat) : Int) = ((c.toNat % 128 : Nat) : Int) from by rw [IntKind.wrap_u64]; omega]
  have e : (((c.toNat % 128 : Nat) : Int) * 2 ^ (k * 7)) = (((c.toNat % 128) * 2 ^ (7 * k) : Nat) : Int) := by
    rw [Int.natCast_mul, Int.natCast_pow, Nat.mul_comm k 7]
    rfl
  rw [e]
  generalize (c.toNat % 128) * 2 ^ (7 * k) = y
  rw [show IntKind.u64.wrap (y : Int) = ((y % 18446744073709551616 : Nat) : Int) from by rw [IntKind.wrap_u64]; omega]
  exact bits_or_u64_nat X _ hX (Nat.mod_lt _ (by decide))

theorem Took.last {L : List UInt8} {k X : Nat} {c : UInt8} {r : List UInt8} (h : Took L k X) (hk : k < 10) (hd : L.drop k = c :: r) (hc : c.toNat < 128) :
    takeL 10 L = some (X + 2 ^ (7 * k) * c.toNat, k + 1) := by
  rw [h.2.2, hd, show 10 - k = (9 - k) + 1 from by omega, takeL, if_pos hc]
  simp [Nat.add_comm]
theorem Took.next {L : List UInt8} {k X : Nat} {c : UInt8} {r : List UInt8} (h : Took L k X) (hk : k < 10) (hd : L.drop k = c :: r) (hc : ¬ c.toNat < 128) :
    Took L (k + 1) (X ||| (c.toNat % 128) * 2 ^ (7 * k) % 18446744073709551616) := by
  have hlt := c.toNat_lt
  have hX := h.2.1 (by omega)
  have hr : L.drop (k + 1) = r := by
    have := congrArg List.tail hd
    rw [List.tail_drop] at this
    exact this
  rw [or_step (by omega) hX]
  refine ⟨Nat.mod_lt _ (by decide), fun h9 => ?_, ?_⟩
  · refine Nat.lt_of_le_of_lt (Nat.mod_le _ _) ?_
    rw [show 7 * (k + 1) = 7 * k + 7 from by omega, Nat.pow_add]
    have : 2 ^ (7 * k) * (c.toNat % 128) ≤ 2 ^ (7 * k) * 127 := Nat.mul_le_mul (Nat.le_refl _) (by omega)
    omega
  · rw [h.2.2, hd, hr, show 10 - k = (9 - k) + 1 from by omega, takeL, if_neg hc, show 10 - (k + 1) = 9 - k from by omega, Option.map_map]
    by_cases h9 : k = 9
    · subst h9; simp [takeL]
    · congr 1
      funext x
      simp only [Function.comp, Prod.mk.injEq]
      refine ⟨?_, by omega⟩
      have hb : X + 2 ^ (7 * k) * (c.toNat % 128) < 18446744073709551616 := by
        have h1 : 2 ^ (7 * k) * (c.toNat % 128) ≤ 2 ^ (7 * k) * 127 := Nat.mul_le_mul (Nat.le_refl _) (by omega)
        have h2 : 2 ^ (7 * k) ≤ 2 ^ 56 := Nat.pow_le_pow_right (by omega) (by omega)
        omega
      rw [Nat.mod_eq_of_lt hb, show 7 * (k + 1) = 7 * k + 7 from by omega, Nat.pow_add, show c.toNat - 128 = c.toNat % 128 from by omega, Nat.mul_add, ← Nat.mul_assoc, show 2 ^ 7 = 128 from rfl]
      omega
theorem Took.out {L : List UInt8} {k X : Nat} (h : Took L k X) (hk : 10 ≤ k ∨ L.length ≤ k) : takeL 10 L = none := by
  rw [h.2.2]
  rcases hk with hk | hk
  · rw [show 10 - k = 0 from by omega]; simp [takeL]
  · rw [List.drop_eq_nil_of_le hk]
    cases 10 - k <;> simp [takeL]
theorem drop_at {s : ByteArray} {p k : Nat} (h : p + k < s.size) : (s.data.toList.drop p).drop k = s[p + k] :: (s.data.toList.drop p).drop (k + 1) := by
  rw [List.drop_drop, List.drop_drop, List.drop_eq_getElem_cons (by simpa using h)]
  rfl

set_option maxRecDepth 100000 in
set_option maxHeartbeats 1000000 in
theorem take_any (s : ByteArray) (p : Nat) (hp : p ≤ s.size) (hs : s.size ≤ 9223372036854775807) (w : World) :
    Calls Tryz.prog 113 #[.string s, .int .i64 p] w fun e w' => e = .returned (tkRes p (takeL 10 (s.data.toList.drop p))) ∧ w = w' := by
  obtain ⟨m, hm1, hm2, hm3⟩ : ∃ m : Nat, p + m ≤ s.size ∧ m ≤ 10 ∧ ((s.size - p < 10 ∧ s.size ≤ p + m) ∨ (¬ s.size - p < 10 ∧ 10 ≤ m)) := ⟨min 10 (s.size - p), by omega, by omega, by omega⟩
  rcases hm3 with ⟨hm3, hm4⟩ | ⟨hm3, hm4⟩
  all_goals
    go_enter Tryz.func113, Tryz.ntmps113
    go_wp2
    go_loop [4, 14] (fun u i => ∃ k X : Nat, k ≤ m ∧ i = .int .i64 k ∧ u = .int .u64 X ∧ Took (s.data.toList.drop p) k X)
      (fun _ i => m - (intOf i).toNat)
    case atStart => exact ⟨0, 0, by omega, rfl, rfl, Took.start _⟩
    case round =>
      obtain ⟨k, X, hk, rfl, rfl, ht⟩ := hrel
      have hx := ht.1
      have HT := Lib.hid ht
      clear ht
      by_cases hlt : k < m
      · have hd := drop_at (s := s) (p := p) (k := k) (by omega)
        have hstep := step_bits (s[p + k]'(by omega)) X k hx
        have HD := Lib.hid hd
        clear hd
        obtain ⟨Y, hY⟩ : ∃ Y, Y = X ||| ((s[p + k]'(by omega)).toNat % 128) * 2 ^ (7 * k) % 18446744073709551616 := ⟨_, rfl⟩
        rw [← hY] at hstep
        have HY := Lib.hid hY
        have HS := Lib.hid hstep
        clear hY hstep
        go_wp2
        · have hc : (s[p + k]'(by omega)).toNat < 128 := by
            have h : ((s[p + k]'(by omega)).toNat : Int) < 128 := by assumption
            omega
          have hl := HT.out.last (by omega) HD.out hc
          have hX9 := HT.out.2.1 (by omega)
          go_ret3
          refine ⟨?_, rfl⟩
          rw [HS.out, HY.out, hl, or_step (by omega) hX9, Nat.mod_eq_of_lt hc]
          rfl
        · have hc : ¬ (s[p + k]'(by omega)).toNat < 128 := by
            have h : (128 : Int) ≤ ((s[p + k]'(by omega)).toNat : Int) := by assumption
            omega
          have hn := HT.out.next (by omega) HD.out hc
          rw [← HY.out] at hn
          go_round
          case rel => exact ⟨k + 1, Y, by omega, by go_num, by rw [HS.out], hn⟩
          case measure => simp [intOf]; omega
      · go_wp2
        have hl := HT.out.out (by simp; omega)
        go_ret3
        rw [hl]
        exact ⟨rfl, rfl⟩
end Go.Proofs.YtbilkeadhflibaaGreatDoor.Wire

/- What wire.Get answers, for every text and every place: the number whose form stands there and the place behind it, and true; or 0, 0 and false; of memory that was there nothing turns. -/
namespace Go.Proofs.YtbilkeadhflibaaGreatDoor.Wire
open Go.RowKit

/-- What Get hands back. -/
def getNo : Value := .tuple #[.int .u64 0, .int .i64 0, .bool false]
def getYes (u n : Nat) : Value := .tuple #[.int .u64 u, .int .i64 n, .bool true]

/-- The world in which Get has laid its variables. -/
def laid (s : ByteArray) (p u n : Int) (ok : Bool) (w : World) : World :=
  ((((w.alloc (.cells #[.string s] 9)).alloc (.cells #[.int .i64 p] 3)).alloc (.cells #[.int .u64 u] 22)).alloc (.cells #[.int .i64 n] 3)).alloc (.cells #[.bool ok] 4)
theorem vars_laid (s : ByteArray) (p u n : Int) (ok : Bool) (w : World) : Vars w.heap.size s p u n ok (laid s p u n ok w) := by
  unfold laid Vars
  refine ⟨?_, ?_, ?_, ?_, ?_, ?_, ?_, ?_⟩ <;> simp [go_sem]
theorem below_laid (s : ByteArray) (p u n : Int) (ok : Bool) (w : World) : Below w.heap.size w (laid s p u n ok w) :=
  (((((Below.refl _ _).alloc (Nat.le_refl _) _).alloc (by simp) _).alloc (by simp; omega) _).alloc (by simp; omega) _).alloc (by simp; omega) _

set_option maxRecDepth 100000 in
set_option maxHeartbeats 1000000 in
theorem get_out (s : ByteArray) (p : Int) (hp : p < 0 ∨ (s.size : Int) ≤ p) (w : World) :
    Calls Tryz.prog 77 #[.string s, .int .i64 p] w fun e w' => e = .returned getNo ∧ Below w.heap.size w w' := by
  have hmf : ∀ (fn : Fn) (first cap : Array Value) (w : World), (Instr.makeFunc fn first cap).run Tryz.prog w = .ok (.func fn first cap) w := fun _ _ _ _ => rfl
  rcases hp with hp | hp
  · go_enter_defers Tryz.func77, Tryz.ntmps77
    go_wp2
    refine leaves_cons (f := 112) (args := #[.pointer (some ⟨w.heap.size + 4, 0, none⟩), .pointer (some ⟨w.heap.size + 2, 0, none⟩), .pointer (some ⟨w.heap.size, 0, none⟩), .pointer (some ⟨w.heap.size + 1, 0, none⟩), .pointer (some ⟨w.heap.size + 3, 0, none⟩)]) (by simp) (by simp [go_sem]) ?_
    refine (undo_none w.heap.size s p 0 0 _ (vars_laid s p 0 0 false w)).mono ?_
    rintro e u' w1 ⟨rfl, rfl, hv, hb⟩
    obtain ⟨c0, c1, c2, c3, c4, f2, f3, f4⟩ := hv
    simp [Leaves, settle, results, Tryz.results77, go_sem, c2, c3, c4]
    exact ⟨rfl, (below_laid s p 0 0 false w).trans hb⟩
  · have hp0 : ¬ p < 0 := by omega
    go_enter_defers Tryz.func77, Tryz.ntmps77
    go_wp2
    refine leaves_cons (f := 112) (args := #[.pointer (some ⟨w.heap.size + 4, 0, none⟩), .pointer (some ⟨w.heap.size + 2, 0, none⟩), .pointer (some ⟨w.heap.size, 0, none⟩), .pointer (some ⟨w.heap.size + 1, 0, none⟩), .pointer (some ⟨w.heap.size + 3, 0, none⟩)]) (by simp) (by simp [go_sem]) ?_
    refine (undo_none w.heap.size s p 0 0 _ (vars_laid s p 0 0 false w)).mono ?_
    rintro e u' w1 ⟨rfl, rfl, hv, hb⟩
    obtain ⟨c0, c1, c2, c3, c4, f2, f3, f4⟩ := hv
    simp [Leaves, settle, results, Tryz.results77, go_sem, c2, c3, c4]
    exact ⟨rfl, (below_laid s p 0 0 false w).trans hb⟩

set_option maxRecDepth 100000 in
set_option maxHeartbeats 1000000 in
theorem get_none (s : ByteArray) (p : Nat) (hp : p < s.size) (hs : s.size ≤ 9223372036854775807) (ht : takeL 10 (s.data.toList.drop p) = none) (w : World) :
    Calls Tryz.prog 77 #[.string s, .int .i64 p] w fun e w' => e = .returned getNo ∧ Below w.heap.size w w' := by
  have hmf : ∀ (fn : Fn) (first cap : Array Value) (w : World), (Instr.makeFunc fn first cap).run Tryz.prog w = .ok (.func fn first cap) w := fun _ _ _ _ => rfl
  have HT : Hid (∀ w, Calls Tryz.prog 113 #[.string s, .int .i64 p] w fun e w' => e = .returned (.tuple #[.int .u64 0, .int .i64 0, .bool false]) ∧ w = w') := fun w => by
    have := take_any s p (by omega) hs w
    rw [ht] at this
    exact this
  clear ht
  go_enter_defers Tryz.func77, Tryz.ntmps77
  go_wp2_with (go_at_call 113; refine (HT.out _).mono ?_; rintro e w' ⟨rfl, rfl⟩)
  refine leaves_cons (f := 112) (args := #[.pointer (some ⟨w.heap.size + 4, 0, none⟩), .pointer (some ⟨w.heap.size + 2, 0, none⟩), .pointer (some ⟨w.heap.size, 0, none⟩), .pointer (some ⟨w.heap.size + 1, 0, none⟩), .pointer (some ⟨w.heap.size + 3, 0, none⟩)]) (by simp) (by simp [go_sem]) ?_
  refine (undo_none w.heap.size s p 0 0 _ (vars_laid s p 0 0 false w)).mono ?_
  rintro e u' w1 ⟨rfl, rfl, hv, hb⟩
  obtain ⟨c0, c1, c2, c3, c4, f2, f3, f4⟩ := hv
  simp [Leaves, settle, results, Tryz.results77, go_sem, c2, c3, c4]
  exact ⟨rfl, (below_laid s p 0 0 false w).trans hb⟩

set_option maxRecDepth 100000 in
set_option maxHeartbeats 1000000 in
theorem get_good (s : ByteArray) (p : Nat) (hs : s.size ≤ 9223372036854775807) (U n : Nat) (hU : U < 18446744073709551616) (hpn : p < n) (hn : n ≤ s.size) (v k : Nat) (hv : U = v % 18446744073709551616) (hk : n = p + k) (ht : takeL 10 (s.data.toList.drop p) = some (v, k))
    (hd : (str (putL U)).toList = (s.extract p n).toList) (w : World) :
    Calls Tryz.prog 77 #[.string s, .int .i64 p] w fun e w' => e = .returned (getYes U n) ∧ Below w.heap.size w w' := by
  have hmf : ∀ (fn : Fn) (first cap : Array Value) (w : World), (Instr.makeFunc fn first cap).run Tryz.prog w = .ok (.func fn first cap) w := fun _ _ _ _ => rfl
  have HT : Hid (∀ w, Calls Tryz.prog 113 #[.string s, .int .i64 p] w fun e w' => e = .returned (.tuple #[.int .u64 U, .int .i64 n, .bool true]) ∧ w = w') := fun w => by
    have := take_any s p (by omega) hs w
    rw [ht] at this
    subst hv hk
    exact this
  have HD := Lib.hid hd
  clear ht hv hk hd
  go_enter_defers Tryz.func77, Tryz.ntmps77
  go_wp2_with (go_at_call 113; refine (HT.out _).mono ?_; rintro e w' ⟨rfl, rfl⟩)
  refine leaves_cons (f := 112) (args := #[.pointer (some ⟨w.heap.size + 4, 0, none⟩), .pointer (some ⟨w.heap.size + 2, 0, none⟩), .pointer (some ⟨w.heap.size, 0, none⟩), .pointer (some ⟨w.heap.size + 1, 0, none⟩), .pointer (some ⟨w.heap.size + 3, 0, none⟩)]) (by simp) (by simp [go_sem]) ?_
  refine (undo_same w.heap.size s p n U hU (by omega) hn HD.out _ (vars_laid s p U n true w)).mono ?_
  rintro e u' w1 ⟨rfl, rfl, hv, hb⟩
  obtain ⟨c0, c1, c2, c3, c4, f2, f3, f4⟩ := hv
  simp [Leaves, settle, results, Tryz.results77, go_sem, c2, c3, c4]
  exact ⟨rfl, (below_laid s p U n true w).trans hb⟩

set_option maxRecDepth 100000 in
set_option maxHeartbeats 1000000 in
theorem get_bad (s : ByteArray) (p : Nat) (hs : s.size ≤ 9223372036854775807) (U n : Nat) (hU : U < 18446744073709551616) (hpn : p < n) (hn : n ≤ s.size) (v k : Nat) (hv : U = v % 18446744073709551616) (hk : n = p + k) (ht : takeL 10 (s.data.toList.drop p) = some (v, k))
    (hd : ((str (putL U)).toList == (s.extract p n).toList) = false) (w : World) :
    Calls Tryz.prog 77 #[.string s, .int .i64 p] w fun e w' => e = .returned getNo ∧ Below w.heap.size w w' := by
  have hmf : ∀ (fn : Fn) (first cap : Array Value) (w : World), (Instr.makeFunc fn first cap).run Tryz.prog w = .ok (.func fn first cap) w := fun _ _ _ _ => rfl
  have HT : Hid (∀ w, Calls Tryz.prog 113 #[.string s, .int .i64 p] w fun e w' => e = .returned (.tuple #[.int .u64 U, .int .i64 n, .bool true]) ∧ w = w') := fun w => by
    have := take_any s p (by omega) hs w
    rw [ht] at this
    subst hv hk
    exact this
  have HD := Lib.hid hd
  clear ht hv hk hd
  go_enter_defers Tryz.func77, Tryz.ntmps77
  go_wp2_with (go_at_call 113; refine (HT.out _).mono ?_; rintro e w' ⟨rfl, rfl⟩)
  refine leaves_cons (f := 112) (args := #[.pointer (some ⟨w.heap.size + 4, 0, none⟩), .pointer (some ⟨w.heap.size + 2, 0, none⟩), .pointer (some ⟨w.heap.size, 0, none⟩), .pointer (some ⟨w.heap.size + 1, 0, none⟩), .pointer (some ⟨w.heap.size + 3, 0, none⟩)]) (by simp) (by simp [go_sem]) ?_
  refine (undo_other w.heap.size s p n U hU (by omega) hn HD.out _ (vars_laid s p U n true w)).mono ?_
  rintro e u' w1 ⟨rfl, rfl, hv, hb⟩
  obtain ⟨c0, c1, c2, c3, c4, f2, f3, f4⟩ := hv
  simp [Leaves, settle, results, Tryz.results77, go_sem, c2, c3, c4]
  exact ⟨rfl, (below_laid s p U n true w).trans hb⟩

end Go.Proofs.YtbilkeadhflibaaGreatDoor.Wire

/- What wire.Get answers, for every text and place, by one plain function; of memory that was there nothing turns. -/
namespace Go.Proofs.YtbilkeadhflibaaGreatDoor.Wire
open Go.RowKit

/-- The number whose form stands in l at p, and the place behind it. -/
def getV (l : List UInt8) (p : Int) : Option (Nat × Nat) :=
  if p < 0 then none else
    match takeL 10 (l.drop p.toNat) with
    | none => none
    | some x => if putL (x.1 % 18446744073709551616) = (l.drop p.toNat).take x.2 then some (x.1 % 18446744073709551616, p.toNat + x.2) else none

theorem getV_lt {l : List UInt8} {p : Int} {u n : Nat} (h : getV l p = some (u, n)) : u < 18446744073709551616 ∧ p.toNat < n ∧ n ≤ l.length ∧ 0 ≤ p ∧ n = p.toNat + (putL u).length ∧ Stands u (l.drop p.toNat) := by
  unfold getV at h
  split at h
  · simp at h
  rename_i hp
  split at h
  · simp at h
  rename_i x ht
  split at h
  · rename_i he
    simp only [Option.some.injEq, Prod.mk.injEq] at h
    obtain ⟨rfl, rfl⟩ := h
    have hl := takeL_len _ _ _ _ ht
    have hu : x.1 % 18446744073709551616 < 18446744073709551616 := Nat.mod_lt _ (by decide)
    have hlen := congrArg List.length he
    rw [List.length_take] at hlen
    rw [List.length_drop] at hl hlen
    exact ⟨hu, by omega, by omega, by omega, by omega, stands_of hu he⟩
  · simp at h
theorem getV_of {l : List UInt8} {p u : Nat} (h : Stands u (l.drop p)) : getV l p = some (u, p + (putL u).length) := by
  unfold getV
  rw [if_neg (by omega), Int.toNat_natCast, h.takes]
  simp only
  rw [Nat.mod_eq_of_lt h.1, if_pos h.take.symm]
theorem getV_out {l : List UInt8} {p : Int} (h : p < 0 ∨ (l.length : Int) ≤ p) : getV l p = none := by
  unfold getV
  split
  · rfl
  · rw [List.drop_eq_nil_of_le (by omega)]
    rfl

theorem size_list (s : ByteArray) : s.data.toList.length = s.size := Array.length_toList
theorem ext_list (s : ByteArray) (p k : Nat) : (s.extract p (p + k)).toList = (s.data.toList.drop p).take k := by
  rw [Lib.toList_data, Lib.extract_data, Nat.add_sub_cancel_left]
theorem str_list (l : List UInt8) : (str l).toList = l := by rw [Lib.toList_data]; exact str_toList l

theorem get_yes (s : ByteArray) (hs : s.size ≤ 9223372036854775807) (p : Int) (u n : Nat) (h : getV s.data.toList p = some (u, n)) (w : World) :
    Calls Tryz.prog 77 #[.string s, .int .i64 p] w fun e w' => e = .returned (.tuple #[.int .u64 u, .int .i64 n, .bool true]) ∧ Below w.heap.size w w' := by
  have hb := getV_lt h
  obtain ⟨q, rfl⟩ := Int.eq_ofNat_of_zero_le hb.2.2.2.1
  simp only [Int.toNat_natCast] at hb
  have hst := hb.2.2.2.2.2
  refine get_good s q hs u n hb.1 hb.2.1 (by have := hb.2.2.1; rw [size_list] at this; exact this) u (putL u).length (Nat.mod_eq_of_lt hb.1).symm hb.2.2.2.2.1 hst.takes ?_ w
  rw [hb.2.2.2.2.1, ext_list, hst.take, str_list]
theorem get_no (s : ByteArray) (hs : s.size ≤ 9223372036854775807) (p : Int) (h : getV s.data.toList p = none) (w : World) :
    Calls Tryz.prog 77 #[.string s, .int .i64 p] w fun e w' => e = .returned (.tuple #[.int .u64 0, .int .i64 0, .bool false]) ∧ Below w.heap.size w w' := by
  by_cases hp : p < 0 ∨ (s.size : Int) ≤ p
  · exact get_out s p hp w
  · obtain ⟨q, rfl⟩ := Int.eq_ofNat_of_zero_le (show 0 ≤ p by omega)
    unfold getV at h
    rw [if_neg (by omega), Int.toNat_natCast] at h
    split at h
    · rename_i ht
      exact get_none s q (by omega) hs ht w
    · rename_i x ht
      split at h
      · simp at h
      · rename_i he
        have hl := takeL_len _ _ _ _ ht
        rw [List.length_drop, size_list] at hl
        refine get_bad s q hs (x.1 % 18446744073709551616) (q + x.2) (Nat.mod_lt _ (by decide)) (by omega) (by omega) x.1 x.2 rfl rfl ht ?_ w
        rw [ext_list, str_list]
        simpa using he
end Go.Proofs.YtbilkeadhflibaaGreatDoor.Wire

/- What strings.SplitN answers at a colon and five pieces, for every text: the pieces up to the fourth colon, in a new row; of memory that was there nothing turns. -/
namespace Go.Proofs.YtbilkeadhflibaaGreatDoor.Vec
open Go.RowKit Go.Proofs.YtbilkeadhflibaaGreatDoor.Wire

theorem str_data (s : ByteArray) : str s.data.toList = s := by cases s; rfl
/-- The pieces up to the k-th colon, and what is left. -/
def cutK : Nat → List UInt8 → List (List UInt8)
  | 0, l => [l]
  | k + 1, l => if Lib.indexByte l 58 = -1 then [l] else l.take (Lib.indexByte l 58).toNat :: cutK k (l.drop ((Lib.indexByte l 58).toNat + 1))

theorem index_cases (l : List UInt8) : (Lib.indexByte l 58 = -1 ∧ (58 : UInt8) ∉ l) ∨ ∃ i : Nat, Lib.indexByte l 58 = i ∧ i < l.length ∧ l = l.take i ++ 58 :: l.drop (i + 1) ∧ (58 : UInt8) ∉ l.take i := by
  have hge := Lib.indexByte_ge l 58
  by_cases h : Lib.indexByte l 58 = -1
  · left
    refine ⟨h, fun hm => ?_⟩
    obtain ⟨k, hk⟩ := List.mem_iff_getElem?.1 hm
    exact Lib.indexByte_none h k hk
  · right
    obtain ⟨i, hi⟩ := Int.eq_ofNat_of_zero_le (show 0 ≤ Lib.indexByte l 58 by omega)
    obtain ⟨h1, h2⟩ := Lib.indexByte_some hi
    obtain ⟨hlt, hv⟩ := List.getElem?_eq_some_iff.1 h1
    refine ⟨i, hi, hlt, ?_, fun hm => ?_⟩
    · rw [← hv, ← List.drop_eq_getElem_cons hlt, List.take_append_drop]
    · obtain ⟨k, hk⟩ := List.mem_iff_getElem?.1 hm
      rw [List.getElem?_take] at hk
      split at hk
      · rename_i hki; exact h2 k hki hk
      · simp at hk

theorem cutK_miss {l : List UInt8} (k : Nat) (h : Lib.indexByte l 58 = -1) : cutK k l = [l] := by
  cases k with
  | zero => rfl
  | succ k => rw [cutK, if_pos h]
theorem cutK_hit {l : List UInt8} (k i : Nat) (h : Lib.indexByte l 58 = i) : cutK (k + 1) l = l.take i :: cutK k (l.drop (i + 1)) := by
  rw [cutK, if_neg (by omega), h]; rfl
theorem cutK_length : ∀ (k : Nat) (l : List UInt8), (cutK k l).length ≤ k + 1 ∧ 1 ≤ (cutK k l).length
  | 0, l => by simp [cutK]
  | k + 1, l => by
    rcases index_cases l with ⟨h1, h2⟩ | ⟨i, h1, h2, h3, h4⟩
    · rw [cutK_miss _ h1]; simp
    · rw [cutK_hit k i h1, List.length_cons]
      have := cutK_length k (l.drop (i + 1))
      omega
/-! ### the walks -/

set_option maxHeartbeats 1000000 in
set_option maxRecDepth 100000 in
theorem indexByte_any (s : ByteArray) (c : Int) (w : World) :
    Calls Tryz.prog 173 #[.string s, .int .u8 c] w fun e w' => e = .returned (.int .i64 (Lib.indexByte s.data.toList c.toNat.toUInt8)) ∧ w = w' := by
  go_enter Tryz.func173, Tryz.ntmps173
  go_wp2
  rw [run_callFunc_extern Tryz.func179 (by kernel_rfl) (by kernel_rfl) (by kernel_rfl) (e := Extern.BytealgIndexByte.indexByte) (by kernel_rfl), Lib.run_indexByteString]
  simp only [Result.andThen]
  rw [Oper.upon_value]
  go_wp2
  go_ret
  exact ⟨rfl, rfl⟩

set_option maxHeartbeats 2000000 in
set_option maxRecDepth 100000 in
theorem index_lite (s : ByteArray) (w : World) :
    Calls Tryz.prog 162 #[.string s, .string ⟨#[58]⟩] w fun e w' => e = .returned (.int .i64 (Lib.indexByte s.data.toList 58)) ∧ w = w' := by
  go_enter Tryz.func162, Tryz.ntmps162
  go_wp2_with (go_at_call 173; refine (indexByte_any _ _ _).mono ?_; rintro e w' ⟨rfl, rfl⟩)
  · have h : ([58] == s.toList) = true := by assumption
    go_ret
    refine ⟨?_, rfl⟩
    have e : s.data.toList = [58] := by rw [← Lib.toList_data]; exact (beq_iff_eq.1 h).symm
    rw [e]
    rfl
  · go_ret
    exact ⟨rfl, rfl⟩
set_option maxHeartbeats 2000000 in
theorem index_any (s : ByteArray) (w : World) :
    Calls Tryz.prog 143 #[.string s, .string ⟨#[58]⟩] w fun e w' => e = .returned (.int .i64 (Lib.indexByte s.data.toList 58)) ∧ w = w' := by
  go_enter Tryz.func143, Tryz.ntmps143
  go_wp2_with (go_at_call 162; refine (index_lite _ _).mono ?_; rintro e w' ⟨rfl, rfl⟩)
  go_ret
  exact ⟨rfl, rfl⟩

theorem info9 : (Tryz.prog.info? 9).map (fun i => (i.zero, i.size, i.bytes)) = some (some (.string ByteArray.empty), 1, 16) := by kernel_rfl

theorem extract_take (s : ByteArray) (i : Nat) : s.extract 0 i = str (s.data.toList.take i) := by
  apply ByteArray.ext
  apply Array.toList_inj.1
  rw [Lib.extract_data]
  simp [str]
theorem extract_drop (s : ByteArray) (i : Nat) : s.extract i s.size = str (s.data.toList.drop i) := by
  apply ByteArray.ext
  apply Array.toList_inj.1
  rw [Lib.extract_data]
  simp [str]
  rw [List.take_of_length_le (by rw [List.length_drop, size_list]; omega)]

set_option maxHeartbeats 4000000 in
set_option maxRecDepth 1000000 in
theorem genSplit_any (s : ByteArray) (hs : s.size ≤ 4611686018427387904) (N : Nat) (hN : N = min 5 (s.size + 1)) (w : World) :
    Calls Tryz.prog 122 #[.string s, .string ⟨#[58]⟩, .int .i64 0, .int .i64 5] w fun e w' =>
      e = .returned (.slice (some ⟨w.heap.size, 0, none⟩) (cutK (N - 1) s.data.toList).length N) ∧ w' = w.alloc (.cells (Lib.cellsOf ((cutK (N - 1) s.data.toList).map str) N) 9) := by
  have eN : min (5 : Int) ((s.size : Int) + 1) = (N : Int) := by omega
  have hN4 : N ≤ 5 := by omega
  have hN1 : 1 ≤ N := by omega
  clear hN
  have hmk := run_make_row' (P := Tryz.prog) 28 9 (.string ByteArray.empty) 16 Tryz.underlying28 info9 rfl .i64 .i64 N (by omega) (by omega)
  go_enter Tryz.func122, Tryz.ntmps122
  go_wp2
  clear hmk eN
  go_loopg [0, 10] (N - 1) (fun g s0 s10 wr => ∃ (done : List (List UInt8)) (rest : ByteArray), s0 = .string rest ∧ s10 = .int .i64 done.length ∧ done.length ≤ N - 1 ∧ g = N - 1 - done.length ∧ rest.size ≤ s.size ∧
      wr = w.alloc (.cells (Lib.cellsOf (done.map str) N) 9) ∧ done ++ cutK (N - 1 - done.length) rest.data.toList = cutK (N - 1) s.data.toList)
  case atStart => exact ⟨[], s, rfl, rfl, Nat.zero_le _, rfl, Nat.le_refl _, by rw [List.map_nil, Lib.cellsOf_nil], rfl⟩
  case round =>
    obtain ⟨done, rest, rfl, rfl, hd, rfl, hrs, rfl, hsp⟩ := hrel
    have hlen : (done.map str).length = done.length := List.length_map _
    have hnext : (Lib.cellsOf (done.map str) N)[done.length]? = some (.string ByteArray.empty) := by
      have := Lib.cellsOf_next (done := done.map str) (N := N) (by omega)
      rwa [hlen] at this
    have HS := Lib.hid hsp
    clear hsp
    have fin : Hid (cutK (N - 1 - done.length) rest.data.toList = [rest.data.toList] → (cutK (N - 1) s.data.toList).length = done.length + 1 ∧ (Lib.cellsOf (done.map str) N).setIfInBounds done.length (.string rest) = Lib.cellsOf ((cutK (N - 1) s.data.toList).map str) N) := Lib.hid (fun h => by
      have e := HS.out
      rw [h] at e
      rw [← e]
      have := Lib.cellsOf_set (done := done.map str) (N := N) (by omega) rest
      rw [hlen] at this
      exact ⟨by simp, by rw [this, List.map_append, List.map_cons, List.map_nil, str_data]⟩)
    have HL := Lib.hid hlen
    clear hlen
    by_cases hlt : done.length < N - 1
    · have hltz : ((done.length : Nat) : Int) < (N : Int) - 1 := by omega
      rcases index_cases rest.data.toList with ⟨hix, hix'⟩ | ⟨i, hix, hroom, hl, hm⟩
      · have HM := Lib.hid hix
        have c0 : ((-1 : Int) < 0) := by omega
        clear hix hix'
        go_wp2_with (go_at_call 143; refine (index_any _ _).mono ?_; rintro e w' ⟨rfl, rfl⟩; rw [HM.out])
        go_ret
        obtain ⟨f1, f2⟩ := fin.out (cutK_miss _ HM.out)
        rw [f1, ← f2]
        exact ⟨by first | rfl | (congr 2 <;> omega), rfl⟩
      · have HM := Lib.hid hix
        have HE := Lib.hid hl
        rw [size_list] at hroom
        have c0 : ¬ ((i : Int) < 0) := by omega
        have c1 : (0 : Int) ≤ ↑i + 0 := by omega
        have c2 : (↑i + 0 : Int) ≤ ↑rest.size := by omega
        have c3 : (0 : Int) ≤ ↑i + 1 := by omega
        have c4 : (↑i + 1 : Int) ≤ ↑rest.size := by omega
        clear hix hl hm
        go_wp2_with (go_at_call 143; refine (index_any _ _).mono ?_; rintro e w' ⟨rfl, rfl⟩; rw [HM.out])
        go_roundg (N - 1 - (done.length + 1))
        case measure => omega
        case rel =>
          refine ⟨done ++ [rest.data.toList.take i], rest.extract (i + 1) rest.size, rfl, by simp, by simp; omega, by simp, by rw [ByteArray.size_extract]; omega, ?_, ?_⟩
          · have := Lib.cellsOf_set (done := done.map str) (N := N) (by rw [HL.out]; omega) (str (rest.data.toList.take i))
            rw [HL.out] at this
            rw [List.map_append, List.map_cons, List.map_nil, ← this, ← extract_take]
          · rw [← HS.out, extract_drop, str_toList, show N - 1 - done.length = (N - 1 - (done.length + 1)) + 1 by omega, cutK_hit _ i HM.out]
            simp
    · have hltz : ¬ (((done.length : Nat) : Int) < (N : Int) - 1) := by omega
      go_wp2
      go_ret
      obtain ⟨f1, f2⟩ := fin.out (by rw [show N - 1 - done.length = 0 by omega]; rfl)
      rw [f1, ← f2]
      exact ⟨by first | rfl | (congr 2 <;> omega), rfl⟩

set_option maxHeartbeats 1000000 in
theorem splitN_any (s : ByteArray) (hs : s.size ≤ 4611686018427387904) (N : Nat) (hN : N = min 5 (s.size + 1)) (w : World) :
    Calls Tryz.prog 88 #[.string s, .string ⟨#[58]⟩, .int .i64 5] w fun e w' =>
      e = .returned (.slice (some ⟨w.heap.size, 0, none⟩) (cutK (N - 1) s.data.toList).length N) ∧ w' = w.alloc (.cells (Lib.cellsOf ((cutK (N - 1) s.data.toList).map str) N) 9) := by
  have H := Lib.hid (genSplit_any s hs N hN w)
  clear hN
  go_enter Tryz.func88, Tryz.ntmps88
  go_wp2_with (go_at_call 122; refine H.out.mono ?_; rintro e w' ⟨rfl, hw⟩; rw [hw])
  go_ret
  exact ⟨rfl, rfl⟩

end Go.Proofs.YtbilkeadhflibaaGreatDoor.Vec

/- What vec.each does with whatever function is handed in: it hands it the four amounts in order, till it says no. Two amounts of four are the same just if each is. -/
namespace Go.Proofs.YtbilkeadhflibaaGreatDoor.Vec
open Go.RowKit

/-- Four amounts as a value. -/
def vec (a b c d : Int) : Value := .agg #[.int .u64 a, .int .u64 b, .int .u64 c, .int .u64 d]
/-- Four amounts in memory. -/
def box (a b c d : Int) : Obj := .cells #[.int .u64 a, .int .u64 b, .int .u64 c, .int .u64 d] 24

theorem index0 (x0 x1 x2 x3 : Int) (w : World) : (Instr.index 24 (.agg #[.int .u64 x0, .int .u64 x1, .int .u64 x2, .int .u64 x3]) (.int .i64 0)).run Tryz.prog w = .ok (.int .u64 x0) w := by kernel_rfl
theorem index1 (x0 x1 x2 x3 : Int) (w : World) : (Instr.index 24 (.agg #[.int .u64 x0, .int .u64 x1, .int .u64 x2, .int .u64 x3]) (.int .i64 1)).run Tryz.prog w = .ok (.int .u64 x1) w := by kernel_rfl
theorem index2 (x0 x1 x2 x3 : Int) (w : World) : (Instr.index 24 (.agg #[.int .u64 x0, .int .u64 x1, .int .u64 x2, .int .u64 x3]) (.int .i64 2)).run Tryz.prog w = .ok (.int .u64 x2) w := by kernel_rfl
theorem index3 (x0 x1 x2 x3 : Int) (w : World) : (Instr.index 24 (.agg #[.int .u64 x0, .int .u64 x1, .int .u64 x2, .int .u64 x3]) (.int .i64 3)).run Tryz.prog w = .ok (.int .u64 x3) w := by kernel_rfl

/-- Are two amounts the same, kind by kind? -/
def same (a0 a1 a2 a3 b0 b1 b2 b3 : Int) : Bool := a0 == b0 && a1 == b1 && a2 == b2 && a3 == b3
theorem equal_vec (d : Nat) (a0 a1 a2 a3 b0 b1 b2 b3 : Int) (w : World) :
    (Op.equalIn (d + 2) 24 (.agg #[.int .u64 a0, .int .u64 a1, .int .u64 a2, .int .u64 a3]) (.agg #[.int .u64 b0, .int .u64 b1, .int .u64 b2, .int .u64 b3])).run Tryz.prog w = .ok (same a0 a1 a2 a3 b0 b1 b2 b3) w := by
  have hu : Tryz.prog.underlying 24 = some (.array 4 22) := by kernel_rfl
  obtain ⟨i, hi⟩ : ∃ i, Tryz.prog.info? 22 = some i := Option.isSome_iff_exists.1 (by kernel_rfl)
  have hc : Tryz.prog.cellsOf 22 = 1 := by kernel_rfl
  have p0 : ∀ x0 x1 x2 x3 : Int, (part 22 #[.int .u64 x0, .int .u64 x1, .int .u64 x2, .int .u64 x3] 0).run Tryz.prog w = .ok (.int .u64 x0) w := fun _ _ _ _ => by kernel_rfl
  have p1 : ∀ x0 x1 x2 x3 : Int, (part 22 #[.int .u64 x0, .int .u64 x1, .int .u64 x2, .int .u64 x3] 1).run Tryz.prog w = .ok (.int .u64 x1) w := fun _ _ _ _ => by kernel_rfl
  have p2 : ∀ x0 x1 x2 x3 : Int, (part 22 #[.int .u64 x0, .int .u64 x1, .int .u64 x2, .int .u64 x3] 2).run Tryz.prog w = .ok (.int .u64 x2) w := fun _ _ _ _ => by kernel_rfl
  have p3 : ∀ x0 x1 x2 x3 : Int, (part 22 #[.int .u64 x0, .int .u64 x1, .int .u64 x2, .int .u64 x3] 3).run Tryz.prog w = .ok (.int .u64 x3) w := fun _ _ _ _ => by kernel_rfl
  have he : ∀ a b : Int, (Op.equalIn (d + 1) 22 (.int .u64 a) (.int .u64 b)).run Tryz.prog w = .ok (a == b) w := fun a b => run_equalIn_int w d 22 .u64 .u64 a b Tryz.underlying22
  rw [run_equalIn_array w (d + 1) _ _ hu hi, hc]
  have hr : List.range 4 = [0, 1, 2, 3] := rfl
  rw [hr]
  unfold same
  simp only [Op.eqItems, Sem.run_bind, Nat.mul_one, p0, he, Result.andThen_ok]
  obtain ⟨r0, e0⟩ : ∃ r, (a0 == b0) = r := ⟨_, rfl⟩
  obtain ⟨r1, e1⟩ : ∃ r, (a1 == b1) = r := ⟨_, rfl⟩
  obtain ⟨r2, e2⟩ : ∃ r, (a2 == b2) = r := ⟨_, rfl⟩
  obtain ⟨r3, e3⟩ : ∃ r, (a3 == b3) = r := ⟨_, rfl⟩
  rw [e0, e1, e2, e3]
  cases r0 <;> simp only [Bool.not_false, Bool.not_true, if_true, if_false, Bool.false_eq_true, Sem.run_pure, Sem.run_bind, p1, he, e1, Result.andThen_ok, Bool.false_and, Bool.true_and]
  cases r1 <;> simp only [Bool.not_false, Bool.not_true, if_true, if_false, Bool.false_eq_true, Sem.run_pure, Sem.run_bind, p2, he, e2, Result.andThen_ok, Bool.false_and, Bool.true_and]
  cases r2 <;> simp only [Bool.not_false, Bool.not_true, if_true, if_false, Bool.false_eq_true, Sem.run_pure, Sem.run_bind, p3, he, e3, Result.andThen_ok, Bool.false_and, Bool.true_and]
  cases r3 <;> simp only [Bool.not_false, Bool.not_true, if_true, if_false, Bool.false_eq_true, Sem.run_pure]
theorem same_refl (a0 a1 a2 a3 : Int) : same a0 a1 a2 a3 a0 a1 a2 a3 = true := by simp [same]
theorem same_iff {a0 a1 a2 a3 b0 b1 b2 b3 : Int} : same a0 a1 a2 a3 b0 b1 b2 b3 = true ↔ a0 = b0 ∧ a1 = b1 ∧ a2 = b2 ∧ a3 = b3 := by simp [same, and_assoc]

/-- One step: the function goes on, or says no. -/
def Step (Go : World → Prop) (No : World → Prop) (e : Ending) (w' : World) : Prop := (e = .returned (.bool true) ∧ Go w') ∨ (e = .returned (.bool false) ∧ No w')

set_option maxRecDepth 100000 in
set_option maxHeartbeats 1000000 in
theorem each_any (x0 x1 x2 x3 : Int) (f : FuncId) (cap : Array Value) (Inv : Nat → World → Prop) (Stop : World → Prop) (w : World)
    (hf : ∀ (args : Array Value) (w : World), (callFunc f args).run Tryz.prog w = .ok (.enter f args) w)
    (h0 : Inv 0 (w.alloc (box x0 x1 x2 x3)))
    (s0 : ∀ wr, Inv 0 wr → Calls Tryz.prog f (#[.int .i64 0, .int .u64 x0] ++ cap) wr (Step (Inv 1) Stop))
    (s1 : ∀ wr, Inv 1 wr → Calls Tryz.prog f (#[.int .i64 1, .int .u64 x1] ++ cap) wr (Step (Inv 2) Stop))
    (s2 : ∀ wr, Inv 2 wr → Calls Tryz.prog f (#[.int .i64 2, .int .u64 x2] ++ cap) wr (Step (Inv 3) Stop))
    (s3 : ∀ wr, Inv 3 wr → Calls Tryz.prog f (#[.int .i64 3, .int .u64 x3] ++ cap) wr (Step (Inv 4) Stop)) :
    Calls Tryz.prog 93 #[vec x0 x1 x2 x3, .func (.func f) #[] cap] w (Step (Inv 4) Stop) := by
  unfold vec
  have H0 := Lib.hid s0
  have H1 := Lib.hid s1
  have H2 := Lib.hid s2
  have H3 := Lib.hid s3
  clear s0 s1 s2 s3
  unfold box at h0
  have i0 := index0 x0 x1 x2 x3
  have i1 := index1 x0 x1 x2 x3
  have i2 := index2 x0 x1 x2 x3
  have i3 := index3 x0 x1 x2 x3
  go_enter Tryz.func93, Tryz.ntmps93
  go_wp2
  go_loopw [8] (fun i wr => ∃ k : Nat, k ≤ 4 ∧ i = .int .i64 k ∧ Inv k wr) (fun i _ => 4 - (intOf i).toNat)
  case atStart => exact ⟨0, by omega, rfl, h0⟩
  case round =>
    obtain ⟨k, hk, rfl, hi⟩ := hrel
    have hk' : k = 0 ∨ k = 1 ∨ k = 2 ∨ k = 3 ∨ k = 4 := by omega
    rcases hk' with rfl | rfl | rfl | rfl | rfl
    · go_wp2_with fail
      refine (H0.out _ hi).mono ?_
      rintro e w1 (⟨rfl, hgo⟩ | ⟨rfl, hno⟩)
      · go_wp2
        go_roundw
        case rel => exact ⟨1, by omega, rfl, hgo⟩
        case measure => simp [intOf]
      · go_wp2
        go_ret
        exact .inr ⟨rfl, hno⟩
    · go_wp2_with fail
      refine (H1.out _ hi).mono ?_
      rintro e w1 (⟨rfl, hgo⟩ | ⟨rfl, hno⟩)
      · go_wp2
        go_roundw
        case rel => exact ⟨2, by omega, rfl, hgo⟩
        case measure => simp [intOf]
      · go_wp2
        go_ret
        exact .inr ⟨rfl, hno⟩
    · go_wp2_with fail
      refine (H2.out _ hi).mono ?_
      rintro e w1 (⟨rfl, hgo⟩ | ⟨rfl, hno⟩)
      · go_wp2
        go_roundw
        case rel => exact ⟨3, by omega, rfl, hgo⟩
        case measure => simp [intOf]
      · go_wp2
        go_ret
        exact .inr ⟨rfl, hno⟩
    · go_wp2_with fail
      refine (H3.out _ hi).mono ?_
      rintro e w1 (⟨rfl, hgo⟩ | ⟨rfl, hno⟩)
      · go_wp2
        go_roundw
        case rel => exact ⟨4, by omega, rfl, hgo⟩
        case measure => simp [intOf]
      · go_wp2
        go_ret
        exact .inr ⟨rfl, hno⟩
    · go_wp2
      go_ret
      exact .inl ⟨rfl, hi⟩
end Go.Proofs.YtbilkeadhflibaaGreatDoor.Vec

/- What vec.turn makes of whatever function is handed in: the four answers, if it says yes each time; nothing and false, if not. -/
namespace Go.Proofs.YtbilkeadhflibaaGreatDoor.Vec
open Go.RowKit

/-- Blocks from H on that were there are as they were. -/
def Keeps (H : Nat) (w w' : World) : Prop := w.heap.size ≤ w'.heap.size ∧ ∀ k, H ≤ k → k < w.heap.size → w'.heap[k]? = w.heap[k]?
theorem Keeps.refl (H : Nat) (w : World) : Keeps H w w := ⟨Nat.le_refl _, fun _ _ _ => rfl⟩
theorem Keeps.trans {H : Nat} {a b c : World} (h : Keeps H a b) (k : Keeps H b c) : Keeps H a c :=
  ⟨Nat.le_trans h.1 k.1, fun i h1 h2 => (k.2 i h1 (Nat.lt_of_lt_of_le h2 h.1)).trans (h.2 i h1 h2)⟩
theorem Keeps.drewN (H : Nat) (w : World) (n : Nat) : Keeps H w (w.drewN n) := ⟨Nat.le_refl _, fun _ _ _ => rfl⟩
theorem Keeps.of_below {H : Nat} {w w' : World} (h : Below w.heap.size w w') : Keeps H w w' := ⟨h.size, fun k _ hk => h.block k hk⟩
theorem Keeps.set {H : Nat} {w w' : World} (h : Keeps H w w') {a : Addr} (ha : a.block < H) (v : Value) : Keeps H w (w'.setCell a v) :=
  ⟨by simpa using h.1, fun k h1 h2 => (heap_setCell_other _ _ _ _ (by omega)).trans (h.2 k h1 h2)⟩

theorem cell_at {w : World} {b i : Nat} {cs : Array Value} {t : TypeId} {v : Value} (h : w.heap[b]? = some (.cells cs t)) (hi : cs[i]? = some v) : w.cell? ⟨b, i, none⟩ = some v := by
  simp [World.cell?, h, hi]
theorem frozen_at {w : World} {b i : Nat} {cs : Array Value} {t : TypeId} (h : w.heap[b]? = some (.cells cs t)) : w.frozen? ⟨b, i, none⟩ = false := by
  simp [World.frozen?, h]

/-- The cells of four amounts in memory. -/
theorem cells4 {w : World} {T : Nat} {t0 t1 t2 t3 : Int} (h : w.heap[T]? = some (box t0 t1 t2 t3)) :
    w.cell? ⟨T, 0, none⟩ = some (.int .u64 t0) ∧ w.cell? ⟨T, 1, none⟩ = some (.int .u64 t1) ∧ w.cell? ⟨T, 2, none⟩ = some (.int .u64 t2) ∧ w.cell? ⟨T, 3, none⟩ = some (.int .u64 t3) ∧
    w.frozen? ⟨T, 0, none⟩ = false ∧ w.frozen? ⟨T, 1, none⟩ = false ∧ w.frozen? ⟨T, 2, none⟩ = false ∧ w.frozen? ⟨T, 3, none⟩ = false :=
  ⟨cell_at h rfl, cell_at h rfl, cell_at h rfl, cell_at h rfl, frozen_at h, frozen_at h, frozen_at h, frozen_at h⟩

/-- Four amounts stored. -/
def set4 (T : Nat) (a b c d : Int) (w : World) : World :=
  (((w.setCell ⟨T, 0, none⟩ (.int .u64 a)).setCell ⟨T, 1, none⟩ (.int .u64 b)).setCell ⟨T, 2, none⟩ (.int .u64 c)).setCell ⟨T, 3, none⟩ (.int .u64 d)
theorem set4_box {w : World} {T : Nat} {t0 t1 t2 t3 : Int} (h : w.heap[T]? = some (box t0 t1 t2 t3)) (a b c d : Int) : (set4 T a b c d w).heap[T]? = some (box a b c d) := by
  unfold box at h
  unfold set4
  have h1 := heap_setCell_same w T 0 _ _ (.int .u64 a) h
  have h2 := heap_setCell_same _ T 1 _ _ (.int .u64 b) h1
  have h3 := heap_setCell_same _ T 2 _ _ (.int .u64 c) h2
  have h4 := heap_setCell_same _ T 3 _ _ (.int .u64 d) h3
  rw [h4]
  rfl
theorem set4_below {H T : Nat} {a b c d : Int} {w0 w : World} (h : Below H w0 w) (hT : H ≤ T) : Below H w0 (set4 T a b c d w) :=
  (((h.setCell hT _).setCell hT _).setCell hT _).setCell hT _
theorem set4_size (T : Nat) (a b c d : Int) (w : World) : (set4 T a b c d w).heap.size = w.heap.size := by simp [set4]

/-- What was told of the handed-in function: a number and a yes or no, and what became of memory. -/
def Tells (v : Int) (ok : Bool) (R : World → Prop) (e : Ending) (w' : World) : Prop := e = .returned (.tuple #[.int .u64 v, .bool ok]) ∧ R w'

/-- A number stored into one of the four. -/
def put (H k : Nat) (v : Int) (w : World) : World := w.setCell ⟨H, k, none⟩ (.int .u64 v)

set_option maxRecDepth 100000 in
set_option maxHeartbeats 1000000 in
theorem turn1 (g : FuncId) (cap : Array Value) (hf : ∀ (args : Array Value) (w : World), (callFunc g args).run Tryz.prog w = .ok (.enter g args) w)
    (D T : Nat) (k : Nat) (hk : k < 4) (x t0 t1 t2 t3 v : Int) (ok : Bool) (R : World → Prop) (wr : World)
    (hd : wr.heap[D]? = some (.cells #[.func (.func g) #[] cap] 110))
    (st : Calls Tryz.prog g (#[.int .i64 k, .int .u64 x] ++ cap) wr (Tells v ok R))
    (hR : ∀ w', R w' → w'.heap[T]? = some (box t0 t1 t2 t3)) :
    Calls Tryz.prog 109 #[.int .i64 k, .int .u64 x, .pointer (some ⟨D, 0, none⟩), .pointer (some ⟨T, 0, none⟩)] wr fun e w' => e = .returned (.bool ok) ∧ ∃ w1, R w1 ∧ w' = put T k v w1 := by
  have hc := cell_at (i := 0) hd rfl
  have HS := Lib.hid st
  have HR := Lib.hid hR
  clear st hR hd
  have hk' : (k : Int) < 4 := by omega
  have hk0 : (0 : Int) ≤ (k : Int) := by omega
  go_enter Tryz.func109, Tryz.ntmps109
  go_wp2_with fail
  refine HS.out.mono ?_
  rintro e w1 ⟨rfl, hr⟩
  have ht := HR.out w1 hr
  have c : ∃ u, w1.cell? ⟨T, k, none⟩ = some u := by
    have : k = 0 ∨ k = 1 ∨ k = 2 ∨ k = 3 := by omega
    rcases this with rfl | rfl | rfl | rfl
    · exact ⟨_, cell_at ht rfl⟩
    · exact ⟨_, cell_at ht rfl⟩
    · exact ⟨_, cell_at ht rfl⟩
    · exact ⟨_, cell_at ht rfl⟩
  obtain ⟨u, hu⟩ := c
  have fz : w1.frozen? ⟨T, k, none⟩ = false := frozen_at ht
  clear ht
  go_wp2
  go_ret
  exact ⟨rfl, w1, hr, rfl⟩

/-- Yes and this, or no and that. -/
def Goes (b : Bool) (p q : Prop) : Prop := (b = true ∧ p) ∨ (b = false ∧ q)

/-- The four as far as they have been told. -/
def upTo (k : Nat) (v : Nat → Int) (i : Nat) : Int := if i < k then v i else 0
/-- What lies in memory ahead of step k. -/
def Laid (H : Nat) (g : FuncId) (cap : Array Value) (v : Nat → Int) (k : Nat) (w : World) : Prop :=
  H + 3 ≤ w.heap.size ∧ w.heap[H + 1]? = some (.cells #[.func (.func g) #[] cap] 110) ∧ w.heap[H + 2]? = some (box (upTo k v 0) (upTo k v 1) (upTo k v 2) (upTo k v 3))
def Ahead (H : Nat) (g : FuncId) (cap : Array Value) (v : Nat → Int) (ok : Nat → Bool) (P : Nat → World → Prop) (k : Nat) (w : World) : Prop :=
  P k w ∧ (∀ i, i < k → ok i = true) ∧ Laid H g cap v k w
def Ended (H : Nat) (ok : Nat → Bool) (Q : World → Prop) (w : World) : Prop :=
  Q w ∧ (∃ i, i < 4 ∧ ok i = false) ∧ ∃ t0 t1 t2 t3, w.heap[H + 2]? = some (box t0 t1 t2 t3)

theorem put_box {w : World} {T : Nat} {t0 t1 t2 t3 : Int} (h : w.heap[T]? = some (box t0 t1 t2 t3)) (v : Int) :
    (put T 0 v w).heap[T]? = some (box v t1 t2 t3) ∧ (put T 1 v w).heap[T]? = some (box t0 v t2 t3) ∧ (put T 2 v w).heap[T]? = some (box t0 t1 v t3) ∧ (put T 3 v w).heap[T]? = some (box t0 t1 t2 v) := by
  unfold box at h
  refine ⟨?_, ?_, ?_, ?_⟩ <;> (unfold put; rw [heap_setCell_same _ _ _ _ _ _ h]; rfl)
theorem put_upTo {w : World} {T : Nat} {v : Nat → Int} (k : Nat) (hk : k < 4) (h : w.heap[T]? = some (box (upTo k v 0) (upTo k v 1) (upTo k v 2) (upTo k v 3))) :
    (put T k (v k) w).heap[T]? = some (box (upTo (k + 1) v 0) (upTo (k + 1) v 1) (upTo (k + 1) v 2) (upTo (k + 1) v 3)) := by
  have : k = 0 ∨ k = 1 ∨ k = 2 ∨ k = 3 := by omega
  rcases this with rfl | rfl | rfl | rfl
  · exact (put_box h _).1
  · exact (put_box h _).2.1
  · exact (put_box h _).2.2.1
  · exact (put_box h _).2.2.2
theorem below_put {H T k : Nat} {v : Int} {w : World} (h : H ≤ T) : Below H w (put T k v w) := (Below.refl _ _).setCell (by simpa using h) _

/-- What is known of the handed-in function at step k. -/
def Fair (H : Nat) (g : FuncId) (cap : Array Value) (x v : Nat → Int) (ok : Nat → Bool) (P : Nat → World → Prop) (Q : World → Prop) : Prop :=
  ∀ k, k < 4 → ∀ wr, H ≤ wr.heap.size → P k wr → Calls Tryz.prog g (#[.int .i64 k, .int .u64 (x k)] ++ cap) wr (Tells (v k) (ok k) fun w' => Keeps H wr w' ∧ Goes (ok k) (P (k + 1) w') (Q w'))

theorem turn_step {H : Nat} {g : FuncId} {cap : Array Value} (hf : ∀ (args : Array Value) (w : World), (callFunc g args).run Tryz.prog w = .ok (.enter g args) w)
    {x v : Nat → Int} {ok : Nat → Bool} {P : Nat → World → Prop} {Q : World → Prop} (hP : ∀ k a b, Below H a b → P k a → P k b) (hQ : ∀ a b, Below H a b → Q a → Q b) (st : Fair H g cap x v ok P Q)
    (k : Nat) (hk : k < 4) (wr : World) (h : Ahead H g cap v ok P k wr) :
    Calls Tryz.prog 109 (#[.int .i64 k, .int .u64 (x k)] ++ #[.pointer (some ⟨H + 1, 0, none⟩), .pointer (some ⟨H + 2, 0, none⟩)]) wr (Step (Ahead H g cap v ok P (k + 1)) (Ended H ok Q)) := by
  obtain ⟨hp, hall, hs, hd, ht⟩ := h
  refine (turn1 g cap hf (H + 1) (H + 2) k hk (x k) _ _ _ _ (v k) (ok k) _ wr hd (st k hk wr (by omega) hp) (fun w' hw' => (hw'.1.2 (H + 2) (by omega) (by omega)).trans ht)).mono ?_
  rintro e w' ⟨rfl, w1, ⟨hkeep, hgo⟩, rfl⟩
  have ht' := (hkeep.2 (H + 2) (by omega) (by omega)).trans ht
  have hd' := (hkeep.2 (H + 1) (by omega) (by omega)).trans hd
  have hs' : H + 3 ≤ (put (H + 2) k (v k) w1).heap.size := by have := hkeep.1; simp [put]; omega
  rcases hgo with ⟨hok, hp'⟩ | ⟨hok, hq⟩
  · rw [hok]
    refine .inl ⟨rfl, hP _ _ _ (below_put (by omega)) hp', ?_, hs', ?_, put_upTo k hk ht'⟩
    · intro i hi
      by_cases e : i = k
      · rw [e, hok]
      · exact hall i (by omega)
    · unfold put
      rw [heap_setCell_other _ _ _ _ (by simp)]
      exact hd'
  · rw [hok]
    exact .inr ⟨rfl, hQ _ _ (below_put (by omega)) hq, ⟨k, hk, hok⟩, _, _, _, _, put_upTo k hk ht'⟩

/-- What turn hands back. -/
def Turned (v : Nat → Int) (ok : Nat → Bool) (P : Nat → World → Prop) (Q : World → Prop) (e : Ending) (w' : World) : Prop :=
  ((∀ i, i < 4 → ok i = true) ∧ e = .returned (.tuple #[vec (v 0) (v 1) (v 2) (v 3), .bool true]) ∧ P 4 w') ∨ ((∃ i, i < 4 ∧ ok i = false) ∧ e = .returned (.tuple #[vec 0 0 0 0, .bool false]) ∧ Q w')

set_option maxRecDepth 100000 in
set_option maxHeartbeats 1000000 in
theorem turn_any {g : FuncId} {cap : Array Value} (hf : ∀ (args : Array Value) (w : World), (callFunc g args).run Tryz.prog w = .ok (.enter g args) w)
    {x v : Nat → Int} {ok : Nat → Bool} {P : Nat → World → Prop} {Q : World → Prop} (w : World) (hP : ∀ k a b, Below w.heap.size a b → P k a → P k b) (hQ : ∀ a b, Below w.heap.size a b → Q a → Q b) (st : Fair w.heap.size g cap x v ok P Q)
    (h0 : P 0 w) :
    Calls Tryz.prog 69 #[vec (x 0) (x 1) (x 2) (x 3), .func (.func g) #[] cap] w (Turned v ok P Q) := by
  obtain ⟨H, hH⟩ : ∃ H, H = w.heap.size := ⟨_, rfl⟩
  have hstep := fun k hk => turn_step (H := w.heap.size) hf hP hQ st k hk
  have hcl : ∀ (args : Array Value) (w : World), (callFunc 109 args).run Tryz.prog w = .ok (.enter 109 args) w := fun _ _ => by kernel_rfl
  have hat : ∀ w3 : World, w3 = ((w.alloc (box (x 0) (x 1) (x 2) (x 3))).alloc (.cells #[.func (.func g) #[] cap] 110)).alloc (box 0 0 0 0) →
      Ahead w.heap.size g cap v ok P 0 (w3.alloc (box (x 0) (x 1) (x 2) (x 3))) := by
    rintro w3 rfl
    refine ⟨hP _ _ _ ((((((Below.refl _ _).alloc (Nat.le_refl _) _).alloc (by simp) _).alloc (by simp; omega) _).alloc (by simp; omega) _)) h0, fun i hi => absurd hi (by omega), by simp, ?_, ?_⟩
    · rw [heap_alloc_old _ _ (by simp), heap_alloc_old _ _ (by simp)]
      exact heap_alloc2_new _ _ _
    · rw [heap_alloc_old _ _ (by simp)]
      exact heap_alloc_new ((w.alloc (box (x 0) (x 1) (x 2) (x 3))).alloc (.cells #[.func (.func g) #[] cap] 110)) (box 0 0 0 0) ▸ (by simp)
  have HA := Lib.hid hat
  have HE := fun W hW => Lib.hid (each_any (x 0) (x 1) (x 2) (x 3) 109 #[.pointer (some ⟨w.heap.size + 1, 0, none⟩), .pointer (some ⟨w.heap.size + 1 + 1, 0, none⟩)] (Ahead w.heap.size g cap v ok P) (Ended w.heap.size ok Q) W hcl hW
    (hstep 0 (by omega)) (hstep 1 (by omega)) (hstep 2 (by omega)) (hstep 3 (by omega)))
  clear hstep hcl hat st h0 hf hH
  unfold vec
  unfold vec box at HE HA
  go_enter Tryz.func69, Tryz.ntmps69
  go_wp2_with fail
  refine ((HE _ (HA.out _ rfl)).out).mono ?_
  rintro e w1 (⟨rfl, hgo⟩ | ⟨rfl, hno⟩)
  · obtain ⟨hp, hall, hs, hd, ht0⟩ := hgo
    have ht : w1.heap[w.heap.size + 1 + 1]? = some (box (v 0) (v 1) (v 2) (v 3)) := ht0
    obtain ⟨c0, c1, c2, c3, f0, f1, f2, f3⟩ := cells4 ht
    obtain ⟨d0, d1, d2, d3, _⟩ := cells4 (set4_box ht (v 0) (v 1) (v 2) (v 3))
    have HP := Lib.hid (hP 4 _ _ (set4_below (T := w.heap.size + 1 + 1) (a := v 0) (b := v 1) (c := v 2) (d := v 3) (Below.refl _ w1) (by omega)) hp)
    have HL := Lib.hid hall
    have HD := Lib.hid (And.intro d0 (And.intro d1 (And.intro d2 d3)))
    clear hd ht ht0 HE HA hp hall d0 d1 d2 d3 hP hQ
    go_wp2
    obtain ⟨d0, d1, d2, d3⟩ := HD.out
    unfold set4 at d0 d1 d2 d3
    refine bodyPost_ret (v := .tuple #[.agg #[.int .u64 (v 0), .int .u64 (v 1), .int .u64 (v 2), .int .u64 (v 3)], .bool true]) (by simp [results, Tryz.results69, go_sem, d0, d1, d2, d3]) rfl ?_
    exact .inl ⟨HL.out, rfl, HP.out⟩
  · obtain ⟨hq, hi, t0, t1, t2, t3, ht0⟩ := hno
    have ht : w1.heap[w.heap.size + 1 + 1]? = some (box t0 t1 t2 t3) := ht0
    obtain ⟨c0, c1, c2, c3, f0, f1, f2, f3⟩ := cells4 ht
    obtain ⟨d0, d1, d2, d3, _⟩ := cells4 (set4_box ht 0 0 0 0)
    have HP := Lib.hid (hQ _ _ (set4_below (T := w.heap.size + 1 + 1) (a := 0) (b := 0) (c := 0) (d := 0) (Below.refl _ w1) (by omega)) hq)
    have HL := Lib.hid hi
    have HD := Lib.hid (And.intro d0 (And.intro d1 (And.intro d2 d3)))
    clear ht ht0 HE HA hq hi d0 d1 d2 d3 hP hQ
    go_wp2
    obtain ⟨d0, d1, d2, d3⟩ := HD.out
    unfold set4 at d0 d1 d2 d3
    refine bodyPost_ret (v := .tuple #[.agg #[.int .u64 0, .int .u64 0, .int .u64 0, .int .u64 0], .bool false]) (by simp [results, Tryz.results69, go_sem, d0, d1, d2, d3]) rfl ?_
    exact .inr ⟨HL.out, rfl, HP.out⟩
end Go.Proofs.YtbilkeadhflibaaGreatDoor.Vec

/- What wire.Add, wire.Sub and wire.Mul answer, for every two numbers of 64 bits: the sum, difference or product and true, or 0 and false; the world stays as it was. -/
namespace Go.Proofs.YtbilkeadhflibaaGreatDoor.Num
open Go.RowKit

theorem adds (a b : Int) (ha : 0 ≤ a) (hb : 0 ≤ b) (w : World) :
    (callFunc 108 #[.int .u64 a, .int .u64 b, .int .u64 0]).run Tryz.prog w =
      .ok (.value (.tuple #[.int .u64 ((a + b) % 18446744073709551616), .int .u64 ((a + b) / 18446744073709551616)])) w := by
  rw [run_callFunc_extern Tryz.func108 (by kernel_rfl) (by kernel_rfl) (by kernel_rfl) (e := add64Entry) (by kernel_rfl), run_add64 a b 0 ha hb (by omega) (by omega)]
  simp only [Result.andThen, Int.add_zero]

theorem add_yes (a b : Int) (ha : 0 ≤ a) (hb : 0 ≤ b) (h : a + b ≤ 18446744073709551615) (w : World) :
    Calls Tryz.prog 68 #[.int .u64 a, .int .u64 b] w fun e w' => e = .returned (.tuple #[.int .u64 (a + b), .bool true]) ∧ w = w' := by
  have hc := adds a b ha hb
  rw [show (a + b) % 18446744073709551616 = a + b from by omega, show (a + b) / 18446744073709551616 = 0 from by omega] at hc
  go_enter Tryz.func68, Tryz.ntmps68
  go_wp2
  go_ret2
  exact ⟨rfl, rfl⟩

theorem add_no (a b : Int) (ha : 0 ≤ a) (hb : 0 ≤ b) (ha' : a ≤ 18446744073709551615) (hb' : b ≤ 18446744073709551615) (h : 18446744073709551615 < a + b) (w : World) :
    Calls Tryz.prog 68 #[.int .u64 a, .int .u64 b] w fun e w' => e = .returned (.tuple #[.int .u64 0, .bool false]) ∧ w = w' := by
  have hc := adds a b ha hb
  rw [show (a + b) / 18446744073709551616 = 1 from by omega] at hc
  go_enter Tryz.func68, Tryz.ntmps68
  go_wp2
  go_ret2
  exact ⟨rfl, rfl⟩



/-- No step of the school method on halves of 32 bits goes round. -/
theorem mul_steps (x y : Nat) (hx : x < 18446744073709551616) (hy : y < 18446744073709551616) :
    x / 4294967296 * (y / 4294967296) < 18446744073709551616 ∧ x / 4294967296 * (y % 4294967296) < 18446744073709551616 ∧ x % 4294967296 * (y / 4294967296) < 18446744073709551616 ∧
    x / 4294967296 * (y / 4294967296) + (x / 4294967296 * (y % 4294967296) + x % 4294967296 * (y % 4294967296) / 4294967296) / 4294967296 < 18446744073709551616 := by
  have h1 := Lib.half_mul_le (a := x / 4294967296) (b := y / 4294967296) (by omega) (by omega)
  have h2 := Lib.half_mul_le (a := x / 4294967296) (b := y % 4294967296) (by omega) (by omega)
  have h3 := Lib.half_mul_le (a := x % 4294967296) (b := y / 4294967296) (by omega) (by omega)
  have h4 := Lib.half_mul_le (a := x % 4294967296) (b := y % 4294967296) (by omega) (by omega)
  refine ⟨?_, ?_, ?_, ?_⟩ <;> omega

theorem high_lt (x y : Nat) (hx : x < 18446744073709551616) (hy : y < 18446744073709551616) : x * y / 18446744073709551616 < 18446744073709551616 := by
  rw [Nat.div_lt_iff_lt_mul (by decide)]
  exact Nat.mul_lt_mul'' hx hy

set_option maxHeartbeats 1000000 in
theorem mul64 (x y : Nat) (hx : x < 18446744073709551616) (hy : y < 18446744073709551616) (w : World) :
    Calls Tryz.prog 110 #[.int .u64 x, .int .u64 y] w fun e w' => e = .returned (.tuple #[.int .u64 ((x * y / 18446744073709551616 : Nat) : Int), .int .u64 ((x * y % 18446744073709551616 : Nat) : Int)]) ∧ w = w' := by
  obtain ⟨s1, s2, s3, hhi⟩ := Lib.mul64_hi x y hx hy
  obtain ⟨s4, s5, s6, s7⟩ := mul_steps x y hx hy
  have s8 := high_lt x y hx hy
  rw [← hhi] at s8
  have H := Lib.hid hhi
  clear hhi
  go_enter Tryz.func110, Tryz.ntmps110
  go_wp2
  simp only [Mul64.maskN x hx, Mul64.maskN y hy, Mul64.maskN _ s2, Mul64.divN, Mul64.mulN, Mul64.addN, Mul64.wrapN _ s1, Mul64.wrapN _ s2, Mul64.wrapN _ s3, Mul64.wrapN _ s4, Mul64.wrapN _ s5, Mul64.wrapN _ s6, Mul64.wrapN _ s7, Mul64.wrapN _ s8, Mul64.wrapM (x * y)]
  rw [H.out]
  go_ret2
  exact ⟨rfl, rfl⟩

theorem mul_yes (x y : Nat) (hx : x < 18446744073709551616) (hy : y < 18446744073709551616) (h : x * y < 18446744073709551616) (w : World) :
    Calls Tryz.prog 71 #[.int .u64 x, .int .u64 y] w fun e w' => e = .returned (.tuple #[.int .u64 ((x * y : Nat) : Int), .bool true]) ∧ w = w' := by
  have hm := mul64 x y hx hy
  rw [Nat.div_eq_of_lt h, Nat.mod_eq_of_lt h] at hm
  have HM := Lib.hid hm
  clear hm
  obtain ⟨p, hp⟩ : ∃ p, p = x * y := ⟨_, rfl⟩
  rw [← hp] at HM h ⊢
  have HP := Lib.hid hp
  clear hp
  go_enter Tryz.func71, Tryz.ntmps71
  go_wp2_with (go_at_call 110; refine (HM.out _).mono ?_; rintro e w' ⟨rfl, rfl⟩)
  go_ret2
  exact ⟨rfl, rfl⟩

theorem mul_no (x y : Nat) (hx : x < 18446744073709551616) (hy : y < 18446744073709551616) (h : 18446744073709551616 ≤ x * y) (w : World) :
    Calls Tryz.prog 71 #[.int .u64 x, .int .u64 y] w fun e w' => e = .returned (.tuple #[.int .u64 0, .bool false]) ∧ w = w' := by
  have hm := mul64 x y hx hy
  obtain ⟨p, hp⟩ : ∃ p, p = x * y := ⟨_, rfl⟩
  rw [← hp] at hm h
  have HM := Lib.hid hm
  clear hm
  have hq : 1 ≤ p / 18446744073709551616 := by omega
  obtain ⟨q, hq'⟩ : ∃ q, q = p / 18446744073709551616 := ⟨_, rfl⟩
  rw [← hq'] at HM hq
  clear hp hq'
  go_enter Tryz.func71, Tryz.ntmps71
  go_wp2_with (go_at_call 110; refine (HM.out _).mono ?_; rintro e w' ⟨rfl, rfl⟩)
  go_ret2
  exact ⟨rfl, rfl⟩
end Go.Proofs.YtbilkeadhflibaaGreatDoor.Num

/- What vec.join, Add, Sub and Times answer, for every amounts: amount by amount what wire's Add, Sub, Mul answer; nothing and false, if one of these says no; of memory that was there nothing turns. -/
namespace Go.Proofs.YtbilkeadhflibaaGreatDoor.Vec
open Go.RowKit

/-- What a pure function of two numbers answers. -/
def Pure2 (op : FuncId) (x y v : Int) (ok : Bool) : Prop := ∀ w, Calls Tryz.prog op #[.int .u64 x, .int .u64 y] w fun e w' => e = .returned (.tuple #[.int .u64 v, .bool ok]) ∧ w = w'

set_option maxRecDepth 100000 in
set_option maxHeartbeats 1000000 in
theorem join1 (op : FuncId) (hf : ∀ (args : Array Value) (w : World), (callFunc op args).run Tryz.prog w = .ok (.enter op args) w)
    (D B k : Nat) (hk : k < 4) (x y v : Int) (ok : Bool) (wr : World) (hd : wr.cell? ⟨D, 0, none⟩ = some (.func (.func op) #[] #[])) (hb : wr.cell? ⟨B, k, none⟩ = some (.int .u64 y)) (st : Pure2 op x y v ok) :
    Calls Tryz.prog 107 #[.int .i64 k, .int .u64 x, .pointer (some ⟨D, 0, none⟩), .pointer (some ⟨B, 0, none⟩)] wr fun e w' => e = .returned (.tuple #[.int .u64 v, .bool ok]) ∧ ∃ n, w' = wr.drewN n := by
  have HS := Lib.hid st
  clear st
  have hk' : (k : Int) < 4 := by omega
  have hk0 : (0 : Int) ≤ (k : Int) := by omega
  go_enter Tryz.func107, Tryz.ntmps107
  go_wp2_with fail
  go_quiet ((exact Calls.quiet_of_same ((HS.out _).mono fun _ _ h => ⟨h.1, h.2.symm⟩)))
  go_wp2
  go_ret2
  exact ⟨rfl, _, rfl⟩

/-- What join has laid. -/
def Joined (w0 : World) (H : Nat) (op : FuncId) (y : Nat → Int) (w : World) : Prop :=
  Below H w0 w ∧ H + 4 ≤ w.heap.size ∧ w.heap[H + 1]? = some (box (y 0) (y 1) (y 2) (y 3)) ∧ w.heap[H + 2]? = some (.cells #[.func (.func op) #[] #[]] 107) ∧ w.heap[H + 3]? = some (box 0 0 0 0)
theorem Joined.later {w0 : World} {H : Nat} {op : FuncId} {y : Nat → Int} {a b : World} (hab : Below (H + 4) a b) (h : Joined w0 H op y a) : Joined w0 H op y b :=
  ⟨h.1.trans (hab.mono (by omega)), Nat.le_trans h.2.1 hab.size, (hab.block _ (by omega)).trans h.2.2.1, (hab.block _ (by omega)).trans h.2.2.2.1, (hab.block _ (by omega)).trans h.2.2.2.2⟩
theorem Joined.drewN {w0 : World} {H : Nat} {op : FuncId} {y : Nat → Int} {a : World} (h : Joined w0 H op y a) (n : Nat) : Joined w0 H op y (a.drewN n) :=
  ⟨below_drewN h.1 n, h.2⟩
theorem cell4 {w : World} {T : Nat} {y : Nat → Int} (h : w.heap[T]? = some (box (y 0) (y 1) (y 2) (y 3))) (k : Nat) (hk : k < 4) : w.cell? ⟨T, k, none⟩ = some (.int .u64 (y k)) := by
  obtain ⟨c0, c1, c2, c3, _⟩ := cells4 h
  have : k = 0 ∨ k = 1 ∨ k = 2 ∨ k = 3 := by omega
  rcases this with rfl | rfl | rfl | rfl
  · exact c0
  · exact c1
  · exact c2
  · exact c3
theorem goes_same (b : Bool) {p : Prop} (h : p) : Goes b p p := match b with | true => .inl ⟨rfl, h⟩ | false => .inr ⟨rfl, h⟩

theorem join_fair {w0 : World} {H : Nat} (op : FuncId) (hf : ∀ (args : Array Value) (w : World), (callFunc op args).run Tryz.prog w = .ok (.enter op args) w) {x y v : Nat → Int} {ok : Nat → Bool}
    (st : ∀ k, k < 4 → Pure2 op (x k) (y k) (v k) (ok k)) :
    Fair (H + 4) 107 #[.pointer (some ⟨H + 2, 0, none⟩), .pointer (some ⟨H + 1, 0, none⟩)] x v ok (fun _ => Joined w0 H op y) (Joined w0 H op y) := by
  intro k hk wr hs hp
  refine (join1 op hf (H + 2) (H + 1) k hk (x k) (y k) (v k) (ok k) wr (cell_at hp.2.2.2.1 rfl) (cell4 hp.2.2.1 k hk) (st k hk)).mono ?_
  rintro e w' ⟨rfl, n, rfl⟩
  exact ⟨rfl, Keeps.drewN _ _ _, goes_same _ (hp.drewN n)⟩

/-- What is handed back of four answers. -/
def Four (v : Nat → Int) (ok : Nat → Bool) (w0 : World) (e : Ending) (w' : World) : Prop :=
  (((∀ i, i < 4 → ok i = true) ∧ e = .returned (.tuple #[vec (v 0) (v 1) (v 2) (v 3), .bool true])) ∨ ((∃ i, i < 4 ∧ ok i = false) ∧ e = .returned (.tuple #[vec 0 0 0 0, .bool false]))) ∧ Below w0.heap.size w0 w'

set_option maxRecDepth 100000 in
set_option maxHeartbeats 1000000 in
theorem join_any (op : FuncId) (hf : ∀ (args : Array Value) (w : World), (callFunc op args).run Tryz.prog w = .ok (.enter op args) w) (x y v : Nat → Int) (ok : Nat → Bool)
    (st : ∀ k, k < 4 → Pure2 op (x k) (y k) (v k) (ok k)) (w : World) :
    Calls Tryz.prog 67 #[vec (x 0) (x 1) (x 2) (x 3), vec (y 0) (y 1) (y 2) (y 3), .func (.func op) #[] #[]] w (Four v ok w) := by
  have hcl : ∀ (args : Array Value) (w : World), (callFunc 107 args).run Tryz.prog w = .ok (.enter 107 args) w := fun _ _ => by kernel_rfl
  have hat : ∀ W : World, W = (((w.alloc (box (x 0) (x 1) (x 2) (x 3))).alloc (box (y 0) (y 1) (y 2) (y 3))).alloc (.cells #[.func (.func op) #[] #[]] 107)).alloc (box 0 0 0 0) →
      W.heap.size = w.heap.size + 4 ∧ Joined w w.heap.size op y W := by
    rintro W rfl
    refine ⟨by simp, (((((Below.refl _ _).alloc (Nat.le_refl _) _).alloc (by simp) _).alloc (by simp; omega) _).alloc (by simp; omega) _), by simp, ?_, ?_, ?_⟩
    · rw [heap_alloc_old _ _ (by simp), heap_alloc_old _ _ (by simp)]
      exact heap_alloc2_new _ _ _
    · rw [heap_alloc_old _ _ (by simp)]
      exact heap_alloc_new ((w.alloc (box (x 0) (x 1) (x 2) (x 3))).alloc (box (y 0) (y 1) (y 2) (y 3))) _ ▸ (by simp)
    · exact heap_alloc_new (((w.alloc (box (x 0) (x 1) (x 2) (x 3))).alloc (box (y 0) (y 1) (y 2) (y 3))).alloc (.cells #[.func (.func op) #[] #[]] 107)) (box 0 0 0 0) ▸ (by simp)
  have HT : ∀ W, W = (((w.alloc (box (x 0) (x 1) (x 2) (x 3))).alloc (box (y 0) (y 1) (y 2) (y 3))).alloc (.cells #[.func (.func op) #[] #[]] 107)).alloc (box 0 0 0 0) →
      Hid (Calls Tryz.prog 69 #[vec (x 0) (x 1) (x 2) (x 3), .func (.func 107) #[] #[.pointer (some ⟨w.heap.size + 1 + 1, 0, none⟩), .pointer (some ⟨w.heap.size + 1, 0, none⟩)]] W (Turned v ok (fun _ => Joined w w.heap.size op y) (Joined w w.heap.size op y))) := by
    intro W hW
    obtain ⟨hs, hj⟩ := hat W hW
    exact Lib.hid (turn_any hcl W (fun _ a b hab h => h.later (by rw [hs] at hab; exact hab)) (fun a b hab h => h.later (by rw [hs] at hab; exact hab)) (by rw [hs]; exact join_fair op hf st) hj)
  clear hat st hf hcl
  unfold vec
  unfold vec box at HT
  go_enter Tryz.func67, Tryz.ntmps67
  go_wp2_with fail
  refine ((HT _ rfl).out).mono ?_
  clear HT
  rintro e w1 (⟨hall, rfl, hj⟩ | ⟨hsome, rfl, hj⟩)
  · obtain ⟨hb, _, _, _, ht0⟩ := hj
    have ht : w1.heap[w.heap.size + 1 + 1 + 1]? = some (box 0 0 0 0) := ht0
    obtain ⟨c0, c1, c2, c3, f0, f1, f2, f3⟩ := cells4 ht
    obtain ⟨d0, d1, d2, d3, _⟩ := cells4 (set4_box ht (v 0) (v 1) (v 2) (v 3))
    have HL := Lib.hid hall
    have HB := Lib.hid (set4_below (T := w.heap.size + 1 + 1 + 1) (a := v 0) (b := v 1) (c := v 2) (d := v 3) hb (by omega))
    have HD := Lib.hid (And.intro d0 (And.intro d1 (And.intro d2 d3)))
    clear ht ht0 hall d0 d1 d2 d3 hb
    unfold vec
    go_wp2
    obtain ⟨d0, d1, d2, d3⟩ := HD.out
    unfold set4 at d0 d1 d2 d3
    refine bodyPost_ret (v := .tuple #[.agg #[.int .u64 (v 0), .int .u64 (v 1), .int .u64 (v 2), .int .u64 (v 3)], .bool true]) (by simp [results, Tryz.results67, go_sem, d0, d1, d2, d3]) rfl ?_
    exact ⟨.inl ⟨HL.out, rfl⟩, HB.out⟩
  · obtain ⟨hb, _, _, _, ht0⟩ := hj
    have ht : w1.heap[w.heap.size + 1 + 1 + 1]? = some (box 0 0 0 0) := ht0
    obtain ⟨c0, c1, c2, c3, f0, f1, f2, f3⟩ := cells4 ht
    obtain ⟨d0, d1, d2, d3, _⟩ := cells4 (set4_box ht 0 0 0 0)
    have HL := Lib.hid hsome
    have HB := Lib.hid (set4_below (T := w.heap.size + 1 + 1 + 1) (a := 0) (b := 0) (c := 0) (d := 0) hb (by omega))
    have HD := Lib.hid (And.intro d0 (And.intro d1 (And.intro d2 d3)))
    clear ht ht0 hsome d0 d1 d2 d3 hb
    unfold vec
    go_wp2
    obtain ⟨d0, d1, d2, d3⟩ := HD.out
    unfold set4 at d0 d1 d2 d3
    refine bodyPost_ret (v := .tuple #[.agg #[.int .u64 0, .int .u64 0, .int .u64 0, .int .u64 0], .bool false]) (by simp [results, Tryz.results67, go_sem, d0, d1, d2, d3]) rfl ?_
    exact ⟨.inr ⟨HL.out, rfl⟩, HB.out⟩

set_option maxRecDepth 100000 in
set_option maxHeartbeats 1000000 in
theorem add_four (x y v : Nat → Int) (ok : Nat → Bool) (st : ∀ k, k < 4 → Pure2 68 (x k) (y k) (v k) (ok k)) (w : World) :
    Calls Tryz.prog 29 #[vec (x 0) (x 1) (x 2) (x 3), vec (y 0) (y 1) (y 2) (y 3)] w (Four v ok w) := by
  have hcl : ∀ (args : Array Value) (w : World), (callFunc 68 args).run Tryz.prog w = .ok (.enter 68 args) w := fun _ _ => by kernel_rfl
  have HT := fun W => Lib.hid (join_any 68 hcl x y v ok st W)
  have hat : ∀ W : World, W = ((w.alloc (box (x 0) (x 1) (x 2) (x 3))).alloc (box (y 0) (y 1) (y 2) (y 3))).alloc (box 0 0 0 0) → ∀ w1, Below W.heap.size W w1 → Below w.heap.size w w1 ∧ w1.heap[w.heap.size + 1 + 1]? = some (box 0 0 0 0) := by
    rintro W rfl w1 h
    refine ⟨((((Below.refl _ _).alloc (Nat.le_refl _) _).alloc (by simp) _).alloc (by simp; omega) _).trans (h.mono (by simp; omega)), ?_⟩
    rw [h.block _ (by simp)]
    exact heap_alloc_new ((w.alloc (box (x 0) (x 1) (x 2) (x 3))).alloc (box (y 0) (y 1) (y 2) (y 3))) (box 0 0 0 0) ▸ (by simp)
  have HA := Lib.hid hat
  clear hat st hcl
  unfold vec
  unfold vec at HT
  unfold box at HA
  go_enter Tryz.func29, Tryz.ntmps29
  go_wp2_with fail
  refine ((HT _).out).mono ?_
  clear HT
  rintro e w1 ⟨(⟨hall, rfl⟩ | ⟨hall, rfl⟩), hb0⟩
  · obtain ⟨hb, ht0⟩ := HA.out _ rfl w1 hb0
    clear HA hb0
    have ht := ht0
    obtain ⟨c0, c1, c2, c3, f0, f1, f2, f3⟩ := cells4 ht
    obtain ⟨d0, d1, d2, d3, _⟩ := cells4 (set4_box ht (v 0) (v 1) (v 2) (v 3))
    have HL := Lib.hid hall
    have HB := Lib.hid (set4_below (T := w.heap.size + 1 + 1) (a := (v 0)) (b := (v 1)) (c := (v 2)) (d := (v 3)) hb (by omega))
    have HD := Lib.hid (And.intro d0 (And.intro d1 (And.intro d2 d3)))
    clear ht ht0 hall d0 d1 d2 d3 hb
    unfold vec
    go_wp2
    obtain ⟨d0, d1, d2, d3⟩ := HD.out
    unfold set4 at d0 d1 d2 d3
    refine bodyPost_ret (v := .tuple #[.agg #[.int .u64 (v 0), .int .u64 (v 1), .int .u64 (v 2), .int .u64 (v 3)], .bool true]) (by simp [results, Tryz.results29, go_sem, d0, d1, d2, d3]) rfl ?_
    exact ⟨.inl ⟨HL.out, rfl⟩, HB.out⟩
  · obtain ⟨hb, ht0⟩ := HA.out _ rfl w1 hb0
    clear HA hb0
    have ht := ht0
    obtain ⟨c0, c1, c2, c3, f0, f1, f2, f3⟩ := cells4 ht
    obtain ⟨d0, d1, d2, d3, _⟩ := cells4 (set4_box ht 0 0 0 0)
    have HL := Lib.hid hall
    have HB := Lib.hid (set4_below (T := w.heap.size + 1 + 1) (a := 0) (b := 0) (c := 0) (d := 0) hb (by omega))
    have HD := Lib.hid (And.intro d0 (And.intro d1 (And.intro d2 d3)))
    clear ht ht0 hall d0 d1 d2 d3 hb
    unfold vec
    go_wp2
    obtain ⟨d0, d1, d2, d3⟩ := HD.out
    unfold set4 at d0 d1 d2 d3
    refine bodyPost_ret (v := .tuple #[.agg #[.int .u64 0, .int .u64 0, .int .u64 0, .int .u64 0], .bool false]) (by simp [results, Tryz.results29, go_sem, d0, d1, d2, d3]) rfl ?_
    exact ⟨.inr ⟨HL.out, rfl⟩, HB.out⟩

end Go.Proofs.YtbilkeadhflibaaGreatDoor.Vec

/- What the small functions that vec's Times, Fits, Order and Holds hand in do, each at one amount. -/
namespace Go.Proofs.YtbilkeadhflibaaGreatDoor.Vec
open Go.RowKit

set_option maxRecDepth 100000 in
set_option maxHeartbeats 1000000 in
theorem times1 (D k : Nat) (x n v : Int) (ok : Bool) (wr : World) (hd : wr.cell? ⟨D, 0, none⟩ = some (.int .u64 n)) (st : Pure2 71 x n v ok) :
    Calls Tryz.prog 70 #[.int .i64 k, .int .u64 x, .pointer (some ⟨D, 0, none⟩)] wr fun e w' => e = .returned (.tuple #[.int .u64 v, .bool ok]) ∧ wr = w' := by
  have HS := Lib.hid st
  clear st
  go_enter Tryz.func70, Tryz.ntmps70
  go_wp2_with fail
  refine (HS.out _).mono ?_
  rintro e w' ⟨rfl, rfl⟩
  go_wp2
  go_ret2
  exact ⟨rfl, rfl⟩


/-- Which of two numbers is less. -/
def cmp (x y : Int) : Int := if x < y then -1 else if y < x then 1 else 0


/-- The less of a count and what one amount holds. -/
def least (c q : Int) : Int := if q < c then q else c

end Go.Proofs.YtbilkeadhflibaaGreatDoor.Vec

/- What vec's Times, Fits, Order and Holds answer, for every amounts; of memory that was there nothing turns. -/
namespace Go.Proofs.YtbilkeadhflibaaGreatDoor.Vec
open Go.RowKit

/-- What Times has laid. -/
def Timed (w0 : World) (H : Nat) (n : Int) (w : World) : Prop :=
  Below H w0 w ∧ H + 3 ≤ w.heap.size ∧ w.heap[H + 1]? = some (.cells #[.int .u64 n] 22) ∧ w.heap[H + 2]? = some (box 0 0 0 0)
theorem Timed.later {w0 : World} {H : Nat} {n : Int} {a b : World} (hab : Below (H + 3) a b) (h : Timed w0 H n a) : Timed w0 H n b :=
  ⟨h.1.trans (hab.mono (by omega)), Nat.le_trans h.2.1 hab.size, (hab.block _ (by omega)).trans h.2.2.1, (hab.block _ (by omega)).trans h.2.2.2⟩
theorem times_fair {w0 : World} {H : Nat} {n : Int} {x v : Nat → Int} {ok : Nat → Bool} (st : ∀ k, k < 4 → Pure2 71 (x k) n (v k) (ok k)) :
    Fair (H + 3) 70 #[.pointer (some ⟨H + 1, 0, none⟩)] x v ok (fun _ => Timed w0 H n) (Timed w0 H n) := by
  intro k hk wr hs hp
  refine (times1 (H + 1) k (x k) n (v k) (ok k) wr (cell_at hp.2.2.1 rfl) (st k hk)).mono ?_
  rintro e w' ⟨rfl, rfl⟩
  exact ⟨rfl, Keeps.refl _ _, goes_same _ hp⟩

set_option maxRecDepth 100000 in
set_option maxHeartbeats 1000000 in
theorem times_four (x v : Nat → Int) (n : Int) (ok : Nat → Bool) (st : ∀ k, k < 4 → Pure2 71 (x k) n (v k) (ok k)) (w : World) :
    Calls Tryz.prog 31 #[vec (x 0) (x 1) (x 2) (x 3), .int .u64 n] w (Four v ok w) := by
  have hcl : ∀ (args : Array Value) (w : World), (callFunc 70 args).run Tryz.prog w = .ok (.enter 70 args) w := fun _ _ => by kernel_rfl
  have hat : ∀ W : World, W = ((w.alloc (box (x 0) (x 1) (x 2) (x 3))).alloc (.cells #[.int .u64 n] 22)).alloc (box 0 0 0 0) →
      W.heap.size = w.heap.size + 3 ∧ Timed w w.heap.size n W := by
    rintro W rfl
    refine ⟨by simp, ((((Below.refl _ _).alloc (Nat.le_refl _) _).alloc (by simp) _).alloc (by simp; omega) _), by simp, ?_, ?_⟩
    · rw [heap_alloc_old _ _ (by simp)]
      exact heap_alloc2_new _ _ _
    · exact heap_alloc_new ((w.alloc (box (x 0) (x 1) (x 2) (x 3))).alloc (.cells #[.int .u64 n] 22)) (box 0 0 0 0) ▸ (by simp)
  have HT : ∀ W, W = ((w.alloc (box (x 0) (x 1) (x 2) (x 3))).alloc (.cells #[.int .u64 n] 22)).alloc (box 0 0 0 0) →
      Hid (Calls Tryz.prog 69 #[vec (x 0) (x 1) (x 2) (x 3), .func (.func 70) #[] #[.pointer (some ⟨w.heap.size + 1, 0, none⟩)]] W (Turned v ok (fun _ => Timed w w.heap.size n) (Timed w w.heap.size n))) := by
    intro W hW
    obtain ⟨hs, hj⟩ := hat W hW
    exact Lib.hid (turn_any hcl W (fun _ a b hab h => h.later (by rw [hs] at hab; exact hab)) (fun a b hab h => h.later (by rw [hs] at hab; exact hab)) (by rw [hs]; exact times_fair st) hj)
  clear hat st hcl
  unfold vec
  unfold vec box at HT
  go_enter Tryz.func31, Tryz.ntmps31
  go_wp2_with fail
  refine ((HT _ rfl).out).mono ?_
  clear HT
  rintro e w1 (⟨hall, rfl, hb, _, _, ht0⟩ | ⟨hall, rfl, hb, _, _, ht0⟩)
  · have ht0 : w1.heap[w.heap.size + 1 + 1]? = some (box 0 0 0 0) := ht0
    obtain ⟨c0, c1, c2, c3, f0, f1, f2, f3⟩ := cells4 ht0
    obtain ⟨d0, d1, d2, d3, _⟩ := cells4 (set4_box ht0 (v 0) (v 1) (v 2) (v 3))
    have HL := Lib.hid hall
    have HB := Lib.hid (set4_below (T := w.heap.size + 1 + 1) (a := (v 0)) (b := (v 1)) (c := (v 2)) (d := (v 3)) hb (by omega))
    have HD := Lib.hid (And.intro d0 (And.intro d1 (And.intro d2 d3)))
    clear ht0 hall d0 d1 d2 d3 hb
    unfold vec
    go_wp2
    obtain ⟨d0, d1, d2, d3⟩ := HD.out
    unfold set4 at d0 d1 d2 d3
    refine bodyPost_ret (v := .tuple #[.agg #[.int .u64 (v 0), .int .u64 (v 1), .int .u64 (v 2), .int .u64 (v 3)], .bool true]) (by simp [results, Tryz.results31, go_sem, d0, d1, d2, d3]) rfl ?_
    exact ⟨.inl ⟨HL.out, rfl⟩, HB.out⟩
  · have ht0 : w1.heap[w.heap.size + 1 + 1]? = some (box 0 0 0 0) := ht0
    obtain ⟨c0, c1, c2, c3, f0, f1, f2, f3⟩ := cells4 ht0
    obtain ⟨d0, d1, d2, d3, _⟩ := cells4 (set4_box ht0 0 0 0 0)
    have HL := Lib.hid hall
    have HB := Lib.hid (set4_below (T := w.heap.size + 1 + 1) (a := 0) (b := 0) (c := 0) (d := 0) hb (by omega))
    have HD := Lib.hid (And.intro d0 (And.intro d1 (And.intro d2 d3)))
    clear ht0 hall d0 d1 d2 d3 hb
    unfold vec
    go_wp2
    obtain ⟨d0, d1, d2, d3⟩ := HD.out
    unfold set4 at d0 d1 d2 d3
    refine bodyPost_ret (v := .tuple #[.agg #[.int .u64 0, .int .u64 0, .int .u64 0, .int .u64 0], .bool false]) (by simp [results, Tryz.results31, go_sem, d0, d1, d2, d3]) rfl ?_
    exact ⟨.inr ⟨HL.out, rfl⟩, HB.out⟩

/-- Does each amount fit? -/
def fitsB (x y : Nat → Int) : Bool := decide (x 0 ≤ y 0 ∧ x 1 ≤ y 1 ∧ x 2 ≤ y 2 ∧ x 3 ≤ y 3)
theorem four_all {p : Nat → Prop} : (∀ i, i < 4 → p i) ↔ p 0 ∧ p 1 ∧ p 2 ∧ p 3 :=
  ⟨fun h => ⟨h 0 (by omega), h 1 (by omega), h 2 (by omega), h 3 (by omega)⟩, fun h i hi => by
    have : i = 0 ∨ i = 1 ∨ i = 2 ∨ i = 3 := by omega
    rcases this with rfl | rfl | rfl | rfl
    · exact h.1
    · exact h.2.1
    · exact h.2.2.1
    · exact h.2.2.2⟩
theorem fits_true {x y : Nat → Int} : fitsB x y = true ↔ ∀ i, i < 4 → x i ≤ y i := by unfold fitsB; rw [decide_eq_true_iff, four_all (p := fun i => x i ≤ y i)]
theorem fits_false {x y : Nat → Int} : fitsB x y = false ↔ ¬ ∀ i, i < 4 → x i ≤ y i := by rw [← fits_true]; simp
def FitsLaid (w0 : World) (H : Nat) (x y : Nat → Int) (k : Nat) (w : World) : Prop :=
  Below H w0 w ∧ w.heap[H + 1]? = some (box (y 0) (y 1) (y 2) (y 3)) ∧ ∀ i, i < k → x i ≤ y i
def FitsNot (w0 : World) (H : Nat) (x y : Nat → Int) (w : World) : Prop := Below H w0 w ∧ ¬ ∀ i, i < 4 → x i ≤ y i


/-- Which of two amounts has less of the first kind in which they differ. -/
def ordV (x y : Nat → Int) : Int := if cmp (x 0) (y 0) ≠ 0 then cmp (x 0) (y 0) else if cmp (x 1) (y 1) ≠ 0 then cmp (x 1) (y 1) else if cmp (x 2) (y 2) ≠ 0 then cmp (x 2) (y 2) else cmp (x 3) (y 3)
theorem ordV_of {x y : Nat → Int} {k : Nat} (hk : k < 4) (h : ∀ i, i < k → cmp (x i) (y i) = 0) (hne : cmp (x k) (y k) ≠ 0) : ordV x y = cmp (x k) (y k) := by
  have : k = 0 ∨ k = 1 ∨ k = 2 ∨ k = 3 := by omega
  unfold ordV
  rcases this with rfl | rfl | rfl | rfl
  · rw [if_pos hne]
  · rw [if_neg (by simp [h 0]), if_pos hne]
  · rw [if_neg (by simp [h 0]), if_neg (by simp [h 1]), if_pos hne]
  · rw [if_neg (by simp [h 0]), if_neg (by simp [h 1]), if_neg (by simp [h 2])]
theorem ordV_zero {x y : Nat → Int} (h : ∀ i, i < 4 → cmp (x i) (y i) = 0) : ordV x y = 0 := by
  unfold ordV
  simp [h 0, h 1, h 2, h 3]
def OrderLaid (w0 : World) (H : Nat) (x y : Nat → Int) (k : Nat) (w : World) : Prop :=
  Below H w0 w ∧ w.heap[H + 1]? = some (box (y 0) (y 1) (y 2) (y 3)) ∧ w.heap[H + 2]? = some (.cells #[.int .i64 0] 3) ∧ ∀ i, i < k → cmp (x i) (y i) = 0
def OrderTold (w0 : World) (H : Nat) (x y : Nat → Int) (w : World) : Prop := Below H w0 w ∧ w.heap[H + 2]? = some (.cells #[.int .i64 (ordV x y)] 3)


/-- How many are held, as far as k kinds say. -/
def cnt (x y : Nat → Int) (m : Int) : Nat → Int
  | 0 => m
  | k + 1 => if 0 < y k then least (cnt x y m k) (x k / y k) else cnt x y m k
theorem cnt_pos {x y : Nat → Int} {m : Int} {k : Nat} (h : 0 < y k) : cnt x y m (k + 1) = least (cnt x y m k) (x k / y k) := by rw [cnt, if_pos h]
theorem cnt_neg {x y : Nat → Int} {m : Int} {k : Nat} (h : ¬ 0 < y k) : cnt x y m (k + 1) = cnt x y m k := by rw [cnt, if_neg h]
def HoldLaid (w0 : World) (H : Nat) (x y : Nat → Int) (m : Int) (k : Nat) (w : World) : Prop :=
  Below H w0 w ∧ w.heap[H]? = some (box (x 0) (x 1) (x 2) (x 3)) ∧ w.heap[H + 2]? = some (.cells #[.int .u64 (cnt x y m k)] 22)
def InRange (x : Nat → Int) : Prop := ∀ i, i < 4 → 0 ≤ x i ∧ x i ≤ 18446744073709551615

theorem cnt_bounds {x y : Nat → Int} {m : Int} (hx : InRange x) (hm : 0 ≤ m) : ∀ k, k ≤ 4 → 0 ≤ cnt x y m k ∧ cnt x y m k ≤ m
  | 0, _ => ⟨hm, Int.le_refl _⟩
  | k + 1, hk => by
    have ih := cnt_bounds (y := y) hx hm k (by omega)
    by_cases h0 : 0 < y k
    · rw [cnt_pos h0]
      have : 0 ≤ x k / y k := Int.ediv_nonneg (hx k (by omega)).1 (by omega)
      unfold least
      split <;> omega
    · rw [cnt_neg h0]
      exact ih

end Go.Proofs.YtbilkeadhflibaaGreatDoor.Vec

/- What vec.Text answers: the four amounts in digits, a colon between; here of amounts whose digits are known. -/
namespace Go.Proofs.YtbilkeadhflibaaGreatDoor.Vec
open Go.RowKit Go.Proofs.YtbilkeadhflibaaGreatDoor.Wire

/-- What a number is shown as. -/
def Shows (x : Int) (s : ByteArray) : Prop := ∀ w, Calls Tryz.prog 97 #[.int .u64 x, .int .i64 10] w fun e w' => e = .returned (.string s) ∧ Below w.heap.size w w'

/-- One digit. -/
def digit (x : Nat) : ByteArray := str [UInt8.ofNat (48 + x)]

theorem digit_cut (x : Nat) (hx : x < 10) : ByteArray.extract ⟨#[48, 49, 50, 51, 52, 53, 54, 55, 56, 57, 97, 98, 99, 100, 101, 102, 103, 104, 105, 106, 107, 108, 109, 110, 111, 112, 113, 114, 115, 116, 117, 118, 119, 120, 121, 122]⟩ x (x + 1) = digit x := by
  have h : x = 0 ∨ x = 1 ∨ x = 2 ∨ x = 3 ∨ x = 4 ∨ x = 5 ∨ x = 6 ∨ x = 7 ∨ x = 8 ∨ x = 9 := by omega
  rcases h with rfl | rfl | rfl | rfl | rfl | rfl | rfl | rfl | rfl | rfl <;> decide

set_option maxRecDepth 100000 in
set_option maxHeartbeats 1000000 in
theorem small_any (x : Nat) (hx : x < 10) (w : World) : Calls Tryz.prog 144 #[.int .i64 x] w fun e w' => e = .returned (.string (digit x)) ∧ w = w' := by
  have HD := Lib.hid (digit_cut x hx)
  have hx' : (x : Int) < 10 := by omega
  have h0 : (0 : Int) ≤ (x : Int) := by omega
  have h1 : (x : Int) + 1 ≤ 36 := by omega
  go_enter Tryz.func144, Tryz.ntmps144
  go_wp2
  go_ret
  exact ⟨congrArg (fun s => Ending.returned (.string s)) HD.out, rfl⟩

set_option maxRecDepth 100000 in
set_option maxHeartbeats 1000000 in
theorem shows_digit (x : Nat) (hx : x < 10) : Shows x (digit x) := by
  intro w
  have hx' : (x : Int) < 100 := by omega
  have h0 : (0 : Int) ≤ (x : Int) := by omega
  have inner : ∀ w, Calls Tryz.prog 129 #[.int .u64 x, .int .i64 10] w fun e w' => e = .returned (.string (digit x)) ∧ w = w' := by
    intro w
    have HS := Lib.hid (small_any x hx)
    obtain ⟨d, hd⟩ : ∃ d, d = digit x := ⟨_, rfl⟩
    rw [← hd] at HS ⊢
    clear hd
    go_enter Tryz.func129, Tryz.ntmps129
    go_wp2_with (go_at_call 144; (with_reducible refine (HS.out _).mono ?_); rintro e w' ⟨rfl, rfl⟩)
    go_ret
    exact ⟨rfl, rfl⟩
  have HI := Lib.hid inner
  clear inner
  obtain ⟨d, hd⟩ : ∃ d, d = digit x := ⟨_, rfl⟩
  rw [← hd] at HI ⊢
  clear hd
  go_enter Tryz.func97, Tryz.ntmps97
  go_wp2_with (go_at_call 129; (with_reducible refine (HI.out _).mono ?_); rintro e w' ⟨rfl, rfl⟩)
  go_ret
  exact ⟨rfl, Below.refl _ _⟩

set_option maxRecDepth 100000 in
set_option maxHeartbeats 1000000 in
theorem text1 (T k : Nat) (hk : k < 4) (x : Int) (s : ByteArray) (st : Shows x s) (t0 t1 t2 t3 : Value) (wr : World) (ht : wr.heap[T]? = some (.cells #[t0, t1, t2, t3] 132)) :
    Calls Tryz.prog 96 #[.int .i64 k, .int .u64 x, .pointer (some ⟨T, 0, none⟩)] wr fun e w' => e = .returned (.bool true) ∧ ∃ w1, Below wr.heap.size wr w1 ∧ w' = w1.setCell ⟨T, k, none⟩ (.string s) := by
  have hlt : T < wr.heap.size := World.block_lt_of_cell? wr ⟨T, 0, none⟩ (cell_at ht rfl)
  have HS := Lib.hid st
  have HT := Lib.hid ht
  clear st ht
  have hk' : (k : Int) < 4 := by omega
  have hk0 : (0 : Int) ≤ (k : Int) := by omega
  go_enter Tryz.func96, Tryz.ntmps96
  go_wp2_with fail
  refine (HS.out _).mono ?_
  rintro e w1 ⟨rfl, hb⟩
  have ht := (hb.block T hlt).trans HT.out
  have c : ∃ u, w1.cell? ⟨T, k, none⟩ = some u := by
    have : k = 0 ∨ k = 1 ∨ k = 2 ∨ k = 3 := by omega
    rcases this with rfl | rfl | rfl | rfl
    · exact ⟨_, cell_at ht rfl⟩
    · exact ⟨_, cell_at ht rfl⟩
    · exact ⟨_, cell_at ht rfl⟩
    · exact ⟨_, cell_at ht rfl⟩
  obtain ⟨u, hu⟩ := c
  have fz : w1.frozen? ⟨T, k, none⟩ = false := frozen_at ht
  clear ht
  go_wp2
  go_ret
  exact ⟨rfl, w1, hb, rfl⟩

/-- What Text has laid. -/
def piece (d : Nat → ByteArray) (k i : Nat) : Value := .string (if i < k then d i else ⟨#[]⟩)
def TextLaid (w0 : World) (H : Nat) (d : Nat → ByteArray) (k : Nat) (w : World) : Prop :=
  Below H w0 w ∧ w.heap[H + 1]? = some (.cells #[piece d k 0, piece d k 1, piece d k 2, piece d k 3] 132)
theorem text_step {w0 : World} {H : Nat} {x : Nat → Int} {d : Nat → ByteArray} (st : ∀ k, k < 4 → Shows (x k) (d k)) (k : Nat) (hk : k < 4) (wr : World) (h : TextLaid w0 H d k wr) :
    Calls Tryz.prog 96 (#[.int .i64 k, .int .u64 (x k)] ++ #[.pointer (some ⟨H + 1, 0, none⟩)]) wr (Step (TextLaid w0 H d (k + 1)) (fun _ => False)) := by
  obtain ⟨hb, ht⟩ := h
  have hlt : H + 1 < wr.heap.size := World.block_lt_of_cell? wr ⟨H + 1, 0, none⟩ (cell_at ht rfl)
  refine (text1 (H + 1) k hk (x k) (d k) (st k hk) _ _ _ _ wr ht).mono ?_
  rintro e w' ⟨rfl, w1, hb1, rfl⟩
  have ht1 := (hb1.block (H + 1) hlt).trans ht
  refine .inl ⟨rfl, (hb.trans (hb1.mono (by omega))).setCell (by simp) _, ?_⟩
  rw [heap_setCell_same w1 (H + 1) k _ _ (.string (d k)) ht1]
  have : k = 0 ∨ k = 1 ∨ k = 2 ∨ k = 3 := by omega
  rcases this with rfl | rfl | rfl | rfl <;> rfl

/-- Four texts, a colon between. -/
def joined (d : Nat → ByteArray) : ByteArray := ⟨(Lib.join ([d 0, d 1, d 2, d 3].map (·.data.toList)) [58]).toArray⟩
/-- What strings.Join makes of four texts that lie in a row. -/
def Joins4 : Prop := ∀ (d : Nat → ByteArray) (B c : Nat) (w : World), (∀ k, k < 4 → w.cell? ⟨B, k, none⟩ = some (.string (d k)) ∧ (d k).size ≤ 20) → B < w.heap.size → 4 ≤ c →
  Calls Tryz.prog 59 #[.slice (some ⟨B, 0, none⟩) 4 c, .string ⟨#[58]⟩] w fun e w' => e = .returned (.string (joined d)) ∧ Below w.heap.size w w'

set_option maxRecDepth 100000 in
set_option maxHeartbeats 1000000 in
theorem text_of (hJ : Joins4) (x : Nat → Int) (d : Nat → ByteArray) (st : ∀ k, k < 4 → Shows (x k) (d k)) (hd : ∀ k, k < 4 → (d k).size ≤ 20) (w : World) :
    Calls Tryz.prog 57 #[vec (x 0) (x 1) (x 2) (x 3)] w fun e w' => e = .returned (.string (joined d)) ∧ Below w.heap.size w w' := by
  have hcl : ∀ (args : Array Value) (w : World), (callFunc 96 args).run Tryz.prog w = .ok (.enter 96 args) w := fun _ _ => by kernel_rfl
  have hat : TextLaid w w.heap.size d 0 (((w.alloc (box (x 0) (x 1) (x 2) (x 3))).alloc (.cells #[.string ⟨#[]⟩, .string ⟨#[]⟩, .string ⟨#[]⟩, .string ⟨#[]⟩] 132)).alloc (box (x 0) (x 1) (x 2) (x 3))) := by
    refine ⟨((((Below.refl _ _).alloc (Nat.le_refl _) _).alloc (by simp) _).alloc (by simp; omega) _), ?_⟩
    rw [heap_alloc_old _ _ (by simp)]
    exact heap_alloc2_new _ _ _
  have HE := Lib.hid (each_any (x 0) (x 1) (x 2) (x 3) 96 #[.pointer (some ⟨w.heap.size + 1, 0, none⟩)] (TextLaid w w.heap.size d) (fun _ => False) _ hcl hat
    (text_step st 0 (by omega)) (text_step st 1 (by omega)) (text_step st 2 (by omega)) (text_step st 3 (by omega)))
  have HJ := fun W h1 => Lib.hid (hJ d (w.heap.size + 1) 4 W h1)
  have HS := Lib.hid hd
  clear hcl hat st hJ hd
  obtain ⟨r, hr⟩ : ∃ r, r = joined d := ⟨_, rfl⟩
  rw [← hr] at HJ ⊢
  clear hr
  unfold vec
  unfold vec box at HE
  go_enter Tryz.func57, Tryz.ntmps57
  go_wp2_with fail
  refine HE.out.mono ?_
  clear HE
  rintro e w1 (⟨rfl, hb, hc⟩ | ⟨rfl, hf⟩)
  · have hlt : w.heap.size + 1 < w1.heap.size := World.block_lt_of_cell? w1 ⟨w.heap.size + 1, 0, none⟩ (cell_at hc rfl)
    have HC := Lib.hid (HJ w1 (fun k hk => ⟨by
      have : k = 0 ∨ k = 1 ∨ k = 2 ∨ k = 3 := by omega
      rcases this with rfl | rfl | rfl | rfl <;> exact cell_at hc rfl, HS.out k hk⟩))
    clear hc HJ HS
    go_wp2_with fail
    refine (HC.out.out hlt (by omega)).mono ?_
    rintro e w2 ⟨rfl, hb2⟩
    go_wp2
    go_ret
    exact ⟨rfl, hb.trans (hb2.mono (by omega))⟩
  · exact hf.elim
end Go.Proofs.YtbilkeadhflibaaGreatDoor.Vec

/- What vec.Parse answers of a text of four pieces that are numbers, and that is their Text. -/
namespace Go.Proofs.YtbilkeadhflibaaGreatDoor.Vec
open Go.RowKit Go.Proofs.YtbilkeadhflibaaGreatDoor.Wire

/-- What digits are read as. -/
def Reads (s : ByteArray) (u : Int) : Prop := ∀ w, Calls Tryz.prog 118 #[.string s, .int .i64 10, .int .i64 64] w fun e w' => e = .returned (.tuple #[.int .u64 u, .nilIface]) ∧ Below w.heap.size w w'

set_option maxRecDepth 100000 in
set_option maxHeartbeats 1000000 in
theorem parse1 (A B k : Nat) (hk : k < 4) (x u : Int) (s : ByteArray) (c : Nat) (wr : World) (hA : wr.heap[A]? = some (.cells #[.slice (some ⟨B, 0, none⟩) 4 c] 28)) (hB : wr.cell? ⟨B, k, none⟩ = some (.string s)) (st : Reads s u) :
    Calls Tryz.prog 117 #[.int .i64 k, .int .u64 x, .pointer (some ⟨A, 0, none⟩)] wr fun e w' => e = .returned (.tuple #[.int .u64 u, .bool true]) ∧ Below wr.heap.size wr w' := by
  have cA := cell_at (i := 0) hA rfl
  have HS := Lib.hid st
  clear hA st
  have hk' : (k : Int) < 4 := by omega
  have hk0 : (0 : Int) ≤ (k : Int) := by omega
  go_enter Tryz.func117, Tryz.ntmps117
  go_wp2_with fail
  refine (HS.out _).mono ?_
  rintro e w1 ⟨rfl, hb⟩
  go_wp2
  go_quiet (fail)
  go_wp2
  go_ret2
  exact ⟨rfl, below_drewN hb _⟩

/-- What Parse has laid. -/
def ParseLaid (w0 : World) (H c : Nat) (d : Nat → ByteArray) (w : World) : Prop :=
  Below H w0 w ∧ H + 3 ≤ w.heap.size ∧ w.heap[H]? = some (box 0 0 0 0) ∧ w.heap[H + 2]? = some (.cells #[.slice (some ⟨H + 1, 0, none⟩) 4 c] 28) ∧ ∀ k, k < 4 → w.cell? ⟨H + 1, k, none⟩ = some (.string (d k))
theorem ParseLaid.later {w0 : World} {H c : Nat} {d : Nat → ByteArray} {a b : World} (hab : Below (H + 3) a b) (h : ParseLaid w0 H c d a) : ParseLaid w0 H c d b :=
  ⟨h.1.trans (hab.mono (by omega)), Nat.le_trans h.2.1 hab.size, (hab.block _ (by omega)).trans h.2.2.1, (hab.block _ (by omega)).trans h.2.2.2.1, fun k hk => (hab.cell (by simp)).trans (h.2.2.2.2 k hk)⟩
theorem parse_fair {w0 : World} {H c : Nat} {d : Nat → ByteArray} {u : Nat → Int} (st : ∀ k, k < 4 → Reads (d k) (u k)) :
    Fair (H + 3) 117 #[.pointer (some ⟨H + 2, 0, none⟩)] (fun _ => 0) u (fun _ => true) (fun _ => ParseLaid w0 H c d) (ParseLaid w0 H c d) := by
  intro k hk wr hs hp
  refine (parse1 (H + 2) (H + 1) k hk 0 (u k) (d k) c wr hp.2.2.2.1 (hp.2.2.2.2 k hk) (st k hk)).mono ?_
  rintro e w' ⟨rfl, hb⟩
  exact ⟨rfl, Keeps.of_below hb, goes_same _ (hp.later (hb.mono hp.2.1))⟩

set_option maxRecDepth 100000 in
set_option maxHeartbeats 1000000 in
theorem parse_of (hJ : Joins4) (text : ByteArray) (hs : text.size ≤ 4611686018427387904) (N : Nat) (hN : N = min 5 (text.size + 1)) (d : Nat → ByteArray) (hcut : (cutK (N - 1) text.data.toList).map str = [d 0, d 1, d 2, d 3])
    (u : Nat → Int) (st : ∀ k, k < 4 → Reads (d k) (u k)) (sh : ∀ k, k < 4 → Shows (u k) (d k)) (hd : ∀ k, k < 4 → (d k).size ≤ 20) (ht : joined d = text) (w : World) :
    Calls Tryz.prog 80 #[.string text] w fun e w' => e = .returned (.tuple #[vec (u 0) (u 1) (u 2) (u 3), .bool true]) ∧ Below w.heap.size w w' := by
  have hcl : ∀ (args : Array Value) (w : World), (callFunc 117 args).run Tryz.prog w = .ok (.enter 117 args) w := fun _ _ => by kernel_rfl
  have hlen : (cutK (N - 1) text.data.toList).length = 4 := by have := congrArg List.length hcut; simpa using this
  have hN4 : 4 ≤ N := by have := (cutK_length (N - 1) text.data.toList).1; omega
  obtain ⟨row, hrow⟩ : ∃ row, row = Obj.cells (Lib.cellsOf [d 0, d 1, d 2, d 3] N) 9 := ⟨_, rfl⟩
  have HSp : Hid (∀ W, Calls Tryz.prog 88 #[.string text, .string ⟨#[58]⟩, .int .i64 5] W fun e w' => e = .returned (.slice (some ⟨W.heap.size, 0, none⟩) 4 N) ∧ w' = W.alloc row) := Lib.hid (fun W => by
    have := splitN_any text hs N hN W
    rw [hlen, hcut, ← hrow] at this
    exact this)
  have HX := Lib.hid (fun W => text_of hJ u d sh hd W)
  have HT : ∀ W, W = ((w.alloc (box 0 0 0 0)).alloc row).alloc (.cells #[.slice (some ⟨w.heap.size + 1, 0, none⟩) 4 N] 28) →
      Hid (Calls Tryz.prog 69 #[vec 0 0 0 0, .func (.func 117) #[] #[.pointer (some ⟨w.heap.size + 1 + 1, 0, none⟩)]] W
        (Turned u (fun _ => true) (fun _ => ParseLaid w w.heap.size N d) (ParseLaid w w.heap.size N d))) := by
    rintro W rfl
    refine Lib.hid (turn_any (x := fun _ => 0) hcl _ (fun _ a b hab h => h.later (by simpa using hab)) (fun a b hab h => h.later (by simpa using hab)) (by have := parse_fair (w0 := w) (H := w.heap.size) (c := N) st; simpa using this) ?_)
    refine ⟨((((Below.refl _ _).alloc (Nat.le_refl _) _).alloc (by simp) _).alloc (by simp; omega) _), by simp, ?_, ?_, ?_⟩
    · rw [heap_alloc_old _ _ (by simp; omega), heap_alloc_old _ _ (by simp)]
      exact heap_alloc_new _ _
    · exact heap_alloc_new ((w.alloc (box 0 0 0 0)).alloc row) _ ▸ (by simp)
    · intro k hk
      have h1 : (((w.alloc (box 0 0 0 0)).alloc row).alloc (.cells #[.slice (some ⟨w.heap.size + 1, 0, none⟩) 4 N] 28)).heap[w.heap.size + 1]? = some (.cells (Lib.cellsOf [d 0, d 1, d 2, d 3] N) 9) := by
        rw [heap_alloc_old _ _ (by simp), ← hrow]
        exact heap_alloc2_new _ _ _
      refine cell_at h1 ?_
      have : k = 0 ∨ k = 1 ∨ k = 2 ∨ k = 3 := by omega
      rcases this with rfl | rfl | rfl | rfl <;> simp [Lib.cellsOf]
  have HTx : Hid ((joined d).toList = text.toList) := Lib.hid (by rw [ht])
  clear hcl hcut hlen st sh hd ht hrow hJ
  obtain ⟨r, hr⟩ : ∃ r, r = joined d := ⟨_, rfl⟩
  rw [← hr] at HX HTx
  clear hr
  unfold vec
  unfold vec box at HT
  unfold vec at HX
  have hN0 : (4 : Nat) ≤ N := hN4
  clear hN hN4
  go_enter Tryz.func80, Tryz.ntmps80
  go_wp2_with fail
  refine (HSp.out _).mono ?_
  rintro e w1 ⟨rfl, rfl⟩
  go_wp2_with fail
  refine ((HT _ (by simp)).out).mono ?_
  clear HT HSp
  rintro e w1 (⟨_, rfl, hb, hsz, hA, _⟩ | ⟨⟨i, hi, hf⟩, _⟩)
  · obtain ⟨c0, c1, c2, c3, f0, f1, f2, f3⟩ := cells4 hA
    have HA := Lib.hid (set4_box hA (u 0) (u 1) (u 2) (u 3))
    have HB := Lib.hid (set4_below (T := w.heap.size) (a := u 0) (b := u 1) (c := u 2) (d := u 3) hb (Nat.le_refl _))
    clear hA hb
    unfold vec
    go_wp2_with fail
    refine (HX.out _).mono ?_
    clear HX
    rintro e w2 ⟨rfl, hb2⟩
    have hA2 : w2.heap[w.heap.size]? = some (box (u 0) (u 1) (u 2) (u 3)) := (hb2.block _ (by simp; omega)).trans HA.out
    have hB2 : Below w.heap.size w w2 := HB.out.trans (hb2.mono (by simp; omega))
    have heq : (r.toList == text.toList) = true := by rw [HTx.out]; exact beq_self_eq_true _
    clear hb2 HA HB HTx c0 c1 c2 c3 f0 f1 f2 f3
    obtain ⟨c0, c1, c2, c3, f0, f1, f2, f3⟩ := cells4 hA2
    have HA := Lib.hid (set4_box hA2 (u 0) (u 1) (u 2) (u 3))
    have HB := Lib.hid (set4_below (T := w.heap.size) (a := u 0) (b := u 1) (c := u 2) (d := u 3) hB2 (Nat.le_refl _))
    clear hA2 hB2
    go_wp2
    obtain ⟨d0, d1, d2, d3, _⟩ := cells4 HA.out
    unfold set4 at d0 d1 d2 d3
    refine bodyPost_ret (v := .tuple #[.agg #[.int .u64 (u 0), .int .u64 (u 1), .int .u64 (u 2), .int .u64 (u 3)], .bool true]) (by simp [results, Tryz.results80, go_sem, d0, d1, d2, d3]) rfl ?_
    exact ⟨rfl, HB.out⟩
  · simp at hf
end Go.Proofs.YtbilkeadhflibaaGreatDoor.Vec

/- What wire.PutText and wire.GetText answer, for every text, place and limit, by one plain function each; of memory that was there nothing turns. -/
namespace Go.Proofs.YtbilkeadhflibaaGreatDoor.Wire
open Go.RowKit

/-- The text of at most so many bytes whose form stands in l at p: where its bytes begin, and where they end. -/
def textV (l : List UInt8) (p most : Int) : Option (Nat × Nat) :=
  match getV l p with
  | none => none
  | some x => if most < 0 ∨ most < (x.1 : Int) ∨ l.length < x.2 + x.1 then none else some (x.2, x.2 + x.1)

set_option maxRecDepth 100000 in
set_option maxHeartbeats 1000000 in
theorem text_yes (s : ByteArray) (hs : s.size ≤ 9223372036854775807) (p most : Int) (hmost : most ≤ 9223372036854775807) (a n : Nat) (h : textV s.data.toList p most = some (a, n)) (w : World) :
    Calls Tryz.prog 73 #[.string s, .int .i64 p, .int .i64 most] w fun e w' => e = .returned (.tuple #[.string (s.extract a n), .int .i64 n, .bool true]) ∧ Below w.heap.size w w' := by
  unfold textV at h
  split at h
  · simp at h
  rename_i x hg
  split at h
  · simp at h
  rename_i hc
  simp only [Option.some.injEq, Prod.mk.injEq] at h
  obtain ⟨u, from'⟩ := x
  simp only at h hc
  have hlt := getV_lt hg
  rw [size_list] at hc hlt
  have HG := Lib.hid (get_yes s hs p u from' hg)
  have h1 : 0 ≤ most := by omega
  have h2 : (u : Int) ≤ most := by omega
  have h3 : (u : Int) ≤ (s.size : Int) - (from' : Int) := by omega
  have h4 : from' ≤ s.size := by omega
  obtain ⟨rfl, rfl⟩ := h
  clear hg hc hlt
  go_enter Tryz.func73, Tryz.ntmps73
  go_wp2_with (go_at_call 77; refine (HG.out _).mono ?_; rintro e w1 ⟨rfl, hb⟩)
  go_ret3
  exact ⟨by go_num, hb⟩

set_option maxRecDepth 100000 in
set_option maxHeartbeats 1000000 in
theorem text_no (s : ByteArray) (hs : s.size ≤ 9223372036854775807) (p most : Int) (hmost : most ≤ 9223372036854775807) (h : textV s.data.toList p most = none) (w : World) :
    Calls Tryz.prog 73 #[.string s, .int .i64 p, .int .i64 most] w fun e w' => e = .returned (.tuple #[.string ⟨#[]⟩, .int .i64 0, .bool false]) ∧ Below w.heap.size w w' := by
  unfold textV at h
  split at h
  · rename_i hg
    have HG := Lib.hid (get_no s hs p hg)
    clear hg h
    go_enter Tryz.func73, Tryz.ntmps73
    go_wp2_with (go_at_call 77; refine (HG.out _).mono ?_; rintro e w1 ⟨rfl, hb⟩)
    go_ret3
    exact ⟨rfl, hb⟩
  · rename_i x hg
    obtain ⟨u, from'⟩ := x
    simp only [ite_eq_left_iff, reduceCtorEq, imp_false, Decidable.not_not] at h
    have hlt := getV_lt hg
    rw [size_list] at h hlt
    have HG := Lib.hid (get_yes s hs p u from' hg)
    have h4 : from' ≤ s.size := by omega
    have hu : (u : Int) ≤ 18446744073709551615 := by omega
    clear hg hlt
    by_cases h1 : most < 0
    · clear h
      go_enter Tryz.func73, Tryz.ntmps73
      go_wp2_with (go_at_call 77; refine (HG.out _).mono ?_; rintro e w1 ⟨rfl, hb⟩)
      go_ret3
      exact ⟨rfl, hb⟩
    · by_cases h2 : most < (u : Int)
      · clear h
        go_enter Tryz.func73, Tryz.ntmps73
        go_wp2_with (go_at_call 77; refine (HG.out _).mono ?_; rintro e w1 ⟨rfl, hb⟩)
        go_ret3
        exact ⟨rfl, hb⟩
      · have h3 : (s.size : Int) - (from' : Int) < (u : Int) := by omega
        clear h
        go_enter Tryz.func73, Tryz.ntmps73
        go_wp2_with (go_at_call 77; refine (HG.out _).mono ?_; rintro e w1 ⟨rfl, hb⟩)
        go_ret3
        exact ⟨rfl, hb⟩

set_option maxRecDepth 100000 in
set_option maxHeartbeats 1000000 in
theorem putText_any (t : ByteArray) (ht : t.size ≤ 4611686018427387904) (w : World) :
    Calls Tryz.prog 49 #[.string t] w fun e w' => e = .returned (.string (str (putL t.size) ++ t)) ∧ Below w.heap.size w w' := by
  have hten := putL_ten (u := t.size) (by omega)
  have hsz := str_size (putL t.size)
  have HP := Lib.hid (put_any t.size (by omega))
  obtain ⟨q, hq⟩ : ∃ q, q = str (putL t.size) := ⟨_, rfl⟩
  rw [← hq] at HP hsz ⊢
  have hq' : q.size ≤ 10 := by omega
  clear hsz hten hq
  go_enter Tryz.func49, Tryz.ntmps49
  go_wp2_with (go_at_call 51; refine (HP.out _).mono ?_; rintro e w1 ⟨rfl, hb⟩)
  go_ret
  exact ⟨rfl, hb⟩
end Go.Proofs.YtbilkeadhflibaaGreatDoor.Wire

/- The plain mathematics of names and paths: runes of a text, names, the pieces between slashes; no program. -/
namespace Go.Proofs.YtbilkeadhflibaaGreatDoor.Word

/-- A text of bytes. -/
def str (l : List UInt8) : ByteArray := ⟨l.toArray⟩
theorem str_toList (l : List UInt8) : (str l).data.toList = l := by simp [str]
theorem str_size (l : List UInt8) : (str l).size = l.length := by simp [str, ByteArray.size]
theorem str_data (s : ByteArray) : str s.data.toList = s := by cases s; simp [str]
theorem str_inj {a b : List UInt8} (h : str a = str b) : a = b := by rw [← str_toList a, h, str_toList]
theorem size_list (s : ByteArray) : s.data.toList.length = s.size := Array.length_toList
theorem str_append (a b : List UInt8) : str a ++ str b = str (a ++ b) := by
  apply ByteArray.ext
  simp [str]
theorem append_str (a b : ByteArray) : a ++ b = str (a.data.toList ++ b.data.toList) := by
  rw [← str_append, str_data, str_data]

/-- The rune that stands first, and how many bytes it has. -/
def dec (l : List UInt8) : Nat × Nat := Lib.decodeN l.length (l.getD 0 0).toNat (l.getD 1 0).toNat (l.getD 2 0).toNat (l.getD 3 0).toNat

theorem get_drop (s : ByteArray) (i k : Nat) : s.get! (i + k) = (s.data.toList.drop i).getD k 0 := by
  show s.data[i + k]! = _
  rw [List.getD_eq_getElem?_getD, List.getElem?_drop, Array.getElem?_toList, getElem!_def]
  cases s.data[i + k]? <;> rfl
theorem decode_drop (s : ByteArray) (i : Nat) : Utf8.decode s i = dec (s.data.toList.drop i) := by
  rw [Lib.decode_at, dec, List.length_drop, size_list, ← get_drop, ← get_drop, ← get_drop, ← get_drop]
  rfl

theorem dec_pos {l : List UInt8} : 1 ≤ (dec l).2 := by
  unfold dec Lib.decodeN
  repeat' split
  all_goals simp
theorem dec_le {l : List UInt8} (h : l ≠ []) : (dec l).2 ≤ l.length := by
  have : 1 ≤ l.length := by cases l <;> simp_all
  unfold dec Lib.decodeN
  repeat' split
  all_goals simp
  all_goals omega

/-- The runes of a text, of bytes that are no rune's one each. -/
def runesF : Nat → List UInt8 → List Nat
  | 0, _ => []
  | f + 1, l => if l = [] then [] else (dec l).1 :: runesF f (l.drop (dec l).2)
def runes (l : List UInt8) : List Nat := runesF l.length l

theorem runesF_nil (f : Nat) : runesF f [] = [] := by cases f <;> rfl
theorem runesF_more : ∀ (f g : Nat) (l : List UInt8), l.length ≤ f → l.length ≤ g → runesF f l = runesF g l
  | 0, g, l, hf, _ => by
    obtain rfl : l = [] := List.eq_nil_of_length_eq_zero (by omega)
    rw [runesF_nil, runesF_nil]
  | f + 1, 0, l, _, hg => by
    obtain rfl : l = [] := List.eq_nil_of_length_eq_zero (by omega)
    rw [runesF_nil, runesF_nil]
  | f + 1, g + 1, l, hf, hg => by
    unfold runesF
    split
    · rfl
    · rename_i hl
      have h1 := dec_pos (l := l)
      have h2 : 1 ≤ l.length := by cases l <;> simp_all
      rw [runesF_more f g _ (by rw [List.length_drop]; omega) (by rw [List.length_drop]; omega)]
theorem runes_nil : runes [] = [] := rfl
theorem runes_cons {l : List UInt8} (h : l ≠ []) : runes l = (dec l).1 :: runes (l.drop (dec l).2) := by
  have h1 := dec_pos (l := l)
  have h2 : 1 ≤ l.length := by cases l <;> simp_all
  unfold runes
  rw [show l.length = (l.length - 1) + 1 by omega, runesF, if_neg h, runesF_more (l.length - 1) (l.drop (dec l).2).length _ (by rw [List.length_drop]; omega) (Nat.le_refl _)]
theorem runes_length : ∀ (f : Nat) (l : List UInt8), (runesF f l).length ≤ f
  | 0, _ => by simp [runesF]
  | f + 1, l => by
    unfold runesF
    split
    · simp
    · simp only [List.length_cons]
      have := runes_length f (l.drop (dec l).2)
      omega
theorem runes_le (l : List UInt8) : (runes l).length ≤ l.length := runes_length _ _

/-- How many runes: P2.1. -/
def count (l : List UInt8) : Nat := (runes l).length

def isLetter (r : Nat) : Bool := (decide (97 ≤ r) && decide (r ≤ 122)) || (decide (945 ≤ r) && decide (r ≤ 969)) || (decide (1072 ≤ r) && decide (r ≤ 1103))
def isInner (r : Nat) : Bool := decide (r = 45) || (decide (48 ≤ r) && decide (r ≤ 57))

/-- Is what is left of a name, k runes ahead of it, the rest of one? -/
def rightR : Nat → List Nat → Bool
  | k, [] => decide (0 < k)
  | k, r :: rs => if k = 16 ∨ (isLetter r = false ∧ (k = 0 ∨ isInner r = false)) then false else rightR (k + 1) rs
/-- A name: P2.1. -/
def right (l : List UInt8) : Bool := rightR 0 (runes l)

theorem rightR_inner : ∀ (rs : List Nat) (k : Nat), 0 < k → k ≤ 16 → (rightR k rs = true ↔ (∀ r ∈ rs, isLetter r = true ∨ isInner r = true) ∧ k + rs.length ≤ 16)
  | [], k, h, h' => by simp [rightR, h, h']
  | r :: rs, k, h, h' => by
    unfold rightR
    split
    · rename_i hc
      simp only [Bool.false_eq_true, false_iff, not_and, List.length_cons]
      intro ha
      rcases hc with rfl | ⟨h1, h2 | h2⟩
      · omega
      · omega
      · have := ha r (List.mem_cons_self ..)
        simp [h1, h2] at this
    · rename_i hc
      have hk : k ≠ 16 := fun e => hc (.inl e)
      have hr : isLetter r = true ∨ isInner r = true := by
        cases h1 : isLetter r
        · cases h2 : isInner r
          · exact absurd (.inr ⟨h1, .inr h2⟩) hc
          · exact .inr rfl
        · exact .inl rfl
      rw [rightR_inner rs (k + 1) (by omega) (by omega)]
      constructor
      · rintro ⟨ha, hl⟩
        refine ⟨fun x hx => ?_, by simp only [List.length_cons]; omega⟩
        rcases List.mem_cons.1 hx with rfl | hx
        · exact hr
        · exact ha x hx
      · rintro ⟨ha, hl⟩
        exact ⟨fun x hx => ha x (List.mem_cons_of_mem _ hx), by simp only [List.length_cons] at hl; omega⟩

/-- A name: one to sixteen runes, letters, digits and dashes, the first one a letter. -/
theorem right_iff (l : List UInt8) : right l = true ↔ ∃ r rs, runes l = r :: rs ∧ isLetter r = true ∧ (∀ x ∈ rs, isLetter x = true ∨ isInner x = true) ∧ rs.length ≤ 15 := by
  unfold right
  cases h : runes l with
  | nil => simp [rightR]
  | cons r rs =>
    unfold rightR
    cases hr : isLetter r with
    | false => simp [hr]
    | true =>
      rw [if_neg (by simp), rightR_inner rs 1 (by omega) (by omega)]
      constructor
      · rintro ⟨ha, hl⟩
        exact ⟨r, rs, rfl, hr, ha, by omega⟩
      · rintro ⟨r', rs', e, _, ha, hl⟩
        injection e with e1 e2
        subst e1 e2
        exact ⟨ha, by omega⟩

theorem right_nil : right [] = false := rfl

/-! ### the bytes of a name -/

theorem dec_small {l : List UInt8} (h : (dec l).1 < 2048) (h0 : l ≠ []) : (dec l).2 ≤ 2 ∧ ((dec l).2 = 1 ∧ (dec l).1 = (l.getD 0 0).toNat ∧ (dec l).1 < 128 ∨ (dec l).2 = 2 ∧ 128 ≤ (dec l).1 ∧ 192 ≤ (l.getD 0 0).toNat ∧ 128 ≤ (l.getD 1 0).toNat ∧ 2 ≤ l.length) := by
  have hl : 1 ≤ l.length := by cases l <;> simp_all
  revert h
  unfold dec Lib.decodeN
  generalize (l.getD 0 0).toNat = b0
  generalize (l.getD 1 0).toNat = b1
  generalize (l.getD 2 0).toNat = b2
  generalize (l.getD 3 0).toNat = b3
  repeat' split
  all_goals intro h
  all_goals dsimp only at h ⊢
  all_goals first | omega | (exfalso; omega)

theorem letter_lt {r : Nat} (h : isLetter r = true ∨ isInner r = true) : r < 2048 ∧ r ≠ 47 := by
  simp only [isLetter, isInner, Bool.or_eq_true, Bool.and_eq_true, decide_eq_true_eq] at h
  omega

theorem letters_free : ∀ (f : Nat) (l : List UInt8), l.length ≤ f → (∀ r ∈ runes l, isLetter r = true ∨ isInner r = true) → (47 : UInt8) ∉ l ∧ l.length ≤ 2 * (runes l).length
  | 0, l, hf, _ => by
    obtain rfl : l = [] := List.eq_nil_of_length_eq_zero (by omega)
    simp
  | f + 1, l, hf, h => by
    by_cases hl : l = []
    · subst hl; simp
    have hr := runes_cons hl
    have hd := h (dec l).1 (by rw [hr]; exact List.mem_cons_self ..)
    have hlt := letter_lt hd
    have hsm := dec_small hlt.1 hl
    have hpos := dec_pos (l := l)
    have hlen : 1 ≤ l.length := List.length_pos_iff.2 hl
    have ih := letters_free f (l.drop (dec l).2) (by rw [List.length_drop]; omega) (fun r hr' => h r (by rw [hr]; exact List.mem_cons_of_mem _ hr'))
    refine ⟨fun hm => ?_, ?_⟩
    · rw [← List.take_append_drop (dec l).2 l, List.mem_append] at hm
      rcases hm with hm | hm
      · rcases hsm.2 with ⟨h1, h2, h3⟩ | ⟨h1, h2, h3, h4, h5⟩
        · rw [h1] at hm
          cases l with
          | nil => simp at hl
          | cons c l =>
            simp only [List.take_succ_cons, List.take_zero, List.mem_singleton] at hm
            subst hm
            rw [h2] at hlt
            exact hlt.2 rfl
        · rw [h1] at hm
          match l, h5 with
          | c :: d :: l, _ =>
            simp only [List.take_succ_cons, List.take_zero, List.mem_cons, List.not_mem_nil, or_false] at hm
            rcases hm with rfl | rfl
            · simp at h3
            · simp at h4
      · exact ih.1 hm
    · rw [hr, List.length_cons]
      have := ih.2
      rw [List.length_drop] at this
      omega

/-- A name has no slash, and at most thirty-two bytes. -/
theorem right_free {l : List UInt8} (h : right l = true) : (47 : UInt8) ∉ l ∧ l.length ≤ 32 := by
  obtain ⟨r, rs, e, h1, h2, h3⟩ := (right_iff l).1 h
  have := letters_free l.length l (Nat.le_refl _) (fun x hx => by
    rw [e] at hx
    rcases List.mem_cons.1 hx with rfl | hx
    · exact .inl h1
    · exact h2 x hx)
  rw [e, List.length_cons] at this
  exact ⟨this.1, by omega⟩

/-! ### pieces -/

/-- What stands between slashes. -/
def pieces : List UInt8 → List (List UInt8)
  | [] => [[]]
  | c :: l => if c = 47 then [] :: pieces l else (c :: (pieces l).headD []) :: (pieces l).tail

theorem pieces_ne (l : List UInt8) : pieces l ≠ [] := by
  cases l with
  | nil => simp [pieces]
  | cons c l => unfold pieces; split <;> simp
theorem pieces_free : ∀ {l : List UInt8}, (47 : UInt8) ∉ l → pieces l = [l]
  | [], _ => rfl
  | c :: l, h => by
    have h1 : c ≠ 47 := fun e => h (by rw [e]; exact List.mem_cons_self ..)
    have h2 := pieces_free (l := l) (fun hm => h (List.mem_cons_of_mem _ hm))
    rw [pieces, if_neg h1, h2]
    rfl
theorem pieces_cut : ∀ {a : List UInt8} (b : List UInt8), (47 : UInt8) ∉ a → pieces (a ++ 47 :: b) = a :: pieces b
  | [], b, _ => by simp [pieces]
  | c :: a, b, h => by
    have h1 : c ≠ 47 := fun e => h (by rw [e]; exact List.mem_cons_self ..)
    have h2 := pieces_cut (a := a) b (fun hm => h (List.mem_cons_of_mem _ hm))
    rw [List.cons_append, pieces, if_neg h1, h2]
    rfl

/-- Pieces, slashes between. -/
def glue : List (List UInt8) → List UInt8
  | [] => []
  | [a] => a
  | a :: b :: l => a ++ 47 :: glue (b :: l)
theorem glue_pieces : ∀ (l : List UInt8), glue (pieces l) = l
  | [] => rfl
  | c :: l => by
    have ih := glue_pieces l
    have hne := pieces_ne l
    unfold pieces
    cases hp : pieces l with
    | nil => exact absurd hp hne
    | cons p ps =>
      rw [hp] at ih
      split
      · rename_i h
        subst h
        show [] ++ 47 :: glue (p :: ps) = _
        rw [ih]; rfl
      · simp only [List.headD_cons, List.tail_cons]
        cases ps with
        | nil => show c :: p = _; rw [← ih]; rfl
        | cons q ps => show c :: p ++ 47 :: glue (q :: ps) = _; rw [← ih]; rfl
theorem pieces_glue : ∀ (a : List UInt8) (ls : List (List UInt8)), (∀ x ∈ a :: ls, (47 : UInt8) ∉ x) → pieces (glue (a :: ls)) = a :: ls
  | a, [], h => pieces_free (h a (List.mem_cons_self ..))
  | a, b :: ls, h => by
    show pieces (a ++ 47 :: glue (b :: ls)) = _
    rw [pieces_cut _ (h a (List.mem_cons_self ..)), pieces_glue b ls (fun x hx => h x (List.mem_cons_of_mem _ hx))]

/-- A path's names: P2.2. -/
def parts (l : List UInt8) : List (List UInt8) := if (pieces l).length ≤ 3 ∧ (pieces l).all right = true then pieces l else []

/-- The paths of the first names. -/
def upsOf : List UInt8 → List (List UInt8) → List (List UInt8)
  | _, [] => []
  | p, a :: l => (p ++ a) :: upsOf (p ++ a ++ [47]) l
/-- A path's ups: P2.2. -/
def ups (l : List UInt8) : List (List UInt8) := upsOf [] (parts l)
/-- P2.2. -/
def under (a b : List UInt8) : Bool := decide (a ∈ ups b)

theorem upsOf_length : ∀ (p : List UInt8) (l : List (List UInt8)), (upsOf p l).length = l.length
  | _, [] => rfl
  | p, a :: l => by rw [upsOf, List.length_cons, List.length_cons, upsOf_length]
theorem ups_length (l : List UInt8) : (ups l).length = (parts l).length := upsOf_length _ _

theorem parts_le (l : List UInt8) : (parts l).length ≤ 3 := by
  unfold parts
  split
  · rename_i h; exact h.1
  · simp
theorem parts_right {l a : List UInt8} (h : a ∈ parts l) : right a = true := by
  unfold parts at h
  split at h
  · rename_i hc; exact List.all_eq_true.1 hc.2 a h
  · simp at h
theorem parts_glue {l : List UInt8} (h : parts l ≠ []) : glue (parts l) = l := by
  unfold parts at h ⊢
  split
  · exact glue_pieces l
  · rename_i hc; rw [if_neg hc] at h; exact absurd rfl h
/-- One to three names make a path, whose parts they are. -/
theorem parts_of (a : List UInt8) (ls : List (List UInt8)) (h : ∀ x ∈ a :: ls, right x = true) (hl : ls.length ≤ 2) : parts (glue (a :: ls)) = a :: ls := by
  have hp := pieces_glue a ls (fun x hx => (right_free (h x hx)).1)
  unfold parts
  rw [hp, if_pos ⟨by simp only [List.length_cons]; omega, List.all_eq_true.2 h⟩]
end Go.Proofs.YtbilkeadhflibaaGreatDoor.Word

/- Plain facts on texts as bytes, whatever they are of: a text's form where it stands, what stands between a byte, which bytes a name lacks; no program. -/
namespace Go.Proofs.YtbilkeadhflibaaGreatDoor.Forms
open Go.Proofs.YtbilkeadhflibaaGreatDoor.Word

/-- The bytes of a text's form. -/
def flat (t : ByteArray) : List UInt8 := Wire.putL t.size ++ t.data.toList
theorem flat_len (t : ByteArray) : (flat t).length = (Wire.putL t.size).length + t.size := by rw [flat, List.length_append, size_list]
theorem textV_of {l : List UInt8} {p : Nat} {t : ByteArray} {r : List UInt8} (ht : t.size ≤ 32) (h : l.drop p = flat t ++ r) :
    Wire.textV l (p : Int) 32 = some (p + (Wire.putL t.size).length, p + (flat t).length) := by
  have hs : Wire.Stands t.size (l.drop p) := ⟨by omega, t.data.toList ++ r, by rw [h, flat, List.append_assoc]⟩
  have hlen := congrArg List.length h
  have hpos := Wire.putL_pos t.size
  have hf := flat_len t
  rw [List.length_drop, List.length_append, hf] at hlen
  unfold Wire.textV
  rw [Wire.getV_of hs]
  simp only
  rw [if_neg (by omega), hf, Nat.add_assoc]
theorem extract_of {s : ByteArray} {p : Nat} {t : ByteArray} {r : List UInt8} (h : s.data.toList.drop p = flat t ++ r) : s.extract (p + (Wire.putL t.size).length) (p + (flat t).length) = t := by
  have hf : (flat t).length = (Wire.putL t.size).length + t.data.toList.length := by rw [flat, List.length_append]
  apply ByteArray.ext
  apply Array.toList_inj.1
  rw [Lib.extract_data, ← List.drop_drop, h, flat, List.append_assoc, List.drop_left]
  rw [← flat, show p + (flat t).length - (p + (Wire.putL t.size).length) = t.data.toList.length by omega, List.take_left]

theorem flat_extract {s : ByteArray} {p : Int} {a b : Nat} (h : Wire.textV s.data.toList p 32 = some (a, b)) :
    0 ≤ p ∧ p.toNat ≤ b ∧ b ≤ s.size ∧ s.data.toList.drop p.toNat = flat (s.extract a b) ++ s.data.toList.drop b := by
  unfold Wire.textV at h
  split at h
  · simp at h
  rename_i x hg
  split at h
  · simp at h
  rename_i hc
  obtain ⟨u, n⟩ := x
  simp only [Option.some.injEq, Prod.mk.injEq] at h hc
  obtain ⟨rfl, rfl⟩ := h
  obtain ⟨_, hlt, hle, hp, hn, _, r, hr⟩ := Wire.getV_lt hg
  rw [size_list] at hc hle
  have hd : s.data.toList.drop n = r := by rw [hn, ← List.drop_drop, hr, List.drop_left]
  refine ⟨hp, by omega, by omega, ?_⟩
  have hsz : (s.extract n (n + u)).size = u := by rw [ByteArray.size_extract]; omega
  rw [flat, hsz, Lib.extract_data, hd, Nat.add_sub_cancel_left, ← List.drop_drop, hd, List.append_assoc, List.take_append_drop]
  exact hr
theorem free_of (q : UInt8) (hq : q.toNat < 128) (hql : isLetter q.toNat = false) (hqi : isInner q.toNat = false) : ∀ (f : Nat) (l : List UInt8), l.length ≤ f → (∀ r ∈ runes l, isLetter r = true ∨ isInner r = true) → q ∉ l
  | 0, l, hf, _ => by
    obtain rfl : l = [] := List.eq_nil_of_length_eq_zero (by omega)
    simp
  | f + 1, l, hf, h => by
    by_cases hl : l = []
    · subst hl; simp
    have hr := runes_cons hl
    have hd := h (dec l).1 (by rw [hr]; exact List.mem_cons_self ..)
    have hlt := letter_lt hd
    have hsm := dec_small hlt.1 hl
    have hpos := dec_pos (l := l)
    have hlen : 1 ≤ l.length := List.length_pos_iff.2 hl
    have ih := free_of q hq hql hqi f (l.drop (dec l).2) (by rw [List.length_drop]; omega) (fun r hr' => h r (by rw [hr]; exact List.mem_cons_of_mem _ hr'))
    intro hm
    rw [← List.take_append_drop (dec l).2 l, List.mem_append] at hm
    rcases hm with hm | hm
    · rcases hsm.2 with ⟨h1, h2, h3⟩ | ⟨h1, h2, h3, h4, h5⟩
      · rw [h1] at hm
        cases l with
        | nil => simp at hl
        | cons c l =>
          simp only [List.take_succ_cons, List.take_zero, List.mem_singleton] at hm
          subst hm
          rw [h2] at hd
          simp only [List.getD_cons_zero] at hd
          rw [hql, hqi] at hd
          simp at hd
      · rw [h1] at hm
        match l, h5 with
        | c :: d :: l, _ =>
          simp only [List.take_succ_cons, List.take_zero, List.mem_cons, List.not_mem_nil, or_false] at hm
          simp only [List.getD_cons_zero, List.getD_cons_succ] at h3 h4
          rcases hm with rfl | rfl
          · omega
          · omega
    · exact ih hm
/-- A name lacks every byte that is no letter, digit or dash. -/
theorem name_lacks (q : UInt8) (hq : q.toNat < 128) (hql : isLetter q.toNat = false) (hqi : isInner q.toNat = false) {l : List UInt8} (h : right l = true) : q ∉ l := by
  obtain ⟨r, rs, e, h1, h2, h3⟩ := (right_iff l).1 h
  refine free_of q hq hql hqi l.length l (Nat.le_refl _) fun x hx => ?_
  rw [e] at hx
  rcases List.mem_cons.1 hx with rfl | hx
  · exact .inl h1
  · exact h2 x hx
theorem name_some {l : List UInt8} (h : right l = true) : l ≠ [] := by
  rintro rfl
  rw [right_nil] at h
  cases h

/-- What stands between a byte. -/
def cuts (c : UInt8) : List UInt8 → List (List UInt8)
  | [] => [[]]
  | d :: l => if d = c then [] :: cuts c l else (d :: (cuts c l).headD []) :: (cuts c l).tail
theorem cuts_ne (c : UInt8) (l : List UInt8) : cuts c l ≠ [] := by
  cases l with
  | nil => simp [cuts]
  | cons d l => unfold cuts; split <;> simp
theorem cuts_free {c : UInt8} : ∀ {l : List UInt8}, c ∉ l → cuts c l = [l]
  | [], _ => rfl
  | d :: l, h => by
    have h1 : d ≠ c := fun e => h (by rw [e]; exact List.mem_cons_self ..)
    have h2 := cuts_free (l := l) (fun hm => h (List.mem_cons_of_mem _ hm))
    rw [cuts, if_neg h1, h2]
    rfl
theorem cuts_cut {c : UInt8} : ∀ {a : List UInt8} (b : List UInt8), c ∉ a → cuts c (a ++ c :: b) = a :: cuts c b
  | [], b, _ => by simp [cuts]
  | d :: a, b, h => by
    have h1 : d ≠ c := fun e => h (by rw [e]; exact List.mem_cons_self ..)
    have h2 := cuts_cut (a := a) b (fun hm => h (List.mem_cons_of_mem _ hm))
    rw [List.cons_append, cuts, if_neg h1, h2]
    rfl
def glueC (c : UInt8) : List (List UInt8) → List UInt8
  | [] => []
  | [a] => a
  | a :: b :: l => a ++ c :: glueC c (b :: l)
theorem glue_cuts (c : UInt8) : ∀ (l : List UInt8), glueC c (cuts c l) = l
  | [] => rfl
  | d :: l => by
    have ih := glue_cuts c l
    have hne := cuts_ne c l
    unfold cuts
    cases hp : cuts c l with
    | nil => exact absurd hp hne
    | cons p ps =>
      rw [hp] at ih
      split
      · rename_i h
        subst h
        show [] ++ d :: glueC d (p :: ps) = _
        rw [ih]; rfl
      · simp only [List.headD_cons, List.tail_cons]
        cases ps with
        | nil => show d :: p = _; rw [← ih]; rfl
        | cons q ps => show d :: p ++ c :: glueC c (q :: ps) = _; rw [← ih]; rfl

theorem cuts_glue (c : UInt8) : ∀ (a : List UInt8) (ls : List (List UInt8)), (∀ x ∈ a :: ls, c ∉ x) → cuts c (glueC c (a :: ls)) = a :: ls
  | a, [], h => cuts_free (h a (List.mem_cons_self ..))
  | a, b :: ls, h => by
    show cuts c (a ++ c :: glueC c (b :: ls)) = _
    rw [cuts_cut _ (h a (List.mem_cons_self ..)), cuts_glue c b ls (fun x hx => h x (List.mem_cons_of_mem _ hx))]
theorem cuts_len (c : UInt8) : ∀ (l : List UInt8), (cuts c l).length ≤ l.length + 1 ∧ ∀ t ∈ cuts c l, t.length ≤ l.length
  | [] => by simp [cuts]
  | d :: l => by
    obtain ⟨h1, h2⟩ := cuts_len c l
    have hne := cuts_ne c l
    unfold cuts
    cases hp : cuts c l with
    | nil => exact absurd hp hne
    | cons p ps =>
      rw [hp] at h1 h2
      split
      · refine ⟨by simp at h1 ⊢; omega, fun t ht => ?_⟩
        rcases List.mem_cons.1 ht with rfl | ht
        · simp
        · have := h2 t ht; simp; omega
      · simp only [List.headD_cons, List.tail_cons]
        refine ⟨by simp at h1 ⊢; omega, fun t ht => ?_⟩
        rcases List.mem_cons.1 ht with rfl | ht
        · have := h2 p (List.mem_cons_self ..); simp; omega
        · have := h2 t (List.mem_cons_of_mem _ ht); simp; omega


/-! ### so many, one behind the other -/

/-- So many items, one behind the other, from a place on. -/
def readN {α π : Type} (one : π → Option (α × π)) : Nat → π → Option (List α × π)
  | 0, p => some ([], p)
  | n + 1, p => match one p with
    | none => none
    | some x => match readN one n x.2 with
      | none => none
      | some y => some (x.1 :: y.1, y.2)
def ahead {α π : Type} (done : List α) : Option (List α × π) → Option (List α × π)
  | none => none
  | some x => some (done ++ x.1, x.2)
theorem ahead_nil {α π : Type} (r : Option (List α × π)) : ahead [] r = r := by cases r <;> rfl
theorem readN_go {α π : Type} {one : π → Option (α × π)} {n : Nat} {p q : π} {x : α} {done : List α} (h : one p = some (x, q)) : ahead done (readN one (n + 1) p) = ahead (done ++ [x]) (readN one n q) := by
  rw [readN, h]
  simp only
  cases readN one n q with
  | none => rfl
  | some y => simp [ahead]
theorem readN_stop {α π : Type} {one : π → Option (α × π)} {n : Nat} {p : π} {done : List α} (h : one p = none) : ahead done (readN one (n + 1) p) = none := by
  rw [readN, h]; rfl
theorem readN_len {α π : Type} {one : π → Option (α × π)} : ∀ {n : Nat} {p : π} {x : List α × π}, readN one n p = some x → x.1.length = n
  | 0, p, x, h => by simp [readN] at h; subst h; rfl
  | n + 1, p, x, h => by
    unfold readN at h
    split at h
    · simp at h
    · split at h
      · simp at h
      · rename_i y hy
        simp at h; subst h
        simp [readN_len hy]

/-- What is read where forms stand. -/
theorem readN_of {α : Type} {one : Int → Option (α × Int)} {form : α → List UInt8} {L : List UInt8} {ok : α → Prop}
    (h1 : ∀ (p : Nat) (x : α) (r : List UInt8), ok x → L.drop p = form x ++ r → one (p : Int) = some (x, ((p + (form x).length : Nat) : Int))) :
    ∀ (xs : List α) (p : Nat) (r : List UInt8), (∀ x ∈ xs, ok x) → L.drop p = xs.flatMap form ++ r → readN one xs.length (p : Int) = some (xs, ((p + (xs.flatMap form).length : Nat) : Int))
  | [], p, r, _, _ => by simp [readN]
  | x :: xs, p, r, hok, h => by
    rw [List.flatMap_cons, List.append_assoc] at h
    have h2 : L.drop (p + (form x).length) = xs.flatMap form ++ r := by rw [← List.drop_drop, h, List.drop_left]
    rw [List.length_cons, readN, h1 p x _ (hok x (List.mem_cons_self ..)) h]
    simp only
    rw [readN_of h1 xs _ r (fun y hy => hok y (List.mem_cons_of_mem _ hy)) h2]
    simp only [List.flatMap_cons, List.length_append, Nat.add_assoc]
/-- What was read stands there. -/
theorem readN_back {α : Type} {one : Int → Option (α × Int)} {form : α → List UInt8} {L : List UInt8}
    (h1 : ∀ (p : Nat) (x : α × Int), p ≤ L.length → one (p : Int) = some x → ∃ q : Nat, x.2 = (q : Int) ∧ p ≤ q ∧ q ≤ L.length ∧ L.drop p = form x.1 ++ L.drop q) :
    ∀ (n p : Nat) (x : List α × Int), p ≤ L.length → readN one n (p : Int) = some x → ∃ q : Nat, x.2 = (q : Int) ∧ p ≤ q ∧ q ≤ L.length ∧ L.drop p = x.1.flatMap form ++ L.drop q
  | 0, p, x, hp, h => by
    simp [readN] at h
    subst h
    exact ⟨p, rfl, Nat.le_refl _, hp, by simp⟩
  | n + 1, p, x, hp, h => by
    unfold readN at h
    split at h
    · simp at h
    rename_i y hy
    split at h
    · simp at h
    rename_i z hz
    simp only [Option.some.injEq] at h
    subst h
    obtain ⟨q, g1, g2, g3, g4⟩ := h1 p y hp hy
    rw [g1] at hz
    obtain ⟨q', k1, k2, k3, k4⟩ := readN_back h1 n q z g3 hz
    exact ⟨q', k1, by omega, k3, by rw [g4, k4, List.flatMap_cons, List.append_assoc]⟩

/-- A text of at most so many bytes, and the place behind it. -/
def oneText (s : ByteArray) (p : Int) : Option (ByteArray × Int) := match Wire.textV s.data.toList p 32 with
  | none => none
  | some a => some (s.extract a.1 a.2, (a.2 : Int))
theorem oneText_of {s : ByteArray} (p : Nat) (t : ByteArray) (r : List UInt8) (ht : t.size ≤ 32) (h : s.data.toList.drop p = flat t ++ r) : oneText s (p : Int) = some (t, ((p + (flat t).length : Nat) : Int)) := by
  unfold oneText
  rw [textV_of ht h]
  simp only
  rw [extract_of h]
theorem oneText_back {s : ByteArray} (p : Nat) (x : ByteArray × Int) (_ : p ≤ s.data.toList.length) (h : oneText s (p : Int) = some x) : ∃ q : Nat, x.2 = (q : Int) ∧ p ≤ q ∧ q ≤ s.data.toList.length ∧ s.data.toList.drop p = flat x.1 ++ s.data.toList.drop q := by
  unfold oneText at h
  split at h
  · simp at h
  rename_i a ha
  simp only [Option.some.injEq] at h
  subst h
  obtain ⟨_, h2, h3, h4⟩ := flat_extract (a := a.1) (b := a.2) ha
  simp only [Int.toNat_natCast] at h2 h4
  exact ⟨a.2, rfl, h2, by rw [size_list]; exact h3, h4⟩
end Go.Proofs.YtbilkeadhflibaaGreatDoor.Forms

/- What strings.SplitN answers at any one byte and five pieces, for every text: the pieces up to the fourth such byte, in a new row; of memory that was there nothing turns. Of no layer. -/
namespace Go.Proofs.YtbilkeadhflibaaGreatDoor.Split
open Go.RowKit Go.Proofs.YtbilkeadhflibaaGreatDoor.Word Go.Proofs.YtbilkeadhflibaaGreatDoor.Forms

/-- The pieces up to the k-th such byte, and what is left. -/
def cutK (c : UInt8) : Nat → List UInt8 → List (List UInt8)
  | 0, l => [l]
  | k + 1, l => if Lib.indexByte l c = -1 then [l] else l.take (Lib.indexByte l c).toNat :: cutK c k (l.drop ((Lib.indexByte l c).toNat + 1))

theorem index_cases (l : List UInt8) (c : UInt8) : (Lib.indexByte l c = -1 ∧ c ∉ l) ∨ ∃ i : Nat, Lib.indexByte l c = i ∧ i < l.length ∧ l = l.take i ++ c :: l.drop (i + 1) ∧ c ∉ l.take i := by
  have hge := Lib.indexByte_ge l c
  by_cases h : Lib.indexByte l c = -1
  · left
    refine ⟨h, fun hm => ?_⟩
    obtain ⟨k, hk⟩ := List.mem_iff_getElem?.1 hm
    exact Lib.indexByte_none h k hk
  · right
    obtain ⟨i, hi⟩ := Int.eq_ofNat_of_zero_le (show 0 ≤ Lib.indexByte l c by omega)
    obtain ⟨h1, h2⟩ := Lib.indexByte_some hi
    obtain ⟨hlt, hv⟩ := List.getElem?_eq_some_iff.1 h1
    refine ⟨i, hi, hlt, ?_, fun hm => ?_⟩
    · rw [← hv, ← List.drop_eq_getElem_cons hlt, List.take_append_drop]
    · obtain ⟨k, hk⟩ := List.mem_iff_getElem?.1 hm
      rw [List.getElem?_take] at hk
      split at hk
      · rename_i hki; exact h2 k hki hk
      · simp at hk
theorem cutK_miss {c : UInt8} {l : List UInt8} (k : Nat) (h : Lib.indexByte l c = -1) : cutK c k l = [l] := by
  cases k with
  | zero => rfl
  | succ k => rw [cutK, if_pos h]
theorem cutK_hit {c : UInt8} {l : List UInt8} (k i : Nat) (h : Lib.indexByte l c = i) : cutK c (k + 1) l = l.take i :: cutK c k (l.drop (i + 1)) := by
  rw [cutK, if_neg (by omega), h]; rfl
theorem cuts_hit {c : UInt8} {l : List UInt8} {i : Nat} (h : l = l.take i ++ c :: l.drop (i + 1)) (hm : c ∉ l.take i) : cuts c l = l.take i :: cuts c (l.drop (i + 1)) := by
  have := cuts_cut (l.drop (i + 1)) hm
  rw [← h] at this
  exact this
theorem cutK_length (c : UInt8) : ∀ (k : Nat) (l : List UInt8), (cutK c k l).length ≤ k + 1 ∧ 1 ≤ (cutK c k l).length
  | 0, l => by simp [cutK]
  | k + 1, l => by
    rcases index_cases l c with ⟨h1, h2⟩ | ⟨i, h1, h2, h3, h4⟩
    · rw [cutK_miss _ h1]; simp
    · rw [cutK_hit k i h1, List.length_cons]
      have := cutK_length c k (l.drop (i + 1))
      omega
theorem cutK_few (c : UInt8) : ∀ (k : Nat) (l : List UInt8), (cutK c k l).length ≤ k → cutK c k l = cuts c l
  | 0, l, h => by simp [cutK] at h
  | k + 1, l, h => by
    rcases index_cases l c with ⟨h1, h2⟩ | ⟨i, h1, _, h3, h4⟩
    · rw [cutK_miss _ h1, cuts_free h2]
    · rw [cutK_hit k i h1] at h ⊢
      rw [cutK_few c k _ (by simpa using h), cuts_hit h3 h4]
theorem cutK_all (c : UInt8) : ∀ (k : Nat) (l : List UInt8), l.length ≤ k → cutK c k l = cuts c l
  | 0, l, h => by
    obtain rfl : l = [] := List.eq_nil_of_length_eq_zero (by omega)
    rfl
  | k + 1, l, h => by
    rcases index_cases l c with ⟨h1, h2⟩ | ⟨i, h1, h2, h3, h4⟩
    · rw [cutK_miss _ h1, cuts_free h2]
    · rw [cutK_hit k i h1, cutK_all c k _ (by rw [List.length_drop]; omega), cuts_hit h3 h4]
theorem cutK_le (c : UInt8) : ∀ (k : Nat) (l : List UInt8), (cutK c k l).length ≤ (cuts c l).length
  | 0, l => by have := cuts_ne c l; have := List.length_pos_iff.2 this; simp [cutK]; omega
  | k + 1, l => by
    rcases index_cases l c with ⟨h1, h2⟩ | ⟨i, h1, h2, h3, h4⟩
    · rw [cutK_miss _ h1, cuts_free h2]; exact Nat.le_refl _
    · rw [cutK_hit k i h1, cuts_hit h3 h4, List.length_cons, List.length_cons]
      have := cutK_le c k (l.drop (i + 1))
      omega
/-- As many cuts as a short text can have are as good as four. -/
theorem cutK_four (c : UInt8) (l : List UInt8) : cutK c (min 5 (l.length + 1) - 1) l = cutK c 4 l := by
  by_cases h : 4 ≤ l.length
  · rw [show min 5 (l.length + 1) - 1 = 4 by omega]
  · rw [cutK_all c _ l (by omega), cutK_all c 4 l (by omega)]
/-- Four pieces at the most, or too many. -/
theorem cutK_cuts (c : UInt8) (l : List UInt8) : ((cutK c 4 l).length ≤ 4 ∧ cutK c 4 l = cuts c l) ∨ (4 < (cutK c 4 l).length ∧ 4 < (cuts c l).length) := by
  by_cases h : (cutK c 4 l).length ≤ 4
  · exact .inl ⟨h, cutK_few c 4 l h⟩
  · have := cutK_le c 4 l
    exact .inr ⟨by omega, by omega⟩

/-! ### the walks -/

set_option maxHeartbeats 1000000 in
set_option maxRecDepth 100000 in
theorem indexByte_any (s : ByteArray) (c : Int) (w : World) :
    Calls Tryz.prog 173 #[.string s, .int .u8 c] w fun e w' => e = .returned (.int .i64 (Lib.indexByte s.data.toList c.toNat.toUInt8)) ∧ w = w' := by
  go_enter Tryz.func173, Tryz.ntmps173
  go_wp2
  rw [run_callFunc_extern Tryz.func179 (by kernel_rfl) (by kernel_rfl) (by kernel_rfl) (e := Extern.BytealgIndexByte.indexByte) (by kernel_rfl), Lib.run_indexByteString]
  simp only [Result.andThen]
  rw [Oper.upon_value]
  go_wp2
  go_ret
  exact ⟨rfl, rfl⟩

theorem one_list (c : UInt8) : (⟨#[c]⟩ : ByteArray).toList = [c] := by rw [Lib.toList_data]
theorem one_size (c : UInt8) : (⟨#[c]⟩ : ByteArray).size = 1 := rfl
set_option maxHeartbeats 2000000 in
set_option maxRecDepth 100000 in
theorem index_lite (c : UInt8) (s : ByteArray) (w : World) :
    Calls Tryz.prog 162 #[.string s, .string ⟨#[c]⟩] w fun e w' => e = .returned (.int .i64 (Lib.indexByte s.data.toList c)) ∧ w = w' := by
  have hc : ((c.toNat : Int)).toNat.toUInt8 = c := by simp
  go_enter Tryz.func162, Tryz.ntmps162
  go_wp2_with (go_at_call 173; refine (indexByte_any _ _ _).mono ?_; rintro e w' ⟨rfl, rfl⟩)
  · have h : ([c] == s.toList) = true := by assumption
    go_ret
    refine ⟨?_, rfl⟩
    have e : s.data.toList = [c] := by rw [← Lib.toList_data]; exact (beq_iff_eq.1 h).symm
    rw [e]
    have hge := Lib.indexByte_ge [c] c
    rcases index_cases [c] c with ⟨h1, h2⟩ | ⟨j, h1, h2, _⟩
    · simp at h2
    · simp at h2
      subst h2
      rw [h1]
      rfl
  · go_ret
    exact ⟨rfl, rfl⟩
set_option maxHeartbeats 2000000 in
theorem index_any (c : UInt8) (s : ByteArray) (w : World) :
    Calls Tryz.prog 143 #[.string s, .string ⟨#[c]⟩] w fun e w' => e = .returned (.int .i64 (Lib.indexByte s.data.toList c)) ∧ w = w' := by
  go_enter Tryz.func143, Tryz.ntmps143
  go_wp2_with (go_at_call 162; refine (index_lite c _ _).mono ?_; rintro e w' ⟨rfl, rfl⟩)
  go_ret
  exact ⟨rfl, rfl⟩

theorem info9 : (Tryz.prog.info? 9).map (fun i => (i.zero, i.size, i.bytes)) = some (some (.string ByteArray.empty), 1, 16) := by kernel_rfl

theorem extract_take (s : ByteArray) (i : Nat) : s.extract 0 i = str (s.data.toList.take i) := by
  apply ByteArray.ext
  apply Array.toList_inj.1
  rw [Lib.extract_data]
  simp [str]
theorem extract_drop (s : ByteArray) (i : Nat) : s.extract i s.size = str (s.data.toList.drop i) := by
  apply ByteArray.ext
  apply Array.toList_inj.1
  rw [Lib.extract_data]
  simp [str]
  rw [List.take_of_length_le (by rw [List.length_drop, size_list]; omega)]

set_option maxHeartbeats 4000000 in
set_option maxRecDepth 1000000 in
theorem genSplit_any (c : UInt8) (s : ByteArray) (hs : s.size ≤ 4611686018427387904) (N : Nat) (hN : N = min 5 (s.size + 1)) (w : World) :
    Calls Tryz.prog 122 #[.string s, .string ⟨#[c]⟩, .int .i64 0, .int .i64 5] w fun e w' =>
      e = .returned (.slice (some ⟨w.heap.size, 0, none⟩) (cutK c (N - 1) s.data.toList).length N) ∧ w' = w.alloc (.cells (Lib.cellsOf ((cutK c (N - 1) s.data.toList).map str) N) 9) := by
  have eN : min (5 : Int) ((s.size : Int) + 1) = (N : Int) := by omega
  have hN4 : N ≤ 5 := by omega
  have hN1 : 1 ≤ N := by omega
  clear hN
  have hmk := run_make_row' (P := Tryz.prog) 28 9 (.string ByteArray.empty) 16 Tryz.underlying28 info9 rfl .i64 .i64 N (by omega) (by omega)
  go_enter Tryz.func122, Tryz.ntmps122
  go_wp2
  clear hmk eN
  go_loopg [0, 10] (N - 1) (fun g s0 s10 wr => ∃ (done : List (List UInt8)) (rest : ByteArray), s0 = .string rest ∧ s10 = .int .i64 done.length ∧ done.length ≤ N - 1 ∧ g = N - 1 - done.length ∧ rest.size ≤ s.size ∧
      wr = w.alloc (.cells (Lib.cellsOf (done.map str) N) 9) ∧ done ++ cutK c (N - 1 - done.length) rest.data.toList = cutK c (N - 1) s.data.toList)
  case atStart => exact ⟨[], s, rfl, rfl, Nat.zero_le _, rfl, Nat.le_refl _, by rw [List.map_nil, Lib.cellsOf_nil], rfl⟩
  case round =>
    obtain ⟨done, rest, rfl, rfl, hd, rfl, hrs, rfl, hsp⟩ := hrel
    have hlen : (done.map str).length = done.length := List.length_map _
    have hnext : (Lib.cellsOf (done.map str) N)[done.length]? = some (.string ByteArray.empty) := by
      have := Lib.cellsOf_next (done := done.map str) (N := N) (by omega)
      rwa [hlen] at this
    have HS := Lib.hid hsp
    clear hsp
    have fin : Hid (cutK c (N - 1 - done.length) rest.data.toList = [rest.data.toList] → (cutK c (N - 1) s.data.toList).length = done.length + 1 ∧ (Lib.cellsOf (done.map str) N).setIfInBounds done.length (.string rest) = Lib.cellsOf ((cutK c (N - 1) s.data.toList).map str) N) := Lib.hid (fun h => by
      have e := HS.out
      rw [h] at e
      rw [← e]
      have := Lib.cellsOf_set (done := done.map str) (N := N) (by omega) rest
      rw [hlen] at this
      exact ⟨by simp, by rw [this, List.map_append, List.map_cons, List.map_nil, str_data]⟩)
    have HL := Lib.hid hlen
    clear hlen
    by_cases hlt : done.length < N - 1
    · have hltz : ((done.length : Nat) : Int) < (N : Int) - 1 := by omega
      rcases index_cases rest.data.toList c with ⟨hix, hix'⟩ | ⟨i, hix, hroom, hl, hm⟩
      · have HM := Lib.hid hix
        have k0 : ((-1 : Int) < 0) := by omega
        clear hix hix'
        go_wp2_with (go_at_call 143; refine (index_any c _ _).mono ?_; rintro e w' ⟨rfl, rfl⟩; rw [HM.out])
        go_ret
        obtain ⟨f1, f2⟩ := fin.out (cutK_miss _ HM.out)
        rw [f1, ← f2]
        exact ⟨by first | rfl | (congr 2 <;> omega), rfl⟩
      · have HM := Lib.hid hix
        have HE := Lib.hid hl
        rw [size_list] at hroom
        have k0 : ¬ ((i : Int) < 0) := by omega
        have k1 : (0 : Int) ≤ ↑i + 0 := by omega
        have k2 : (↑i + 0 : Int) ≤ ↑rest.size := by omega
        have k3 : (0 : Int) ≤ ↑i + 1 := by omega
        have k4 : (↑i + 1 : Int) ≤ ↑rest.size := by omega
        clear hix hl hm
        go_wp2_with (go_at_call 143; refine (index_any c _ _).mono ?_; rintro e w' ⟨rfl, rfl⟩; rw [HM.out])
        go_roundg (N - 1 - (done.length + 1))
        case measure => omega
        case rel =>
          refine ⟨done ++ [rest.data.toList.take i], rest.extract (i + 1) rest.size, rfl, by simp, by simp; omega, by simp, by rw [ByteArray.size_extract]; omega, ?_, ?_⟩
          · have := Lib.cellsOf_set (done := done.map str) (N := N) (by rw [HL.out]; omega) (str (rest.data.toList.take i))
            rw [HL.out] at this
            rw [List.map_append, List.map_cons, List.map_nil, ← this, ← extract_take]
          · rw [← HS.out, extract_drop, str_toList, show N - 1 - done.length = (N - 1 - (done.length + 1)) + 1 by omega, cutK_hit _ i HM.out]
            simp
    · have hltz : ¬ (((done.length : Nat) : Int) < (N : Int) - 1) := by omega
      go_wp2
      go_ret
      obtain ⟨f1, f2⟩ := fin.out (by rw [show N - 1 - done.length = 0 by omega]; rfl)
      rw [f1, ← f2]
      exact ⟨by first | rfl | (congr 2 <;> omega), rfl⟩

set_option maxHeartbeats 1000000 in
theorem splitN_any (c : UInt8) (s : ByteArray) (hs : s.size ≤ 4611686018427387904) (N : Nat) (hN : N = min 5 (s.size + 1)) (w : World) :
    Calls Tryz.prog 88 #[.string s, .string ⟨#[c]⟩, .int .i64 5] w fun e w' =>
      e = .returned (.slice (some ⟨w.heap.size, 0, none⟩) (cutK c (N - 1) s.data.toList).length N) ∧ w' = w.alloc (.cells (Lib.cellsOf ((cutK c (N - 1) s.data.toList).map str) N) 9) := by
  have H := Lib.hid (genSplit_any c s hs N hN w)
  clear hN
  go_enter Tryz.func88, Tryz.ntmps88
  go_wp2_with (go_at_call 122; refine H.out.mono ?_; rintro e w' ⟨rfl, hw⟩; rw [hw])
  go_ret
  exact ⟨rfl, rfl⟩

end Go.Proofs.YtbilkeadhflibaaGreatDoor.Split

/- Slices of texts in memory, and as arguments: what their cells hold, how long they are; of no program. -/
namespace Go.Proofs.YtbilkeadhflibaaGreatDoor.Texts
open Go.ChangeShapes Go.WideShapes Go.ChangeAt Go.RowKit

/-- Texts in cells. -/
def SCells (w : World) (g o : Nat) (ts : List ByteArray) : Prop := ∀ j t, ts[j]? = some t → w.cell? ⟨g, o + j, none⟩ = some (.string t)
/-- A slice of texts. -/
def SRow (w : World) (v : Value) (ts : List ByteArray) : Prop :=
  (ts = [] ∧ ∃ a cap, v = .slice a 0 cap ∧ cap ≤ maxLen) ∨ (ts ≠ [] ∧ ∃ g o cap, v = .slice (some ⟨g, o, none⟩) ts.length cap ∧ g < w.heap.size ∧ ts.length ≤ cap ∧ cap ≤ maxLen ∧ SCells w g o ts)
theorem SCells.below {w w' : World} {g o : Nat} {ts : List ByteArray} (h : SCells w g o ts) (hg : g < w.heap.size) (hb : Below w.heap.size w w') : SCells w' g o ts := fun j t hj => by
  rw [hb.cell (p := ⟨g, o + j, none⟩) hg]
  exact h j t hj
theorem SRow.below {w w' : World} {v : Value} {ts : List ByteArray} (h : SRow w v ts) (hb : Below w.heap.size w w') : SRow w' v ts := by
  rcases h with h | ⟨h0, g, o, cap, h1, h2, h3, h4, h5⟩
  · exact .inl h
  · exact .inr ⟨h0, g, o, cap, h1, by have := hb.size; omega, h3, h4, h5.below h2 hb⟩
theorem SRow.slice {w : World} {v : Value} {ts : List ByteArray} (h : SRow w v ts) : ∃ a cap, v = .slice a ts.length cap ∧ ts.length ≤ cap ∧ cap ≤ maxLen := by
  rcases h with ⟨rfl, a, cap, rfl, hm⟩ | ⟨_, g, o, cap, rfl, _, hc, hm, _⟩
  · exact ⟨_, _, rfl, Nat.zero_le _, hm⟩
  · exact ⟨_, _, rfl, hc, hm⟩
theorem SRow.cells {w : World} {a : Option Addr} {cap k n : Nat} {ts : List ByteArray} (h : SRow w (.slice a n cap) ts) (hk : k < ts.length) : ∃ g o, a = some ⟨g, o, none⟩ ∧ g < w.heap.size ∧ SCells w g o ts := by
  rcases h with ⟨rfl, _⟩ | ⟨_, g, o, cap', hsl, hg, _, _, hcell⟩
  · simp at hk
  · injection hsl with h1 _ _
    exact ⟨g, o, h1, hg, hcell⟩
theorem SRow.nil (w : World) : SRow w (.slice none 0 0) [] := .inl ⟨rfl, _, _, rfl, Nat.zero_le _⟩

def svals (ts : List ByteArray) : List Value := ts.map fun t => .string t
theorem svals_snoc (ts : List ByteArray) (t : ByteArray) : svals (ts ++ [t]) = svals ts ++ [.string t] := by simp [svals]
theorem own_srow {B : Nat} {T : TypeId} {w : World} {v : Value} {ts : List ByteArray} (h : w.ownsRow B T 1 v ts.length (svals ts)) : SRow w v ts := by
  have hc := fun g hg => h.cells (g := g) hg
  rcases h.2 with ⟨rfl, h0⟩ | ⟨g, cap, cur, rfl, hB, hg, hcap, hm, hsz, htake⟩
  · rw [List.eq_nil_of_length_eq_zero h0]; exact SRow.nil w
  · by_cases hl : ts = []
    · subst hl; exact .inl ⟨rfl, _, _, rfl, hm⟩
    · refine .inr ⟨hl, g, 0, cap, rfl, (Array.getElem?_eq_some_iff.1 hg).1, hcap, hm, fun j x hj => ?_⟩
      have e0 := hc g rfl j (.string x) (by unfold svals; rw [List.getElem?_map, hj]; rfl)
      rw [Addr.add_lit] at e0
      exact e0

section
variable {H : Type} {enc : TypeId × Value → H} {P : Program}

/-- What is read of texts. -/
def ReadS (ts : List ByteArray) (d : DataW H) : Prop := (d = .nil ∧ ts = []) ∨ ∃ rest, d = .slice (ts.map fun t => .lit (.string t.data.toList)) rest

theorem open_cells {t e : TypeId} (ht : P.underlying t = some (.slice e)) (he : P.underlying e = some .string) (hc : P.cellsOf e = 1) {W : World} {n : Nat} {v : Value} {x : DataW H × List MemPlace}
    (h : DataW.trod enc P W 0 (fun _ => true) true n t [v] = some x) : ∃ ts, SRow W v ts ∧ ReadS ts x.1 := by
  rcases Deep.open_strs ht he hc h with ⟨hcs, hx⟩ | ⟨a, len, cap, m, S, hcs, _, hl, hm, hmm, hx, hi⟩
  · simp only [List.cons.injEq, and_true] at hcs
    subst hcs
    exact ⟨[], SRow.nil W, .inl ⟨by rw [hx], rfl⟩⟩
  · simp only [List.cons.injEq, and_true] at hcs
    subst hcs
    simp only [if_true] at hmm
    subst hmm
    have hlen : ((List.range len).map S).length = len := by simp
    refine ⟨(List.range len).map S, ?_, .inr ⟨_, by rw [hx, List.map_map]; rfl⟩⟩
    by_cases hz : len = 0
    · subst hz
      exact .inl ⟨rfl, _, _, rfl, hm⟩
    · obtain ⟨ab, ao, spot⟩ := a
      have h0 := (hi 0 (by omega)).1
      have hspot : spot = none := by simpa [Addr.add] using World.cell?_spot h0
      subst hspot
      refine .inr ⟨fun hn => by rw [hn] at hlen; simp at hlen; omega, ab, ao, m, by rw [hlen], World.block_lt_of_cell? (a := ⟨ab, ao, none⟩) _ (by simpa [Addr.add] using h0), by rw [hlen]; exact hl, hm, fun k x hk => ?_⟩
      obtain ⟨hk1, rfl⟩ := List.getElem?_eq_some_iff.1 hk
      rw [hlen] at hk1
      have g0 := (hi k (by omega)).1
      rw [Addr.add_lit] at g0
      simp only [List.getElem_map, List.getElem_range]
      exact g0
/-- An argument of texts, opened. -/
theorem open_texts {t e : TypeId} (ht : P.underlying t = some (.slice e)) (he : P.underlying e = some .string) (hc : P.cellsOf e = 1) {W : World} {base : Nat} {v : Value} {d : DataW H} {p : List MemPlace}
    (hval : Value.okWide P W .any base t v) (h : DataW.Trod enc P W 0 (fun _ => true) true t v d p) : ∃ ts, SRow W v ts ∧ ReadS ts d := by
  obtain ⟨a1, len, cap, rfl⟩ := okWide_slice ht hval
  obtain ⟨fuel, hf⟩ := h
  exact open_cells ht he hc hf

theorem weights_all {e : TypeId} {d : DataW H} : ∀ {l : List (DataW H)}, d ∈ l → ∀ n ∈ d.weights P e, n ∈ DataW.weightsAll P e l
  | [], h, _, _ => by cases h
  | x :: r, h, n, hn => by
    simp only [DataW.weightsAll, List.mem_append]
    rcases List.mem_cons.1 h with rfl | h
    · exact .inl hn
    · exact .inr (weights_all h n hn)
/-- By the reach: how many, how long. -/
theorem ReadS.reach {t e : TypeId} {ts : List ByteArray} {d : DataW H} {B : Nat} (h : ReadS ts d) (ht : P.underlying t = some (.slice e)) (hby : P.bytesOf e = 16) (hB : ∀ n ∈ d.weights P t, n ≤ B) : ts.length * 16 ≤ B ∧ ∀ x ∈ ts, x.size ≤ B := by
  rcases h with ⟨_, rfl⟩ | ⟨rest, rfl⟩
  · exact ⟨by simp, fun x hx => by simp at hx⟩
  · simp only [DataW.weights, ht, hby] at hB
    refine ⟨?_, fun x hx => ?_⟩
    · have := hB _ (List.mem_cons_self ..)
      simp only [List.length_map] at this
      have h2 : ts.length * 16 ≤ (ts.length + rest.length) * 16 := Nat.mul_le_mul_right _ (Nat.le_add_right _ _)
      omega
    · have hm : DataW.lit (H := H) (.string x.data.toList) ∈ ts.map fun t => DataW.lit (H := H) (.string t.data.toList) := List.mem_map.2 ⟨x, hx, rfl⟩
      have := hB x.data.toList.length (List.mem_cons_of_mem _ (List.mem_append_left _ (weights_all hm _ (by simp [DataW.weights]))))
      rw [Array.length_toList] at this
      exact this

theorem bulk_mem {d : DataW H} : ∀ {l : List (DataW H)}, d ∈ l → Rows.uptoBulk d ≤ Rows.uptoBulkAll l
  | [], h => by cases h
  | x :: r, h => by
    simp only [Rows.uptoBulkAll]
    rcases List.mem_cons.1 h with rfl | h
    · omega
    · have := bulk_mem h; omega
theorem bulk_one (d : DataW H) : 1 ≤ Rows.uptoBulk d := by
  cases d with
  | lit l => cases l <;> simp [Rows.uptoBulk]
  | nil => simp [Rows.uptoBulk]
  | ptr d => simp [Rows.uptoBulk]
  | slice a b => simp [Rows.uptoBulk]
  | agg a => simp [Rows.uptoBulk]
  | iface a d => simp [Rows.uptoBulk]
  | map a => simp [Rows.uptoBulk]
  | held a => simp [Rows.uptoBulk]
theorem bulk_len : ∀ (l : List (DataW H)), l.length ≤ Rows.uptoBulkAll l
  | [] => by simp
  | x :: r => by
    have := bulk_len r
    have := bulk_one x
    simp only [Rows.uptoBulkAll, List.length_cons]
    omega
/-- By the bulk: how many, how long. -/
theorem ReadS.bulk {ts : List ByteArray} {d : DataW H} (h : ReadS ts d) : ts.length ≤ Rows.uptoBulk d ∧ ∀ x ∈ ts, x.size ≤ Rows.uptoBulk d := by
  rcases h with ⟨_, rfl⟩ | ⟨rest, rfl⟩
  · exact ⟨by simp, fun x hx => by simp at hx⟩
  · simp only [Rows.uptoBulk]
    refine ⟨?_, fun x hx => ?_⟩
    · have := bulk_len (ts.map fun t => DataW.lit (H := H) (.string t.data.toList))
      rw [List.length_map] at this
      omega
    · have hm : DataW.lit (H := H) (.string x.data.toList) ∈ ts.map fun t => DataW.lit (H := H) (.string t.data.toList) := List.mem_map.2 ⟨x, hx, rfl⟩
      have h1 := bulk_mem hm
      simp only [Rows.uptoBulk] at h1
      have h2 : x.data.toList.length = x.size := Array.length_toList
      omega
end
end Go.Proofs.YtbilkeadhflibaaGreatDoor.Texts

/- The plain mathematics of selectors (P5.1 to P5.5): which are right, their forms as bytes and as text, and that each is told back; no program. -/
namespace Go.Proofs.YtbilkeadhflibaaGreatDoor.Sel
open Go.Proofs.YtbilkeadhflibaaGreatDoor.Word Go.Proofs.YtbilkeadhflibaaGreatDoor.Forms

/-- A term: its key, whether it is turned, its values. -/
abbrev Tm := ByteArray × Bool × List ByteArray
def lessB (x y : ByteArray) : Bool := Op.bytesLess x.toList y.toList
def risesV : List ByteArray → Bool
  | x :: y :: r => lessB x y && risesV (y :: r)
  | _ => true
def rightT (t : Tm) : Bool := right t.1.data.toList && (decide (t.2.2.length ≤ 4) && (t.2.2.all (fun v => right v.data.toList) && risesV t.2.2))
/-- A right selector: P5.1. -/
def rightS (ls : List Tm) : Bool := decide (ls.length ≤ 4) && ls.all rightT
/-- Does a term hold, by what is found of its key? P5.2. -/
def holdsT (r : Option ByteArray) (t : Tm) : Bool := (match r with
  | none => false
  | some v => t.2.2.isEmpty || t.2.2.any (fun x => x.toList == v.toList)) != t.2.1
def matchS (find : ByteArray → Option ByteArray) (ls : List Tm) : Bool := ls.all fun t => holdsT (find t.1) t

theorem rightT_parts {t : Tm} (h : rightT t = true) : right t.1.data.toList = true ∧ t.2.2.length ≤ 4 ∧ (∀ v ∈ t.2.2, right v.data.toList = true) ∧ risesV t.2.2 = true := by
  unfold rightT at h
  rw [Bool.and_eq_true, Bool.and_eq_true, Bool.and_eq_true, decide_eq_true_eq, List.all_eq_true] at h
  exact ⟨h.1, h.2.1, h.2.2.1, h.2.2.2⟩
theorem rightS_parts {ls : List Tm} (h : rightS ls = true) : ls.length ≤ 4 ∧ ∀ t ∈ ls, rightT t = true := by
  unfold rightS at h
  rw [Bool.and_eq_true, decide_eq_true_eq, List.all_eq_true] at h
  exact h
theorem name_size {t : ByteArray} (h : right t.data.toList = true) : t.size ≤ 32 := by rw [← size_list]; exact (right_free h).2

/-! ### as bytes -/

def numT (t : Tm) : Nat := 2 * t.2.2.length + (if t.2.1 = true then 1 else 0)
def formT (t : Tm) : List UInt8 := flat t.1 ++ (Wire.putL (numT t) ++ t.2.2.flatMap flat)
/-- The form of a selector: P5.3. -/
def putS (ls : List Tm) : ByteArray := if rightS ls = true then str (Wire.putL ls.length ++ ls.flatMap formT) else ⟨#[]⟩
def oneT (s : ByteArray) (p : Int) : Option (Tm × Int) := match oneText s p with
  | none => none
  | some k => match Wire.getV s.data.toList k.2 with
    | none => none
    | some n => if 9 < n.1 then none else match readN (oneText s) (n.1 / 2) (n.2 : Int) with
      | none => none
      | some vs => some ((k.1, decide (n.1 % 2 = 1), vs.1), vs.2)
def keepS : Option (List Tm × Int) → Option (List Tm × Int)
  | none => none
  | some x => if rightS x.1 = true then some x else none
/-- The selector whose form stands at a place, and the place behind: P5.3. -/
def getS (s : ByteArray) (p : Int) : Option (List Tm × Int) := match Wire.getV s.data.toList p with
  | none => none
  | some a => if 4 < a.1 then none else keepS (readN (oneT s) a.1 a.2)

theorem numT_half (t : Tm) : numT t / 2 = t.2.2.length := by unfold numT; split <;> omega
theorem numT_odd (t : Tm) : decide (numT t % 2 = 1) = t.2.1 := by
  unfold numT
  cases t.2.1
  · simp
  · simp
theorem oneT_of {s : ByteArray} (p : Nat) (t : Tm) (r : List UInt8) (ht : rightT t = true) (h : s.data.toList.drop p = formT t ++ r) : oneT s (p : Int) = some (t, ((p + (formT t).length : Nat) : Int)) := by
  obtain ⟨h1, h2, h3, _⟩ := rightT_parts ht
  unfold formT at h
  rw [List.append_assoc, List.append_assoc] at h
  have hn9 : numT t ≤ 9 := by unfold numT; split <;> omega
  unfold oneT
  rw [oneText_of p t.1 _ (name_size h1) h]
  simp only
  have e1 : s.data.toList.drop (p + (flat t.1).length) = Wire.putL (numT t) ++ (t.2.2.flatMap flat ++ r) := by rw [← List.drop_drop, h, List.drop_left]
  rw [Wire.getV_of (u := numT t) ⟨by omega, _, e1⟩]
  simp only
  have e2 : s.data.toList.drop (p + (flat t.1).length + (Wire.putL (numT t)).length) = t.2.2.flatMap flat ++ r := by rw [← List.drop_drop, e1, List.drop_left]
  rw [if_neg (by omega), numT_half, readN_of (form := flat) (ok := fun v => v.size ≤ 32) (fun p x r hx hd => oneText_of p x r hx hd) t.2.2 _ r (fun v hv => name_size (h3 v hv)) e2]
  simp only [numT_odd, formT, List.length_append, Nat.add_assoc]
theorem oneT_back {s : ByteArray} (p : Nat) (x : Tm × Int) (hp : p ≤ s.data.toList.length) (h : oneT s (p : Int) = some x) : ∃ q : Nat, x.2 = (q : Int) ∧ p ≤ q ∧ q ≤ s.data.toList.length ∧ s.data.toList.drop p = formT x.1 ++ s.data.toList.drop q := by
  unfold oneT at h
  split at h
  · simp at h
  rename_i k hk
  obtain ⟨q1, a1, a2, a3, a4⟩ := oneText_back p k hp hk
  rw [a1] at h
  split at h
  · simp at h
  rename_i n hn
  split at h
  · simp at h
  split at h
  · simp at h
  rename_i vs hvs
  simp only [Option.some.injEq] at h
  subst h
  obtain ⟨_, b1, b2, _, b4, _, r, b5⟩ := Wire.getV_lt (u := n.1) (n := n.2) hn
  simp only [Int.toNat_natCast] at b1 b4 b5
  obtain ⟨q, c1, c2, c3, c4⟩ := readN_back (form := flat) oneText_back (n.1 / 2) n.2 vs b2 hvs
  have hlen := readN_len hvs
  have hd : s.data.toList.drop n.2 = r := by rw [b4, ← List.drop_drop, b5, List.drop_left]
  have hnum : numT (k.1, decide (n.1 % 2 = 1), vs.1) = n.1 := by
    unfold numT
    simp only [hlen, decide_eq_true_eq]
    split <;> omega
  refine ⟨q, c1, by omega, c3, ?_⟩
  unfold formT
  rw [hnum, List.append_assoc, List.append_assoc, ← c4, hd, ← b5]
  exact a4

theorem putS_list {ls : List Tm} (h : rightS ls = true) : (putS ls).data.toList = Wire.putL ls.length ++ ls.flatMap formT := by
  unfold putS
  rw [if_pos h, str_toList]
/-- What is put of a right selector is got where it stands. -/
theorem get_put {s : ByteArray} {p : Nat} {ls : List Tm} {r : List UInt8} (hr : rightS ls = true) (h : s.data.toList.drop p = (putS ls).data.toList ++ r) :
    getS s (p : Int) = some (ls, ((p + (putS ls).size : Nat) : Int)) := by
  obtain ⟨h4, ht⟩ := rightS_parts hr
  rw [putS_list hr, List.append_assoc] at h
  unfold getS
  rw [Wire.getV_of (u := ls.length) ⟨by omega, _, h⟩]
  simp only
  rw [if_neg (by omega), readN_of (form := formT) (ok := fun t => rightT t = true) (fun p x r hx hd => oneT_of p x r hx hd) ls (p + (Wire.putL ls.length).length) r ht (by rw [← List.drop_drop, h, List.drop_left])]
  show (if rightS ls = true then _ else _) = _
  rw [if_pos hr, ← size_list (putS ls), putS_list hr, List.length_append, Nat.add_assoc]
/-- What is got is right, and is put as the bytes that stand there. -/
theorem get_back {s : ByteArray} {p : Int} {ls : List Tm} {n : Int} (h : getS s p = some (ls, n)) :
    rightS ls = true ∧ ∃ a b : Nat, p = (a : Int) ∧ n = (b : Int) ∧ a ≤ b ∧ b ≤ s.size ∧ putS ls = s.extract a b := by
  unfold getS at h
  split at h
  · simp at h
  rename_i x hg
  split at h
  · simp at h
  obtain ⟨u, q⟩ := x
  obtain ⟨_, hlt, hle, hp, hq, _, r, hr⟩ := Wire.getV_lt hg
  obtain ⟨a, rfl⟩ := Int.eq_ofNat_of_zero_le hp
  simp only [Int.toNat_natCast] at hlt hq hr
  unfold keepS at h
  split at h
  · simp at h
  rename_i y hy
  split at h
  · rename_i hri
    simp only [Option.some.injEq] at h
    subst h
    obtain ⟨b, h1, h2, h3, h4⟩ := readN_back (form := formT) oneT_back u q _ hle hy
    have hul := readN_len hy
    rw [size_list] at h3
    refine ⟨hri, a, b, rfl, h1, by omega, h3, ?_⟩
    have hd : s.data.toList.drop q = r := by rw [hq, ← List.drop_drop, hr, List.drop_left]
    have hd2 : s.data.toList.drop a = (putS ls).data.toList ++ s.data.toList.drop b := by
      rw [putS_list hri, List.append_assoc, ← h4, hr, hd]
      simp only at hul
      rw [hul]
    apply ByteArray.ext
    apply Array.toList_inj.1
    have hlen := congrArg List.length hd2
    rw [List.length_drop, List.length_append, List.length_drop, size_list s] at hlen
    rw [Lib.extract_data, hd2, show b - a = (putS ls).data.toList.length by omega, List.take_left]
  · simp at h
theorem putS_inj {a b : List Tm} (ha : rightS a = true) (hb : rightS b = true) (h : putS a = putS b) : a = b := by
  have g1 := get_put (s := putS a) (p := 0) (r := []) ha (by simp)
  have g2 := get_put (s := putS b) (p := 0) (r := []) hb (by simp)
  rw [h, g2] at g1
  simp only [Option.some.injEq, Prod.mk.injEq] at g1
  exact g1.1.symm
theorem putS_pos {a : List Tm} (ha : rightS a = true) : 0 < (putS a).size := by
  rw [← size_list, putS_list ha, List.length_append]
  have := Wire.putL_pos a.length
  omega
theorem putS_no {a : List Tm} (ha : rightS a = false) : putS a = ⟨#[]⟩ := by
  unfold putS
  rw [if_neg (by rw [ha]; simp)]

/-! ### as text -/

/-- A term as it is shown. -/
def showT (t : Tm) : List UInt8 :=
  if t.2.2 = [] then (if t.2.1 = true then 33 :: t.1.data.toList else t.1.data.toList)
  else t.1.data.toList ++ ((if t.2.1 = true then [33] else []) ++ 61 :: glueC 124 (t.2.2.map fun v => v.data.toList))
/-- A selector as it is shown: P5.4. -/
def textS (ls : List Tm) : ByteArray := if rightS ls = true then (if ls = [] then ⟨#[45]⟩ else str (glueC 44 (ls.map showT))) else ⟨#[63]⟩
def twoT : List (List UInt8) → Option (List UInt8 × List UInt8)
  | [a, b] => some (a, b)
  | _ => none
/-- A term of a text. -/
def readT (q : List UInt8) : Tm :=
  if q.head? = some 33 then (str q.tail, true, []) else
  match twoT (cuts 61 q) with
  | none => (str q, false, [])
  | some x => if x.1.getLast? = some 33 then (str x.1.dropLast, true, (cuts 124 x.2).map str) else (str x.1, false, (cuts 124 x.2).map str)
/-- The right selector whose text that is: P5.4. -/
def parseS (s : ByteArray) : Option (List Tm) :=
  if s = ⟨#[45]⟩ then some [] else
  if rightS ((cuts 44 s.data.toList).map readT) = true ∧ textS ((cuts 44 s.data.toList).map readT) = s then some ((cuts 44 s.data.toList).map readT) else none

theorem mem_glue {c x : UInt8} : ∀ {ls : List (List UInt8)}, x ∈ glueC c ls → x = c ∨ ∃ l ∈ ls, x ∈ l
  | [], h => by simp [glueC] at h
  | [a], h => .inr ⟨a, by simp, h⟩
  | a :: b :: ls, h => by
    rcases List.mem_append.1 (show x ∈ a ++ c :: glueC c (b :: ls) from h) with h | h
    · exact .inr ⟨a, by simp, h⟩
    · rcases List.mem_cons.1 h with h | h
      · exact .inl h
      · rcases mem_glue h with h | ⟨l, h1, h2⟩
        · exact .inl h
        · exact .inr ⟨l, List.mem_cons_of_mem _ h1, h2⟩
theorem glue_lacks {c x : UInt8} {vs : List ByteArray} (hx : x.toNat < 128) (hl : isLetter x.toNat = false) (hi : isInner x.toNat = false) (hne : x ≠ c) (h : ∀ v ∈ vs, right v.data.toList = true) : x ∉ glueC c (vs.map fun v => v.data.toList) := by
  intro hm
  rcases mem_glue hm with e | ⟨l, h1, h2⟩
  · exact hne e
  · obtain ⟨v, hv, rfl⟩ := List.mem_map.1 h1
    exact name_lacks x hx hl hi (h v hv) h2
theorem str_all (vs : List ByteArray) : (vs.map fun v => v.data.toList).map str = vs := by
  rw [List.map_map]
  conv => rhs; rw [← List.map_id vs]
  apply List.map_congr_left
  intro v _
  exact str_data v
theorem head_not {l : List UInt8} {r : List UInt8} (h : right l = true) : (l ++ r).head? ≠ some 33 := by
  cases l with
  | nil => exact absurd rfl (name_some h)
  | cons d l =>
    intro e
    simp at e
    subst e
    exact name_lacks 33 (by decide) (by decide) (by decide) h (List.mem_cons_self ..)
/-- What is shown of a term is read as it. -/
theorem readT_show {t : Tm} (ht : rightT t = true) : readT (showT t) = t := by
  obtain ⟨h1, _, h3, _⟩ := rightT_parts ht
  obtain ⟨k, n, vs⟩ := t
  simp only at h1 h3
  have hk61 : (61 : UInt8) ∉ k.data.toList := name_lacks 61 (by decide) (by decide) (by decide) h1
  have hk33 : (33 : UInt8) ∉ k.data.toList := name_lacks 33 (by decide) (by decide) (by decide) h1
  cases vs with
  | nil =>
    cases n with
    | true =>
      have e : showT (k, true, []) = 33 :: k.data.toList := by unfold showT; simp
      rw [e]
      unfold readT
      rw [if_pos (by simp)]
      simp [str_data]
    | false =>
      have e : showT (k, false, []) = k.data.toList := by unfold showT; simp
      rw [e]
      unfold readT
      rw [if_neg (by have := head_not (r := []) h1; rwa [List.append_nil] at this), cuts_free hk61]
      simp [twoT, str_data]
  | cons v vs =>
    have hv61 := glue_lacks (x := 61) (c := 124) (vs := v :: vs) (by decide) (by decide) (by decide) (by decide) h3
    have hcut : cuts 124 (glueC 124 ((v :: vs).map fun v => v.data.toList)) = (v :: vs).map fun v => v.data.toList := by
      rw [List.map_cons]
      refine cuts_glue 124 _ _ fun x hx => ?_
      obtain ⟨u, hu, rfl⟩ := List.mem_map.1 (show x ∈ (v :: vs).map (fun v => v.data.toList) from hx)
      exact name_lacks 124 (by decide) (by decide) (by decide) (h3 u hu)
    have hhead : ∀ r, (k.data.toList ++ r).head? ≠ some 33 := fun r => head_not h1
    cases n with
    | true =>
      have e : showT (k, true, v :: vs) = k.data.toList ++ [33] ++ 61 :: glueC 124 ((v :: vs).map fun v => v.data.toList) := by unfold showT; rw [if_neg (by simp)]; simp
      rw [e]
      unfold readT
      rw [if_neg (by rw [List.append_assoc]; exact hhead _), cuts_cut _ (by rw [List.mem_append, List.mem_singleton]; rintro (h | h); exact hk61 h; exact absurd h (by decide)), cuts_free hv61]
      simp only [twoT]
      rw [if_pos (by simp), hcut, str_all]
      simp [str_data]
    | false =>
      have e : showT (k, false, v :: vs) = k.data.toList ++ 61 :: glueC 124 ((v :: vs).map fun v => v.data.toList) := by unfold showT; rw [if_neg (by simp)]; simp
      rw [e]
      unfold readT
      rw [if_neg (hhead _), cuts_cut _ hk61, cuts_free hv61]
      simp only [twoT]
      rw [if_neg (by intro e; exact hk33 (List.mem_of_getLast? e)), hcut, str_all, str_data]
theorem showT_lacks {t : Tm} (ht : rightT t = true) : (44 : UInt8) ∉ showT t := by
  obtain ⟨h1, _, h3, _⟩ := rightT_parts ht
  have hk : (44 : UInt8) ∉ t.1.data.toList := name_lacks 44 (by decide) (by decide) (by decide) h1
  have hv := glue_lacks (x := 44) (c := 124) (vs := t.2.2) (by decide) (by decide) (by decide) (by decide) h3
  unfold showT
  split
  · split
    · rw [List.mem_cons]
      rintro (h | h)
      · cases h
      · exact hk h
    · exact hk
  · rw [List.mem_append, List.mem_append, List.mem_cons]
    rintro (h | h | h | h)
    · exact hk h
    · split at h
      · rw [List.mem_singleton] at h; cases h
      · cases h
    · cases h
    · exact hv h
theorem textS_cons {t : Tm} {ls : List Tm} (h : rightS (t :: ls) = true) : textS (t :: ls) = str (glueC 44 ((t :: ls).map showT)) := by
  unfold textS
  rw [if_pos h, if_neg (by simp)]
theorem cuts_text {t : Tm} {ls : List Tm} (h : rightS (t :: ls) = true) : (cuts 44 (textS (t :: ls)).data.toList).map readT = t :: ls := by
  have ht := (rightS_parts h).2
  rw [textS_cons h, str_toList, List.map_cons, cuts_glue 44 _ _ (fun x hx => by
    obtain ⟨u, hu, rfl⟩ := List.mem_map.1 (show x ∈ (t :: ls).map showT from hx)
    exact showT_lacks (ht u hu))]
  show ((t :: ls).map showT).map readT = _
  rw [List.map_map]
  conv => rhs; rw [← List.map_id (t :: ls)]
  apply List.map_congr_left
  intro u hu
  exact readT_show (ht u hu)
/-- What is shown of a right selector is parsed. -/
theorem parse_text {ls : List Tm} (h : rightS ls = true) : parseS (textS ls) = some ls := by
  cases ls with
  | nil =>
    have e : textS [] = ⟨#[45]⟩ := rfl
    rw [e]
    unfold parseS
    rw [if_pos rfl]
  | cons t ls =>
    have hc := cuts_text h
    unfold parseS
    rw [hc, if_neg, if_pos ⟨h, rfl⟩]
    intro e
    rw [e] at hc
    have h1 : (cuts 44 (⟨#[45]⟩ : ByteArray).data.toList).map readT = [(str [45], false, [])] := by decide +kernel
    rw [h1] at hc
    injection hc with h2 h3
    have h4 := (rightT_parts ((rightS_parts h).2 t (List.mem_cons_self ..))).1
    rw [← h2] at h4
    exact absurd h4 (by decide +kernel)
/-- What is parsed is right, and is shown as it was. -/
theorem parse_back {s : ByteArray} {ls : List Tm} (h : parseS s = some ls) : rightS ls = true ∧ textS ls = s := by
  unfold parseS at h
  split at h
  · rename_i e
    simp only [Option.some.injEq] at h
    subst h
    exact ⟨rfl, by rw [e]; rfl⟩
  split at h
  · rename_i hc
    simp only [Option.some.injEq] at h
    subst h
    exact hc
  · simp at h
/-- Only one right selector has a text. -/
theorem parse_iff {s : ByteArray} {ls : List Tm} : parseS s = some ls ↔ rightS ls = true ∧ textS ls = s :=
  ⟨parse_back, fun ⟨h, e⟩ => by rw [← e]; exact parse_text h⟩
theorem textS_inj {a b : List Tm} (ha : rightS a = true) (hb : rightS b = true) (h : textS a = textS b) : a = b := by
  have g1 := parse_text ha
  have g2 := parse_text hb
  rw [h, g2] at g1
  simpa using g1.symm
/-- What is shown of a right selector is no question mark. -/
theorem textS_ne {a : List Tm} (ha : rightS a = true) : textS a ≠ ⟨#[63]⟩ := by
  intro e
  have h := parse_text ha
  rw [e] at h
  have hb : parseS ⟨#[63]⟩ = none := by
    unfold parseS
    rw [if_neg (by decide), if_neg]
    rintro ⟨h1, _⟩
    exact absurd h1 (by decide +kernel)
  rw [hb] at h
  cases h
end Go.Proofs.YtbilkeadhflibaaGreatDoor.Sel

/- Selectors in memory, and as arguments: a slice of terms, each a text, a bool and a slice of texts; of no program. -/
namespace Go.Proofs.YtbilkeadhflibaaGreatDoor.Sel
open Go.ChangeShapes Go.WideShapes Go.ChangeAt Go.RowKit Go.Proofs.YtbilkeadhflibaaGreatDoor.Texts

/-- Terms in cells. -/
def TCells (w : World) (g o : Nat) (ls : List Tm) : Prop :=
  ∀ j t, ls[j]? = some t → w.cell? ⟨g, o + j * 3, none⟩ = some (.string t.1) ∧ w.cell? ⟨g, o + j * 3 + 1, none⟩ = some (.bool t.2.1) ∧ ∃ v, w.cell? ⟨g, o + j * 3 + 2, none⟩ = some v ∧ SRow w v t.2.2
/-- A slice of terms. -/
def TRow (w : World) (v : Value) (ls : List Tm) : Prop :=
  (ls = [] ∧ ∃ a cap, v = .slice a 0 cap ∧ cap ≤ maxLen) ∨ (ls ≠ [] ∧ ∃ g o cap, v = .slice (some ⟨g, o, none⟩) ls.length cap ∧ g < w.heap.size ∧ ls.length ≤ cap ∧ cap ≤ maxLen ∧ TCells w g o ls)
theorem TCells.below {w w' : World} {g o : Nat} {ls : List Tm} (h : TCells w g o ls) (hg : g < w.heap.size) (hb : Below w.heap.size w w') : TCells w' g o ls := fun j t hj => by
  obtain ⟨h1, h2, v, h3, h4⟩ := h j t hj
  rw [hb.cell (p := ⟨g, o + j * 3, none⟩) hg, hb.cell (p := ⟨g, o + j * 3 + 1, none⟩) hg]
  exact ⟨h1, h2, v, by rw [hb.cell (p := ⟨g, o + j * 3 + 2, none⟩) hg]; exact h3, h4.below hb⟩
theorem TRow.below {w w' : World} {v : Value} {ls : List Tm} (h : TRow w v ls) (hb : Below w.heap.size w w') : TRow w' v ls := by
  rcases h with h | ⟨h0, g, o, cap, h1, h2, h3, h4, h5⟩
  · exact .inl h
  · exact .inr ⟨h0, g, o, cap, h1, by have := hb.size; omega, h3, h4, h5.below h2 hb⟩
theorem TRow.slice {w : World} {v : Value} {ls : List Tm} (h : TRow w v ls) : ∃ a cap, v = .slice a ls.length cap ∧ ls.length ≤ cap ∧ cap ≤ maxLen := by
  rcases h with ⟨rfl, a, cap, rfl, hm⟩ | ⟨_, g, o, cap, rfl, _, hc, hm, _⟩
  · exact ⟨_, _, rfl, Nat.zero_le _, hm⟩
  · exact ⟨_, _, rfl, hc, hm⟩
theorem TRow.cells {w : World} {a : Option Addr} {cap k n : Nat} {ls : List Tm} (h : TRow w (.slice a n cap) ls) (hk : k < ls.length) : ∃ g o, a = some ⟨g, o, none⟩ ∧ g < w.heap.size ∧ TCells w g o ls := by
  rcases h with ⟨rfl, _⟩ | ⟨_, g, o, cap', hsl, hg, _, _, hcell⟩
  · simp at hk
  · injection hsl with h1 _ _
    exact ⟨g, o, h1, hg, hcell⟩
theorem TRow.nil (w : World) : TRow w (.slice none 0 0) [] := .inl ⟨rfl, _, _, rfl, Nat.zero_le _⟩

section
variable {H : Type} {enc : TypeId × Value → H} {P : Program}

/-- What is read of a term. -/
def TData (t : Tm) (d : DataW H) : Prop := ∃ dv, d = .agg [.lit (.string t.1.data.toList), .lit (.bool t.2.1), dv] ∧ ReadS t.2.2 dv
/-- What is read of a selector. -/
def LData (ls : List Tm) (d : DataW H) : Prop := (d = .nil ∧ ls = []) ∨ ∃ D rest, d = .slice ((List.range ls.length).map D) rest ∧ ∀ i t, ls[i]? = some t → TData t (D i)

/-- An argument of terms, opened. -/
theorem open_terms {t e ts es : TypeId} {f0 f1 f2 : Field} (ht : P.underlying t = some (.slice e)) (he : P.underlying e = some (.struct #[f0, f1, f2])) (ce : P.cellsOf e = 3)
    (o0 : f0.offset = 0) (o1 : f1.offset = 1) (o2 : f2.offset = 2) (c0 : P.cellsOf f0.type = 1) (c1 : P.cellsOf f1.type = 1) (c2 : P.cellsOf f2.type = 1)
    (u0 : P.underlying f0.type = some .string) (u1 : P.underlying f1.type = some .bool) (u2 : f2.type = ts) (us : P.underlying ts = some (.slice es)) (ue : P.underlying es = some .string) (ces : P.cellsOf es = 1)
    {W : World} {base : Nat} {v : Value} {d : DataW H} {p : List MemPlace} (hval : Value.okWide P W .any base t v) (h : DataW.Trod enc P W 0 (fun _ => true) true t v d p) : ∃ ls, TRow W v ls ∧ LData ls d := by
  obtain ⟨a1, len, cap, rfl⟩ := okWide_slice ht hval
  obtain ⟨fuel, hf⟩ := h
  rcases Deep.open_slice ht hf with ⟨hcs, hx⟩ | ⟨a, len', cap', m, n, D, Pl, hcs, _, hl, hm, hmm, hx, hi⟩
  · simp [Value.cells] at hcs
    obtain ⟨rfl, rfl, rfl⟩ := hcs
    simp only [Prod.mk.injEq] at hx
    exact ⟨[], TRow.nil W, .inl ⟨hx.1, rfl⟩⟩
  · simp [Value.cells] at hcs
    obtain ⟨rfl, rfl, rfl⟩ := hcs
    simp only [if_true] at hmm
    subst hmm
    simp only [Prod.mk.injEq] at hx
    rw [ce] at hi
    have each : ∀ i, i < m → ∃ t : Tm, (W.cell? (a.add (i * 3)) = some (.string t.1) ∧ W.cell? (a.add (i * 3 + 1)) = some (.bool t.2.1) ∧ ∃ v, W.cell? (a.add (i * 3 + 2)) = some v ∧ SRow W v t.2.2) ∧ TData t (D i) := fun i him => by
      obtain ⟨cs', h1, h2⟩ := hi i him
      obtain ⟨_, hlen, hcell⟩ := World.cells?_some h1
      obtain ⟨y0, y1, y2, k, hy, _, g0, g1, g2⟩ := Deep.trod_struct3 he h2
      match cs', hlen with
      | [w0, w1, w2], _ =>
        rw [o0, c0] at g0
        rw [o1, c1] at g1
        rw [o2, c2, u2] at g2
        simp at g0 g1 g2
        obtain ⟨b0, e0, q0, _⟩ := DataW.trod_string u0 g0
        obtain ⟨b1, e1, q1⟩ := DataW.trod_bool u1 g1
        obtain ⟨vs, hs, hd⟩ := open_cells us ue ces g2
        simp only [List.cons.injEq, and_true] at e0 e1
        have k0 := hcell 0 (by omega)
        have k1 := hcell 1 (by omega)
        have k2 := hcell 2 (by omega)
        rw [Deep.add_add] at k0 k1 k2
        simp only [Prod.mk.injEq] at hy
        refine ⟨(b0, b1, vs), ⟨by simpa [e0] using k0, by simpa [e1] using k1, w2, by simpa using k2, hs⟩, y2.1, ?_, hd⟩
        rw [hy.1, q0, q1]
    obtain ⟨T, hT⟩ := Deep.choose_lt (α := Tm) each
    have hlen : ((List.range len).map T).length = len := by simp
    refine ⟨(List.range len).map T, ?_, .inr ⟨D, _, by rw [hlen]; exact hx.1, fun i t hit => ?_⟩⟩
    · by_cases hz : len = 0
      · subst hz
        exact .inl ⟨rfl, _, _, rfl, hm⟩
      · obtain ⟨ab, ao, spot⟩ := a
        have h0 := (hT 0 (by omega)).1.1
        have hspot : spot = none := by simpa [Addr.add] using World.cell?_spot h0
        subst hspot
        refine .inr ⟨fun hn => by rw [hn] at hlen; simp at hlen; omega, ab, ao, m, by rw [hlen], World.block_lt_of_cell? (a := ⟨ab, ao, none⟩) _ (by simpa [Addr.add] using h0), by rw [hlen]; exact hl, hm, fun k x hk => ?_⟩
        obtain ⟨hk1, rfl⟩ := List.getElem?_eq_some_iff.1 hk
        rw [hlen] at hk1
        obtain ⟨⟨g0, g1, v, g2, g3⟩, _⟩ := hT k (by omega)
        rw [Addr.add_lit] at g0 g1 g2
        simp only [List.getElem_map, List.getElem_range]
        exact ⟨g0, by rw [Nat.add_assoc]; exact g1, v, by rw [Nat.add_assoc]; exact g2, g3⟩
    · obtain ⟨hk1, rfl⟩ := List.getElem?_eq_some_iff.1 hit
      rw [hlen] at hk1
      simp only [List.getElem_map, List.getElem_range]
      exact (hT i (by omega)).2

/-- By the bulk: how many, how long. -/
theorem LData.bulk {ls : List Tm} {d : DataW H} (h : LData ls d) : ls.length ≤ Rows.uptoBulk d ∧ ∀ t ∈ ls, t.1.size ≤ Rows.uptoBulk d ∧ t.2.2.length ≤ Rows.uptoBulk d ∧ ∀ x ∈ t.2.2, x.size ≤ Rows.uptoBulk d := by
  rcases h with ⟨_, rfl⟩ | ⟨D, rest, rfl, hD⟩
  · exact ⟨by simp, fun x hx => by simp at hx⟩
  · simp only [Rows.uptoBulk]
    refine ⟨?_, fun t ht => ?_⟩
    · have := bulk_len ((List.range ls.length).map D)
      simp at this
      omega
    · obtain ⟨i, hi⟩ := List.mem_iff_getElem?.1 ht
      obtain ⟨dv, e, hd⟩ := hD i t hi
      have hil := (List.getElem?_eq_some_iff.1 hi).1
      have hm : D i ∈ (List.range ls.length).map D := List.mem_map.2 ⟨i, List.mem_range.2 hil, rfl⟩
      have h1 := bulk_mem hm
      rw [e] at h1
      simp only [Rows.uptoBulk, Rows.uptoBulkAll] at h1
      have h2 : t.1.data.toList.length = t.1.size := Array.length_toList
      obtain ⟨h3, h4⟩ := hd.bulk
      exact ⟨by omega, by omega, fun x hx => by have := h4 x hx; omega⟩
/-- By the reach: how many, how long. -/
theorem LData.reach {t e ts es : TypeId} {f0 f1 f2 : Field} {ls : List Tm} {d : DataW H} {B : Nat} (h : LData ls d) (ht : P.underlying t = some (.slice e)) (he : P.underlying e = some (.struct #[f0, f1, f2])) (hby : P.bytesOf e = 48) (u2 : f2.type = ts) (us : P.underlying ts = some (.slice es)) (hbs : P.bytesOf es = 16)
    (hB : ∀ n ∈ d.weights P t, n ≤ B) : ls.length * 48 ≤ B ∧ ∀ t ∈ ls, t.1.size ≤ B ∧ t.2.2.length * 16 ≤ B ∧ ∀ x ∈ t.2.2, x.size ≤ B := by
  rcases h with ⟨_, rfl⟩ | ⟨D, rest, rfl, hD⟩
  · exact ⟨by simp, fun x hx => by simp at hx⟩
  · simp only [DataW.weights, ht, hby] at hB
    refine ⟨?_, fun t ht => ?_⟩
    · have := hB _ (List.mem_cons_self ..)
      simp only [List.length_map, List.length_range] at this
      have h2 : ls.length * 48 ≤ (ls.length + rest.length) * 48 := Nat.mul_le_mul_right _ (Nat.le_add_right _ _)
      omega
    · obtain ⟨i, hi⟩ := List.mem_iff_getElem?.1 ht
      obtain ⟨dv, e', hd⟩ := hD i t hi
      have hil := (List.getElem?_eq_some_iff.1 hi).1
      have hm : D i ∈ (List.range ls.length).map D := List.mem_map.2 ⟨i, List.mem_range.2 hil, rfl⟩
      have hall : ∀ n ∈ (D i).weights P e, n ≤ B := fun n hn => hB n (List.mem_cons_of_mem _ (List.mem_append_left _ (weights_all hm n hn)))
      rw [e'] at hall
      simp only [DataW.weights, he, List.map_cons, List.map_nil, DataW.weightsEach] at hall
      have h1 := hall t.1.data.toList.length (by simp)
      rw [Array.length_toList] at h1
      have h2 := hd.reach (t := ts) us hbs (fun n hn => hall n (by rw [← u2] at hn; simp [hn]))
      exact ⟨h1, h2.1, h2.2⟩
end
end Go.Proofs.YtbilkeadhflibaaGreatDoor.Sel
