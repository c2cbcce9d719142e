/- ShelfP PsA ShelfK DskR DskN -/
import Derived.Shelf.Strings.Cut
import Derived.Shelf.Strings.Split
import Derived.Shelf.Strings.SplitShaped
import Derived.Shelf.Strconv.AtoiAll
import Derived.Test.YtbmhaamenjhjfaaGreatDoorProg
import Derived.Lib.AtoiAllCases
import Derived.Shelf.Strings.Search3
import Derived.Shelf.Strconv.Itoa3
import Derived.Lib.AppendIntMem
import Derived.Lib.SmallJoins
import Derived.Lib.SplitLaws
import Derived.Lib.CountLaws
import Derived.Test.YtbmhaamenjhjfaaGreatDoorPkD22
namespace Go.Proofs
open Go.Shelf
def Tryz.laysC172_ren : Go.Shelf.Ren := ⟨fun | 172 => 155 | 244 => 193 | 245 => 194 | 247 => 220 | 279 => 221 | 280 => 222 | 281 => 223 | 282 => 224 | 287 => 244 | 316 => 245 | 171 => 114 | 205 => 246 | 321 => 255 | 322 => 256 | 243 => 174 | 246 => 210 | 283 => 236 | 284 => 237 | 285 => 238 | 286 => 239 | 129 => 251 | 317 => 250 | 318 => 252 | 319 => 253 | 320 => 254 | 337 => 257 | 338 => 258 | n => n, fun | 9 => 9 | 3 => 3 | 75 => 58 | 76 => 175 | 4 => 4 | 5 => 5 | 167 => 235 | 37 => 94 | 0 => 0 | 85 => 236 | 2 => 2 | 168 => 238 | 53 => 247 | 175 => 253 | 46 => 170 | 210 => 256 | 127 => 241 | 145 => 271 | 143 => 269 | 21 => 21 | 171 => 246 | 173 => 250 | 212 => 262 | 51 => 205 | 20 => 20 | 213 => 263 | 232 => 272 | 233 => 273 | 80 => 64 | n => n, fun | 15 => 4 | 16 => 5 | 17 => 6 | 18 => 9 | 19 => 10 | n => n⟩
theorem Tryz.laysC172 : Go.Proofs.LaysC.n172 Tryz.prog Tryz.laysC172_ren := {
  mixed := by kernel_rfl
  f129 := Tryz.func251.trans (congrArg some (by kernel_rfl))
  f171 := Tryz.func114.trans (congrArg some (by kernel_rfl))
  f172 := Tryz.func155.trans (congrArg some (by kernel_rfl))
  f205 := Tryz.func246.trans (congrArg some (by kernel_rfl))
  f243 := Tryz.func174.trans (congrArg some (by kernel_rfl))
  f244 := Tryz.func193.trans (congrArg some (by kernel_rfl))
  f245 := Tryz.func194.trans (congrArg some (by kernel_rfl))
  f246 := Tryz.func210.trans (congrArg some (by kernel_rfl))
  f247 := Tryz.func220.trans (congrArg some (by kernel_rfl))
  f279 := Tryz.func221.trans (congrArg some (by kernel_rfl))
  f280 := Tryz.func222.trans (congrArg some (by kernel_rfl))
  f281 := Tryz.func223.trans (congrArg some (by kernel_rfl))
  f282 := Tryz.func224.trans (congrArg some (by kernel_rfl))
  f283 := Tryz.func236.trans (congrArg some (by kernel_rfl))
  f284 := Tryz.func237.trans (congrArg some (by kernel_rfl))
  f285 := Tryz.func238.trans (congrArg some (by kernel_rfl))
  f286 := Tryz.func239.trans (congrArg some (by kernel_rfl))
  f287 := Tryz.func244.trans (congrArg some (by kernel_rfl))
  f316 := Tryz.func245.trans (congrArg some (by kernel_rfl))
  f317 := Tryz.func250.trans (congrArg some (by kernel_rfl))
  f318 := Tryz.func252.trans (congrArg some (by kernel_rfl))
  f319 := Tryz.func253.trans (congrArg some (by kernel_rfl))
  f320 := Tryz.func254.trans (congrArg some (by kernel_rfl))
  f321 := Tryz.func255.trans (congrArg some (by kernel_rfl))
  f322 := Tryz.func256.trans (congrArg some (by kernel_rfl))
  f337 := Tryz.func257.trans (congrArg some (by kernel_rfl))
  f338 := Tryz.func258.trans (congrArg some (by kernel_rfl))
  t0 := Tryz.underlying0
  a0 := Tryz.isAgg0
  z0 := Tryz.sizeOf0
  v0 := Tryz.zeroValue0
  t2 := Tryz.underlying2
  a2 := Tryz.isAgg2
  z2 := Tryz.sizeOf2
  v2 := Tryz.zeroValue2
  t3 := Tryz.underlying3
  a3 := Tryz.isAgg3
  z3 := Tryz.sizeOf3
  v3 := Tryz.zeroValue3
  t4 := Tryz.underlying4
  a4 := Tryz.isAgg4
  z4 := Tryz.sizeOf4
  v4 := Tryz.zeroValue4
  t5 := Tryz.underlying5
  a5 := Tryz.isAgg5
  z5 := Tryz.sizeOf5
  v5 := Tryz.zeroValue5
  t9 := Tryz.underlying9
  a9 := Tryz.isAgg9
  z9 := Tryz.sizeOf9
  v9 := Tryz.zeroValue9
  t20 := Tryz.underlying20
  a20 := Tryz.isAgg20
  z20 := Tryz.sizeOf20
  v20 := Tryz.zeroValue20
  t21 := Tryz.underlying21
  a21 := Tryz.isAgg21
  z21 := Tryz.sizeOf21
  v21 := Tryz.zeroValue21
  t37 := Tryz.underlying94
  a37 := Tryz.isAgg94
  z37 := Tryz.sizeOf94
  v37 := Tryz.zeroValue94
  t46 := Tryz.underlying170
  a46 := Tryz.isAgg170
  z46 := Tryz.sizeOf170
  v46 := Tryz.zeroValue170
  t51 := Tryz.underlying205
  a51 := Tryz.isAgg205
  z51 := Tryz.sizeOf205
  v51 := Tryz.zeroValue205
  t53 := Tryz.underlying247
  a53 := Tryz.isAgg247
  z53 := Tryz.sizeOf247
  v53 := Tryz.zeroValue247
  t75 := Tryz.underlying58
  a75 := Tryz.isAgg58
  z75 := Tryz.sizeOf58
  v75 := Tryz.zeroValue58
  t76 := Tryz.underlying175
  a76 := Tryz.isAgg175
  z76 := Tryz.sizeOf175
  v76 := Tryz.zeroValue175
  t85 := Tryz.underlying236
  a85 := Tryz.isAgg236
  z85 := Tryz.sizeOf236
  v85 := Tryz.zeroValue236
  t127 := Tryz.underlying241
  a127 := Tryz.isAgg241
  z127 := Tryz.sizeOf241
  v127 := Tryz.zeroValue241
  t143 := Tryz.underlying269
  a143 := Tryz.isAgg269
  z143 := Tryz.sizeOf269
  v143 := Tryz.zeroValue269
  t145 := Tryz.underlying271
  a145 := Tryz.isAgg271
  z145 := Tryz.sizeOf271
  v145 := Tryz.zeroValue271
  t167 := Tryz.underlying235
  a167 := Tryz.isAgg235
  z167 := Tryz.sizeOf235
  v167 := Tryz.zeroValue235
  t168 := Tryz.underlying238
  a168 := Tryz.isAgg238
  z168 := Tryz.sizeOf238
  v168 := Tryz.zeroValue238
  t171 := Tryz.underlying246
  a171 := Tryz.isAgg246
  z171 := Tryz.sizeOf246
  v171 := Tryz.zeroValue246
  t173 := Tryz.underlying250
  a173 := Tryz.isAgg250
  z173 := Tryz.sizeOf250
  v173 := Tryz.zeroValue250
  t175 := Tryz.underlying253
  a175 := Tryz.isAgg253
  z175 := Tryz.sizeOf253
  v175 := Tryz.zeroValue253
  t210 := Tryz.underlying256
  a210 := Tryz.isAgg256
  z210 := Tryz.sizeOf256
  v210 := Tryz.zeroValue256
  t212 := Tryz.underlying262
  a212 := Tryz.isAgg262
  z212 := Tryz.sizeOf262
  v212 := Tryz.zeroValue262
  t213 := Tryz.underlying263
  a213 := Tryz.isAgg263
  z213 := Tryz.sizeOf263
  t232 := Tryz.underlying272
  a232 := Tryz.isAgg272
  z232 := Tryz.sizeOf272
  v232 := Tryz.zeroValue272
  t233 := Tryz.underlying273
  a233 := Tryz.isAgg273
  z233 := Tryz.sizeOf273
  v233 := Tryz.zeroValue273
  g15 := by kernel_rfl
  g16 := by kernel_rfl
  g17 := by kernel_rfl
  g18 := by kernel_rfl
  g19 := by kernel_rfl
  t80 := Tryz.underlying64
  a80 := Tryz.isAgg64
  z80 := Tryz.sizeOf64
  v80 := Tryz.zeroValue64
  i0 := by kernel_rfl
  i2 := by kernel_rfl
  i3 := by kernel_rfl
  i4 := by kernel_rfl
  i5 := by kernel_rfl
  i9 := by kernel_rfl
  i20 := by kernel_rfl
  i21 := by kernel_rfl
  i37 := by kernel_rfl
  i46 := by kernel_rfl
  i51 := by kernel_rfl
  i53 := by kernel_rfl
  i75 := by kernel_rfl
  i76 := by kernel_rfl
  i80 := by kernel_rfl
  i85 := by kernel_rfl
  i127 := by kernel_rfl
  i143 := by kernel_rfl
  i145 := by kernel_rfl
  i167 := by kernel_rfl
  i168 := by kernel_rfl
  i171 := by kernel_rfl
  i173 := by kernel_rfl
  i175 := by kernel_rfl
  i210 := by kernel_rfl
  i212 := by kernel_rfl
  i232 := by kernel_rfl
  i233 := by kernel_rfl
  m15 := by kernel_rfl
  m16 := by kernel_rfl
  m17 := by kernel_rfl
  m18 := by kernel_rfl
  m19 := by kernel_rfl
  c0 := by kernel_rfl
  c2 := by kernel_rfl
  c3 := by kernel_rfl
  c4 := by kernel_rfl
  c5 := by kernel_rfl
  c9 := by kernel_rfl
  c20 := by kernel_rfl
  c21 := by kernel_rfl
  c37 := by kernel_rfl
  c46 := by kernel_rfl
  c51 := by kernel_rfl
  c53 := by kernel_rfl
  c75 := by kernel_rfl
  c76 := by kernel_rfl
  c80 := by kernel_rfl
  c85 := by kernel_rfl
  c127 := by kernel_rfl
  c143 := by kernel_rfl
  c145 := by kernel_rfl
  c167 := by kernel_rfl
  c168 := by kernel_rfl
  c171 := by kernel_rfl
  c173 := by kernel_rfl
  c175 := by kernel_rfl
  c210 := by kernel_rfl
  c212 := by kernel_rfl
  c213 := by kernel_rfl
  c232 := by kernel_rfl
  c233 := by kernel_rfl }
open Go.RowKit in
theorem Tryz.strconv_Atoi_ok (s : ByteArray) (hmax : s.size ≤ 9223372036854775806) (v : Int) (h : Lib.atoiAll s.data.toList = .ok v) (w : World) :
    Calls Tryz.prog 155 #[.string s] w fun e w' => e = .returned (.tuple #[.int .i64 v, .nilIface]) ∧ (w' = w ∨ ∃ t, w' = Lib.bytesWorld w 5 t) := Any.strconv_Atoi_ok Tryz.laysC172 s hmax v h w
open Go.RowKit in
theorem Tryz.strconv_Atoi_bad (s : ByteArray) (hlim : s.size ≤ 281474976710656) (hn1 : ∀ v, Lib.atoiAll s.data.toList ≠ .ok v) (hn2 : Lib.atoiAll s.data.toList ≠ .range) (ev : Value) (w : World) (hv : w.cell? ⟨4, 0, none⟩ = some ev) (hev : ev = .nilIface ∨ ∃ te pe, ev = .iface te pe) :
    Calls Tryz.prog 155 #[.string s] w fun e w' => ∃ N, e = .returned (.tuple #[.int .i64 (0), .iface 238 (.pointer (some ⟨N, 0, none⟩))]) ∧ w.heap.size ≤ N ∧ w'.heap[N]? = some (.cells #[.string ⟨#[65, 116, 111, 105]⟩, .string s, ev] 256 (0, 0)) ∧ Below w.heap.size w w' := by
  cases h : Lib.atoiAll s.data.toList
  · exact absurd h (hn1 _)
  · exact Any.strconv_Atoi_syntax Tryz.laysC172 s hlim h ev w hv hev
  · exact absurd h hn2
open Go.RowKit in
theorem Tryz.strconv_Atoi_range (s : ByteArray) (hlim : s.size ≤ 281474976710656) (h : Lib.atoiAll s.data.toList = .range) (ev : Value) (w : World) (hv : w.cell? ⟨5, 0, none⟩ = some ev) (hev : ev = .nilIface ∨ ∃ te pe, ev = .iface te pe) :
    Calls Tryz.prog 155 #[.string s] w fun e w' => ∃ N, e = .returned (.tuple #[.int .i64 (Lib.atoiSat s.data.toList), .iface 238 (.pointer (some ⟨N, 0, none⟩))]) ∧ w.heap.size ≤ N ∧ w'.heap[N]? = some (.cells #[.string ⟨#[65, 116, 111, 105]⟩, .string s, ev] 256 (0, 0)) ∧ Below w.heap.size w w' := Any.strconv_Atoi_range Tryz.laysC172 s hlim h ev w hv hev
def Tryz.lays145_ren : Go.Shelf.Ren := ⟨fun | 145 => 156 | 220 => 195 | 219 => 96 | 217 => 150 | 225 => 151 | 224 => 152 | 267 => 153 | 266 => 189 | 314 => 190 | n => n, fun | 9 => 9 | 4 => 4 | 59 => 177 | 3 => 3 | 5 => 5 | 46 => 170 | 146 => 206 | 51 => 205 | n => n, fun | 1 => 3 | n => n⟩
theorem Tryz.lays145 : Go.Proofs.Lays.n145 Tryz.prog Tryz.lays145_ren := {
  mixed := by kernel_rfl
  f145 := Tryz.func156.trans (congrArg some (by kernel_rfl))
  f217 := Tryz.func150.trans (congrArg some (by kernel_rfl))
  f219 := Tryz.func96.trans (congrArg some (by kernel_rfl))
  f220 := Tryz.func195.trans (congrArg some (by kernel_rfl))
  f224 := Tryz.func152.trans (congrArg some (by kernel_rfl))
  f225 := Tryz.func151.trans (congrArg some (by kernel_rfl))
  f266 := Tryz.func189.trans (congrArg some (by kernel_rfl))
  f267 := Tryz.func153.trans (congrArg some (by kernel_rfl))
  f314 := Tryz.func190.trans (congrArg some (by kernel_rfl))
  t3 := Tryz.underlying3
  a3 := Tryz.isAgg3
  z3 := Tryz.sizeOf3
  v3 := Tryz.zeroValue3
  t4 := Tryz.underlying4
  a4 := Tryz.isAgg4
  z4 := Tryz.sizeOf4
  v4 := Tryz.zeroValue4
  t5 := Tryz.underlying5
  a5 := Tryz.isAgg5
  z5 := Tryz.sizeOf5
  v5 := Tryz.zeroValue5
  t9 := Tryz.underlying9
  a9 := Tryz.isAgg9
  z9 := Tryz.sizeOf9
  v9 := Tryz.zeroValue9
  t46 := Tryz.underlying170
  a46 := Tryz.isAgg170
  z46 := Tryz.sizeOf170
  v46 := Tryz.zeroValue170
  t51 := Tryz.underlying205
  a51 := Tryz.isAgg205
  z51 := Tryz.sizeOf205
  v51 := Tryz.zeroValue205
  t59 := Tryz.underlying177
  a59 := Tryz.isAgg177
  z59 := Tryz.sizeOf177
  v59 := Tryz.zeroValue177
  t146 := Tryz.underlying206
  a146 := Tryz.isAgg206
  z146 := Tryz.sizeOf206
  v146 := Tryz.zeroValue206
  g1 := by kernel_rfl }
open Go.RowKit Go.Lib in
theorem Tryz.strings_Cut (s sep : ByteArray) (m : Int) (w : World) (hs : s.size < 4294967281) (hm : w.cell? ⟨3, 0, none⟩ = some (.int .i64 m)) :
    Calls Tryz.prog 156 #[.string s, .string sep] w fun e w' => e = .returned (.tuple #[.string ⟨(Lib.cut s.data.toList sep.data.toList).1.toArray⟩, .string ⟨(Lib.cut s.data.toList sep.data.toList).2.1.toArray⟩, .bool (Lib.cut s.data.toList sep.data.toList).2.2]) ∧ ∃ n, w' = w.drewN n := Any.strings_Cut Tryz.lays145 s sep m w hs hm
def Tryz.lays147_ren : Go.Shelf.Ren := ⟨fun | 147 => 196 | 221 => 154 | 268 => 191 | 138 => 192 | 143 => 52 | 195 => 217 | 197 => 218 | 218 => 219 | 219 => 96 | 260 => 243 | 217 => 150 | 225 => 151 | 224 => 152 | 267 => 153 | 266 => 189 | 314 => 190 | n => n, fun | 9 => 9 | 3 => 3 | 31 => 37 | 4 => 4 | 0 => 0 | 105 => 233 | 21 => 21 | 5 => 5 | 46 => 170 | 119 => 264 | 139 => 267 | 138 => 266 | 146 => 206 | 51 => 205 | n => n, fun | 1 => 3 | 3 => 7 | 4 => 8 | n => n⟩
theorem Tryz.lays147 : Go.Proofs.Lays.n147 Tryz.prog Tryz.lays147_ren := {
  mixed := by kernel_rfl
  f138 := Tryz.func192.trans (congrArg some (by kernel_rfl))
  f143 := Tryz.func52.trans (congrArg some (by kernel_rfl))
  f147 := Tryz.func196.trans (congrArg some (by kernel_rfl))
  f195 := Tryz.func217.trans (congrArg some (by kernel_rfl))
  f197 := Tryz.func218.trans (congrArg some (by kernel_rfl))
  f217 := Tryz.func150.trans (congrArg some (by kernel_rfl))
  f218 := Tryz.func219.trans (congrArg some (by kernel_rfl))
  f219 := Tryz.func96.trans (congrArg some (by kernel_rfl))
  f221 := Tryz.func154.trans (congrArg some (by kernel_rfl))
  f224 := Tryz.func152.trans (congrArg some (by kernel_rfl))
  f225 := Tryz.func151.trans (congrArg some (by kernel_rfl))
  f260 := Tryz.func243.trans (congrArg some (by kernel_rfl))
  f266 := Tryz.func189.trans (congrArg some (by kernel_rfl))
  f267 := Tryz.func153.trans (congrArg some (by kernel_rfl))
  f268 := Tryz.func191.trans (congrArg some (by kernel_rfl))
  f314 := Tryz.func190.trans (congrArg some (by kernel_rfl))
  t0 := Tryz.underlying0
  a0 := Tryz.isAgg0
  z0 := Tryz.sizeOf0
  v0 := Tryz.zeroValue0
  t3 := Tryz.underlying3
  a3 := Tryz.isAgg3
  z3 := Tryz.sizeOf3
  v3 := Tryz.zeroValue3
  t4 := Tryz.underlying4
  a4 := Tryz.isAgg4
  z4 := Tryz.sizeOf4
  v4 := Tryz.zeroValue4
  t5 := Tryz.underlying5
  a5 := Tryz.isAgg5
  z5 := Tryz.sizeOf5
  v5 := Tryz.zeroValue5
  t9 := Tryz.underlying9
  a9 := Tryz.isAgg9
  z9 := Tryz.sizeOf9
  v9 := Tryz.zeroValue9
  t21 := Tryz.underlying21
  a21 := Tryz.isAgg21
  z21 := Tryz.sizeOf21
  v21 := Tryz.zeroValue21
  t31 := Tryz.underlying37
  a31 := Tryz.isAgg37
  z31 := Tryz.sizeOf37
  v31 := Tryz.zeroValue37
  t46 := Tryz.underlying170
  a46 := Tryz.isAgg170
  z46 := Tryz.sizeOf170
  v46 := Tryz.zeroValue170
  t51 := Tryz.underlying205
  a51 := Tryz.isAgg205
  z51 := Tryz.sizeOf205
  v51 := Tryz.zeroValue205
  t105 := Tryz.underlying233
  a105 := Tryz.isAgg233
  z105 := Tryz.sizeOf233
  v105 := Tryz.zeroValue233
  t119 := Tryz.underlying264
  a119 := Tryz.isAgg264
  z119 := Tryz.sizeOf264
  t138 := Tryz.underlying266
  a138 := Tryz.isAgg266
  z138 := Tryz.sizeOf266
  v138 := Tryz.zeroValue266
  t139 := Tryz.underlying267
  a139 := Tryz.isAgg267
  z139 := Tryz.sizeOf267
  v139 := Tryz.zeroValue267
  t146 := Tryz.underlying206
  a146 := Tryz.isAgg206
  z146 := Tryz.sizeOf206
  v146 := Tryz.zeroValue206
  g1 := by kernel_rfl
  g3 := by kernel_rfl
  g4 := by kernel_rfl }
open Go.RowKit Go.Lib in
theorem Tryz.strings_SplitN (s sep : ByteArray) (n : Nat) (m : Int) (w : World) (hs : s.size < 4294967281) (hm : w.cell? ⟨3, 0, none⟩ = some (.int .i64 m)) (h1 : 1 ≤ sep.size) (hn : 1 ≤ n) (hn63 : n ≤ 9223372036854775807) :
    Calls Tryz.prog 196 #[.string s, .string sep, .int .i64 n] w fun e w' =>
      e = .returned (.slice (some ⟨w.heap.size, 0, none⟩) (Lib.splitB sep 0 (min n (s.size + 1) - 1) s).length (min n (s.size + 1))) ∧ w' = w.alloc (.cells (Lib.cellsOf (Lib.splitB sep 0 (min n (s.size + 1) - 1) s) (min n (s.size + 1))) 9) := Any.strings_SplitN Tryz.lays147 (by kernel_rfl) s sep n m w hs hm h1 hn hn63
end Go.Proofs
namespace Go.Proofs.YtbmhaamenjhjfaaGreatDoor
open Go.RowKit Go.WideShapes Go.ChangeShapes
set_option linter.unusedVariables false
structure Glob (w : World) : Prop where
  max : ∃ m, w.cell? ⟨3, 0, none⟩ = some (.int .i64 m)
  syn : ∃ ev, w.cell? ⟨4, 0, none⟩ = some ev ∧ (ev = .nilIface ∨ ∃ te pe, ev = .iface te pe)
  rng : ∃ ev, w.cell? ⟨5, 0, none⟩ = some ev ∧ (ev = .nilIface ∨ ∃ te pe, ev = .iface te pe)
theorem cell_later {w w' : World} {p : Addr} {v : Value} (h : w.cell? p = some v) (hb : Below w.heap.size w w') : w'.cell? p = some v := (hb.cell (World.block_lt_of_cell? w _ h)).trans h
theorem Glob.later {w w' : World} (h : Glob w) (hb : Below w.heap.size w w') : Glob w' := by
  obtain ⟨⟨m, h1⟩, ⟨e1, h2, h3⟩, ⟨e2, h4, h5⟩⟩ := h
  exact ⟨⟨m, cell_later h1 hb⟩, ⟨e1, cell_later h2 hb, h3⟩, ⟨e2, cell_later h4 hb, h5⟩⟩
theorem sB_list (l : List UInt8) : (sB l).data.toList = l := by show l.toArray.toList = l; simp
theorem sB_of (b : ByteArray) : sB b.data.toList = b := by
  apply ByteArray.ext; show b.data.toList.toArray = b.data; simp
theorem cut_any (c : UInt8) (l : List UInt8) (w : World) (hG : Glob w) (hl : l.length ≤ 1048576) :
    Calls Tryz.prog 156 #[.string (sB l), .string { data := #[c] }] w fun r w' => r = .returned (.tuple #[.string (sB (cutL c l).1), .string (sB (cutL c l).2.1), .bool (cutL c l).2.2]) ∧ Below w.heap.size w w' := by
  obtain ⟨m, hm⟩ := hG.max
  refine (Tryz.strings_Cut (sB l) { data := #[c] } m w (by rw [sB_size]; omega) hm).mono ?_
  rintro r w' ⟨rfl, n, rfl⟩
  rw [sB_list]
  exact ⟨rfl, below_drewN (Below.refl _ _) _⟩
def Strs (w : World) (v : Value) (ls : List (List UInt8)) : Prop :=
  ∃ A c, v = .slice A ls.length c ∧ ∀ j, j < ls.length → ∃ b o, A = some ⟨b, o, none⟩ ∧ b < w.heap.size ∧ w.cell? ⟨b, o + j, none⟩ = some (.string (sB (ls.getD j [])))
theorem Strs.below {w w' : World} {v : Value} {ls : List (List UInt8)} (h : Strs w v ls) (hb : Below w.heap.size w w') : Strs w' v ls := by
  obtain ⟨A, c, rfl, h⟩ := h
  refine ⟨A, c, rfl, fun j hj => ?_⟩
  obtain ⟨b, o, rfl, h1, h2⟩ := h j hj
  exact ⟨b, o, rfl, Nat.lt_of_lt_of_le h1 hb.size, (hb.cell (p := ⟨b, o + j, none⟩) h1).trans h2⟩
theorem StrOwn.read {ts : TypeId} {w : World} {B : Nat} {v : Value} {ls : List (List UInt8)} (h : StrOwn ts w B v ls) : Strs w v ls := by
  have h2 : w.ownsRow B ts 1 v ls.length (strs ls) := h
  rcases Nat.eq_zero_or_pos ls.length with h0 | h0
  · rcases h2.2 with ⟨rfl, h3⟩ | ⟨g, cap, cur, rfl, _⟩
    · exact ⟨none, 0, by rw [h3], fun j hj => by omega⟩
    · exact ⟨_, cap, rfl, fun j hj => by omega⟩
  · obtain ⟨g, cap, rfl, hB, hg⟩ := h2.form h0
    refine ⟨_, cap, rfl, fun j hj => ⟨g, 0, rfl, hg, ?_⟩⟩
    rw [Nat.zero_add, h2.cellAt j (by omega)]
    simp [strs, List.getD, hj]
theorem splitN_any (l : List UInt8) (w : World) (hG : Glob w) (hl : l.length ≤ 1048576) :
    Calls Tryz.prog 196 #[.string (sB l), .string { data := #[44] }, .int .i64 101] w fun (r : Ending) w' => ∃ u, r = Ending.returned u ∧ Strs w' u (splC l) ∧ Below w.heap.size w w' := by
  obtain ⟨m, hm⟩ := hG.max
  have h := Tryz.strings_SplitN (sB l) { data := #[44] } 101 m w (by rw [sB_size]; omega) hm (by decide) (by decide) (by decide)
  refine h.mono ?_
  rintro r w' ⟨rfl, rfl⟩
  have hd := Lib.splitB_data { data := #[44] } 0 (min 101 ((sB l).size + 1) - 1) (sB l)
  rw [sB_list, sB_size] at hd
  have hd2 : (Lib.splitB { data := #[44] } 0 (min 101 (l.length + 1) - 1) (sB l)).map (·.data.toList) = splC l := hd
  rw [sB_size]
  generalize Lib.splitB { data := #[44] } 0 (min 101 (l.length + 1) - 1) (sB l) = bs at hd2
  have hlen : bs.length = (splC l).length := by rw [← hd2, List.length_map]
  refine ⟨_, rfl, ⟨_, _, by rw [hlen], fun j hj => ⟨w.heap.size, 0, rfl, by simp, ?_⟩⟩, below_alloc (Below.refl _ w) _⟩
  rw [Nat.zero_add, (Blk.new w _ _).cell]
  have hj2 : j < bs.length := by omega
  have hx : (splC l).getD j [] = bs[j].data.toList := by
    rw [← hd2]; simp [List.getD, hj2]
  rw [hx, sB_of]
  unfold Lib.cellsOf
  rw [List.getElem?_toArray, List.getElem?_append_left (by simpa using hj2)]
  simp [hj2]
theorem atoi_any (l : List UInt8) (w : World) (hG : Glob w) (hl : l.length ≤ 1048576) :
    Calls Tryz.prog 155 #[.string (sB l)] w fun (r : Ending) w' => ∃ n e, r = Ending.returned (.tuple #[.int .i64 n, e]) ∧ ((Lib.atoiAll l = .ok n ∧ e = .nilIface ∧ (Lit.int .i64 n).wf = true) ∨ ((∀ v, Lib.atoiAll l ≠ .ok v) ∧ ∃ t p, e = .iface t (.pointer (some p)))) ∧ Below w.heap.size w w' := by
  have hz : (sB l).size ≤ 281474976710656 := by rw [sB_size]; omega
  cases ha : Lib.atoiAll l
  case ok v =>
    have h := Tryz.strconv_Atoi_ok (sB l) (by omega) v (by rw [sB_list]; exact ha) w
    refine h.mono ?_
    rintro r w' ⟨rfl, hw⟩
    have hb := Lib.atoiAll_bounds ha
    refine ⟨v, _, rfl, .inl ⟨rfl, rfl, ?_⟩, ?_⟩
    · have e1 : IntKind.i64.min = -9223372036854775808 := rfl
      have e2 : IntKind.i64.max = 9223372036854775807 := rfl
      simp [Lit.wf]; omega
    · rcases hw with rfl | ⟨t, rfl⟩
      · exact Below.refl _ _
      · exact Lib.bytesWorld_below _ _ _
  case range =>
    obtain ⟨ev, h1, h2⟩ := hG.rng
    have h := Tryz.strconv_Atoi_range (sB l) hz (by rw [sB_list]; exact ha) ev w h1 h2
    refine h.mono ?_
    rintro r w' ⟨N, rfl, _, _, hb⟩
    exact ⟨_, _, rfl, .inr ⟨(fun v h => by cases h), _, _, rfl⟩, hb⟩
  · obtain ⟨ev, h1, h2⟩ := hG.syn
    have h := Tryz.strconv_Atoi_bad (sB l) hz (by rw [sB_list, ha]; intro v e; cases e) (by rw [sB_list, ha]; intro e; cases e) ev w h1 h2
    refine h.mono ?_
    rintro r w' ⟨N, rfl, _, _, hb⟩
    exact ⟨_, _, rfl, .inr ⟨(fun v h => by cases h), _, _, rfl⟩, hb⟩
end Go.Proofs.YtbmhaamenjhjfaaGreatDoor
namespace Go.Proofs
open Go.Shelf
def Tryz.laysM171_ren : Go.Shelf.Ren := ⟨fun | 171 => 114 | 243 => 174 | 246 => 210 | 283 => 236 | 284 => 237 | 285 => 238 | 286 => 239 | 129 => 251 | 317 => 250 | 318 => 252 | 319 => 253 | 320 => 254 | 337 => 257 | 338 => 258 | n => n, fun | 3 => 3 | 9 => 9 | 2 => 2 | 4 => 4 | 171 => 246 | 0 => 0 | 53 => 247 | 37 => 94 | 5 => 5 | 173 => 250 | 212 => 262 | 51 => 205 | 20 => 20 | 213 => 263 | 46 => 170 | 232 => 272 | 233 => 273 | n => n, fun | 17 => 6 | 18 => 9 | 19 => 10 | n => n⟩
theorem Tryz.laysM171 : Go.Proofs.LaysM.n171 Tryz.prog Tryz.laysM171_ren := {
  mixed := by kernel_rfl
  f129 := Tryz.func251.trans (congrArg some (by kernel_rfl))
  f171 := Tryz.func114.trans (congrArg some (by kernel_rfl))
  f243 := Tryz.func174.trans (congrArg some (by kernel_rfl))
  f246 := Tryz.func210.trans (congrArg some (by kernel_rfl))
  f283 := Tryz.func236.trans (congrArg some (by kernel_rfl))
  f284 := Tryz.func237.trans (congrArg some (by kernel_rfl))
  f285 := Tryz.func238.trans (congrArg some (by kernel_rfl))
  f286 := Tryz.func239.trans (congrArg some (by kernel_rfl))
  f317 := Tryz.func250.trans (congrArg some (by kernel_rfl))
  f318 := Tryz.func252.trans (congrArg some (by kernel_rfl))
  f319 := Tryz.func253.trans (congrArg some (by kernel_rfl))
  f320 := Tryz.func254.trans (congrArg some (by kernel_rfl))
  f337 := Tryz.func257.trans (congrArg some (by kernel_rfl))
  f338 := Tryz.func258.trans (congrArg some (by kernel_rfl))
  t0 := Tryz.underlying0
  a0 := Tryz.isAgg0
  z0 := Tryz.sizeOf0
  v0 := Tryz.zeroValue0
  t2 := Tryz.underlying2
  a2 := Tryz.isAgg2
  z2 := Tryz.sizeOf2
  v2 := Tryz.zeroValue2
  t3 := Tryz.underlying3
  a3 := Tryz.isAgg3
  z3 := Tryz.sizeOf3
  v3 := Tryz.zeroValue3
  t4 := Tryz.underlying4
  a4 := Tryz.isAgg4
  z4 := Tryz.sizeOf4
  v4 := Tryz.zeroValue4
  t5 := Tryz.underlying5
  a5 := Tryz.isAgg5
  z5 := Tryz.sizeOf5
  v5 := Tryz.zeroValue5
  t9 := Tryz.underlying9
  a9 := Tryz.isAgg9
  z9 := Tryz.sizeOf9
  v9 := Tryz.zeroValue9
  t20 := Tryz.underlying20
  a20 := Tryz.isAgg20
  z20 := Tryz.sizeOf20
  v20 := Tryz.zeroValue20
  t37 := Tryz.underlying94
  a37 := Tryz.isAgg94
  z37 := Tryz.sizeOf94
  v37 := Tryz.zeroValue94
  t46 := Tryz.underlying170
  a46 := Tryz.isAgg170
  z46 := Tryz.sizeOf170
  v46 := Tryz.zeroValue170
  t51 := Tryz.underlying205
  a51 := Tryz.isAgg205
  z51 := Tryz.sizeOf205
  v51 := Tryz.zeroValue205
  t53 := Tryz.underlying247
  a53 := Tryz.isAgg247
  z53 := Tryz.sizeOf247
  v53 := Tryz.zeroValue247
  t171 := Tryz.underlying246
  a171 := Tryz.isAgg246
  z171 := Tryz.sizeOf246
  v171 := Tryz.zeroValue246
  t173 := Tryz.underlying250
  a173 := Tryz.isAgg250
  z173 := Tryz.sizeOf250
  v173 := Tryz.zeroValue250
  t212 := Tryz.underlying262
  a212 := Tryz.isAgg262
  z212 := Tryz.sizeOf262
  v212 := Tryz.zeroValue262
  t213 := Tryz.underlying263
  a213 := Tryz.isAgg263
  z213 := Tryz.sizeOf263
  t232 := Tryz.underlying272
  a232 := Tryz.isAgg272
  z232 := Tryz.sizeOf272
  v232 := Tryz.zeroValue272
  t233 := Tryz.underlying273
  a233 := Tryz.isAgg273
  z233 := Tryz.sizeOf273
  v233 := Tryz.zeroValue273
  g17 := by kernel_rfl
  g18 := by kernel_rfl
  g19 := by kernel_rfl
  i0 := by kernel_rfl
  i2 := by kernel_rfl
  i3 := by kernel_rfl
  i4 := by kernel_rfl
  i5 := by kernel_rfl
  i9 := by kernel_rfl
  i20 := by kernel_rfl
  i37 := by kernel_rfl
  i46 := by kernel_rfl
  i51 := by kernel_rfl
  i53 := by kernel_rfl
  i171 := by kernel_rfl
  i173 := by kernel_rfl
  i212 := by kernel_rfl
  i232 := by kernel_rfl
  i233 := by kernel_rfl
  m17 := by kernel_rfl
  m18 := by kernel_rfl
  m19 := by kernel_rfl }
open Go.RowKit Go.Sort Go.Lib in
theorem Tryz.strconv_Itoa (n : Int) (h0 : -9223372036854775808 ≤ n) (h1 : n ≤ 9223372036854775807) (w : World) (htab : Lib.TabIs Tryz.prog w "internal/strconv.uint64pow10" .u64 Lib.pow10Tab) :
    Calls Tryz.prog 114 #[.int .i64 n] w fun e w' => e = .returned (.string ⟨(Lib.itoa n).toArray⟩) ∧ ∃ k os, w' = grow (w.drewN k) os := Any.strconv_Itoa Tryz.laysM171 n h0 h1 w htab
def Tryz.lays146_ren : Go.Shelf.Ren := ⟨fun | 146 => 97 | 221 => 154 | 268 => 191 | 138 => 192 | 143 => 52 | 195 => 217 | 197 => 218 | 218 => 219 | 219 => 96 | 260 => 243 | 217 => 150 | 225 => 151 | 224 => 152 | 267 => 153 | 266 => 189 | 314 => 190 | n => n, fun | 9 => 9 | 31 => 37 | 3 => 3 | 4 => 4 | 0 => 0 | 105 => 233 | 21 => 21 | 5 => 5 | 46 => 170 | 119 => 264 | 139 => 267 | 138 => 266 | 146 => 206 | 51 => 205 | n => n, fun | 1 => 3 | 3 => 7 | 4 => 8 | n => n⟩
theorem Tryz.lays146 : Go.Proofs.Lays.n146 Tryz.prog Tryz.lays146_ren := {
  mixed := by kernel_rfl
  f138 := Tryz.func192.trans (congrArg some (by kernel_rfl))
  f143 := Tryz.func52.trans (congrArg some (by kernel_rfl))
  f146 := Tryz.func97.trans (congrArg some (by kernel_rfl))
  f195 := Tryz.func217.trans (congrArg some (by kernel_rfl))
  f197 := Tryz.func218.trans (congrArg some (by kernel_rfl))
  f217 := Tryz.func150.trans (congrArg some (by kernel_rfl))
  f218 := Tryz.func219.trans (congrArg some (by kernel_rfl))
  f219 := Tryz.func96.trans (congrArg some (by kernel_rfl))
  f221 := Tryz.func154.trans (congrArg some (by kernel_rfl))
  f224 := Tryz.func152.trans (congrArg some (by kernel_rfl))
  f225 := Tryz.func151.trans (congrArg some (by kernel_rfl))
  f260 := Tryz.func243.trans (congrArg some (by kernel_rfl))
  f266 := Tryz.func189.trans (congrArg some (by kernel_rfl))
  f267 := Tryz.func153.trans (congrArg some (by kernel_rfl))
  f268 := Tryz.func191.trans (congrArg some (by kernel_rfl))
  f314 := Tryz.func190.trans (congrArg some (by kernel_rfl))
  t0 := Tryz.underlying0
  a0 := Tryz.isAgg0
  z0 := Tryz.sizeOf0
  v0 := Tryz.zeroValue0
  t3 := Tryz.underlying3
  a3 := Tryz.isAgg3
  z3 := Tryz.sizeOf3
  v3 := Tryz.zeroValue3
  t4 := Tryz.underlying4
  a4 := Tryz.isAgg4
  z4 := Tryz.sizeOf4
  v4 := Tryz.zeroValue4
  t5 := Tryz.underlying5
  a5 := Tryz.isAgg5
  z5 := Tryz.sizeOf5
  v5 := Tryz.zeroValue5
  t9 := Tryz.underlying9
  a9 := Tryz.isAgg9
  z9 := Tryz.sizeOf9
  v9 := Tryz.zeroValue9
  t21 := Tryz.underlying21
  a21 := Tryz.isAgg21
  z21 := Tryz.sizeOf21
  v21 := Tryz.zeroValue21
  t31 := Tryz.underlying37
  a31 := Tryz.isAgg37
  z31 := Tryz.sizeOf37
  v31 := Tryz.zeroValue37
  t46 := Tryz.underlying170
  a46 := Tryz.isAgg170
  z46 := Tryz.sizeOf170
  v46 := Tryz.zeroValue170
  t51 := Tryz.underlying205
  a51 := Tryz.isAgg205
  z51 := Tryz.sizeOf205
  v51 := Tryz.zeroValue205
  t105 := Tryz.underlying233
  a105 := Tryz.isAgg233
  z105 := Tryz.sizeOf233
  v105 := Tryz.zeroValue233
  t119 := Tryz.underlying264
  a119 := Tryz.isAgg264
  z119 := Tryz.sizeOf264
  t138 := Tryz.underlying266
  a138 := Tryz.isAgg266
  z138 := Tryz.sizeOf266
  v138 := Tryz.zeroValue266
  t139 := Tryz.underlying267
  a139 := Tryz.isAgg267
  z139 := Tryz.sizeOf267
  v139 := Tryz.zeroValue267
  t146 := Tryz.underlying206
  a146 := Tryz.isAgg206
  z146 := Tryz.sizeOf206
  v146 := Tryz.zeroValue206
  g1 := by kernel_rfl
  g3 := by kernel_rfl
  g4 := by kernel_rfl }
open Go.RowKit Go.Lib in
theorem Tryz.strings_Split (s sep : ByteArray) (m : Int) (w : World) (hs : s.size < 4294967281) (hm : w.cell? ⟨3, 0, none⟩ = some (.int .i64 m)) (h1 : 1 ≤ sep.size) :
    Calls Tryz.prog 97 #[.string s, .string sep] w fun e w' =>
      e = .returned (.slice (some ⟨w.heap.size, 0, none⟩) (Lib.countB s sep + 1) (Lib.countB s sep + 1)) ∧ w' = w.alloc (.cells ((Lib.splitB sep 0 (Lib.countB s sep) s).map Value.string).toArray 9) := Any.strings_Split Tryz.lays146 (by kernel_rfl) s sep m w hs hm h1
end Go.Proofs
namespace Go.Proofs.YtbmhaamenjhjfaaGreatDoor
open Go.RowKit Go.WideShapes Go.ChangeShapes
set_option linter.unusedVariables false
theorem countB_splR (c : UInt8) : ∀ (n : Nat) (l : List UInt8), l.length ≤ n → (splR c l).length = Lib.countB (sB l) { data := #[c] } + 1 := by
  intro n
  induction n with
  | zero =>
    intro l hl
    have : l = [] := List.length_eq_zero_iff.1 (by omega)
    subst this
    rw [splR_no (by simp), Lib.countB_miss]
    · rfl
    · show Lib.index (sB []).data.toList _ = -1
      exact index_no (by simp [sB])
  | succ n ih =>
    intro l hl
    rcases mem_cut c l with h | ⟨x, y, rfl, hx⟩
    · rw [splR_no h, Lib.countB_miss]
      · rfl
      · show Lib.index (sB l).data.toList _ = -1
        rw [sB_list]; exact index_no h
    · have h1 : Lib.indexB (sB (x ++ c :: y)) { data := #[c] } = (x.length : Int) := by
        show Lib.index (sB (x ++ c :: y)).data.toList _ = _
        rw [sB_list]; exact index_at hx y
      have h2 := Lib.countB_hit (sB (x ++ c :: y)) { data := #[c] } x.length (Nat.le_refl 1) h1
      rw [splR_cons hx, List.length_cons, h2, sB_size, sB_extract]
      have e : ((x ++ c :: y).drop (x.length + 1)).take ((x ++ c :: y).length - (x.length + 1)) = y := by
        have e0 : (x ++ c :: y).drop (x.length + 1) = y := by rw [← List.drop_drop, List.drop_left]; rfl
        rw [e0]
        exact List.take_of_length_le (by simp; omega)
      have e1 : (ByteArray.mk #[c]).size = 1 := rfl
      rw [e1, e, ih y (by simp at hl; omega)]
      omega
structure GlobD (w : World) (a0 a1 : Addr) : Prop where
  glob : Glob w
  tab : Lib.TabIs Tryz.prog w "internal/strconv.uint64pow10" .u64 Lib.pow10Tab
  what : w.cell? ⟨0, 0, none⟩ = some (.iface 269 (.pointer (some a0)))
  no : w.cell? ⟨1, 0, none⟩ = some (.iface 269 (.pointer (some a1)))
  ne : a0 ≠ a1
  blk0 : ∃ c t, w.heap[a0.block]? = some (.cells c t (0, 0))
  blk1 : ∃ c t, w.heap[a1.block]? = some (.cells c t (0, 0))
theorem blk_later {w w' : World} {b : Nat} {c : Array Value} {t : TypeId} (h : w.heap[b]? = some (.cells c t (0, 0))) (hb : Below w.heap.size w w') : w'.heap[b]? = some (.cells c t (0, 0)) := by
  refine (hb.block b ?_).trans h
  rcases Nat.lt_or_ge b w.heap.size with h1 | h1
  · exact h1
  · rw [Array.getElem?_eq_none h1] at h; cases h
theorem GlobD.later {w w' : World} {a0 a1 : Addr} (h : GlobD w a0 a1) (hb : Below w.heap.size w w') : GlobD w' a0 a1 := by
  obtain ⟨h1, h2, h3, h4, h5, ⟨c0, t0, h6⟩, ⟨c1, t1, h7⟩⟩ := h
  exact ⟨h1.later hb, Go.Joins.tab_stays (g := 6) (by kernel_rfl) h2 hb (Nat.le_refl _), cell_later h3 hb, cell_later h4 hb, h5, ⟨c0, t0, blk_later h6 hb⟩, ⟨c1, t1, blk_later h7 hb⟩⟩
theorem itoa_any (n : Nat) (w : World) {a0 a1 : Addr} (hG : GlobD w a0 a1) (hn : n ≤ 1000000000000) :
    Calls Tryz.prog 114 #[.int .i64 n] w fun r w' => r = .returned (.string (sB (decD n))) ∧ Below w.heap.size w w' := by
  refine (Tryz.strconv_Itoa (n : Int) (by omega) (by omega) w hG.tab).mono ?_
  rintro r w' ⟨rfl, k, os, rfl⟩
  refine ⟨?_, Lib.below_grow _ w (Nat.le_refl _) k os⟩
  rw [Lib.itoa_nonneg]
  rfl
theorem itoaT_any (x : Int) (w : World) {a0 a1 : Addr} (hG : GlobD w a0 a1) (h0 : 0 ≤ x) (hn : x ≤ 1000000000000) :
    Calls Tryz.prog 114 #[.int .i64 x] w fun r w' => r = .returned (.string (sB (numT x))) ∧ Below w.heap.size w w' := by
  obtain ⟨n, rfl⟩ := Int.eq_ofNat_of_zero_le h0
  exact itoa_any n w hG (by omega)
theorem l1NumT_any (x : Int) (w : World) (h0 : 0 ≤ x) (hn : x ≤ 1000000000000) :
    Calls Tryz.prog 85 #[.int .i64 x] w fun r w' => r = .returned (.string (sB (numT x))) ∧ Below w.heap.size w w' := by
  obtain ⟨n, rfl⟩ := Int.eq_ofNat_of_zero_le h0
  exact l1Num_dec n w (by omega)
end Go.Proofs.YtbmhaamenjhjfaaGreatDoor
namespace Go.Proofs.YtbmhaamenjhjfaaGreatDoor
open Go.RowKit Go.WideShapes Go.ChangeShapes
set_option linter.unusedVariables false
theorem numT_length {x : Int} (h : x ≤ 1000000000000) : (numT x).length ≤ 13 := decD_size _ (by omega)
theorem lisN_length {ls : List Int} (h : ∀ j, j < ls.length → ls.getD j 0 ≤ 1000000000000) (k : Nat) (hk : k ≤ ls.length) : (lisN ls k).length ≤ 14 * k := by
  induction k with
  | zero => simp [lisN]
  | succ k ih =>
    have h1 := numT_length (h k (by omega))
    have h2 := ih (by omega)
    rw [lisN]
    split
    · rw [List.length_append, List.length_nil]; omega
    · rw [List.length_append, List.length_append, List.length_singleton]; omega
def prtN (ls : List Int) (k : Nat) : List (List UInt8) := (List.range k).map fun j => numT (ls.getD j 0)
theorem prtN_length (ls : List Int) (k : Nat) : (prtN ls k).length = k := by simp [prtN]
theorem prtN_succ (ls : List Int) (k : Nat) : prtN ls (k + 1) = prtN ls k ++ [numT (ls.getD k 0)] := by simp [prtN, List.range_succ]
theorem prtN_ne (ls : List Int) (k : Nat) (h : 1 ≤ k) : prtN ls k ≠ [] := by
  intro e
  have := prtN_length ls k
  rw [e] at this
  simp at this; omega
theorem join_lisN (ls : List Int) (k : Nat) : Lib.join (prtN ls k) [44] = lisN ls k := by
  induction k with
  | zero => rfl
  | succ k ih =>
    rw [prtN_succ, lisN]
    rcases Nat.eq_zero_or_pos k with rfl | h
    · rw [if_pos rfl]; simp [prtN, Lib.join]
    · rw [if_neg (by omega), join_snoc _ _ _ (prtN_ne ls k h), ih]
theorem join_any (sep : UInt8) (v : Value) (ls : List (List UInt8)) (B : Nat) (w : World) (h : StrOwn 9 w B v ls) (hne : ls ≠ []) (hlen : (Lib.join ls [sep]).length ≤ 1048576) (hl : ls.length ≤ 1048576) :
    Calls Tryz.prog 167 #[v, .string { data := #[sep] }] w fun e w' => e = .returned (.string (sB (Lib.join ls [sep]))) ∧ Below w.heap.size w w' := by
  have h2 : w.ownsRow B 9 1 v ls.length (strs ls) := h
  obtain ⟨g, cap, rfl, hB, hg⟩ := h2.form (List.length_pos_iff.2 hne)
  have hcap : ls.length ≤ cap := by
    rcases h2.2 with ⟨e, -⟩ | ⟨g', cap', cur, e, -, -, h1, -⟩
    · cases e
    · injection e with e1 e2 e3
      omega
  have hbytes : Lib.join ((ls.map sB).map (·.data.toList)) [sep] = Lib.join ls [sep] := by
    rw [List.map_map]
    congr 1
    have : ((fun x : ByteArray => x.data.toList) ∘ sB) = id := by funext l; show l.toArray.toList = l; simp
    rw [this, List.map_id]
  have hJ := Tryz.strings_Join g 0 cap (ls.map sB) { data := #[sep] } w (fun j x hx => by
    have hj : j < ls.length := by have := (List.getElem?_eq_some_iff.1 hx).1; simpa using this
    have hcell := h2.cellAt j (by omega)
    rw [Nat.zero_add, hcell]
    rw [List.getElem?_map] at hx
    unfold strs
    rw [List.getElem?_map]
    cases hq : ls[j]? with
    | none => rw [hq] at hx; cases hx
    | some z => rw [hq] at hx; simp only [Option.map_some, Option.some.injEq] at hx ⊢; rw [hx]) hg (by rw [List.length_map]; omega) (by rw [List.length_map]; omega) (by
      show (Lib.join ((ls.map sB).map (·.data.toList)) [sep]).length ≤ _
      rw [hbytes]; omega)
  rw [List.length_map] at hJ
  refine hJ.mono fun e w' h => ⟨h.1.trans ?_, h.2⟩
  have e1 : (⟨(Lib.join ((ls.map sB).map (·.data.toList)) (ByteArray.mk #[sep]).data.toList).toArray⟩ : ByteArray) = sB (Lib.join ls [sep]) := by
    show sB (Lib.join ((ls.map sB).map (·.data.toList)) [sep]) = _
    rw [hbytes]
  rw [e1]
theorem ret_tsb {a b : ByteArray} {c d : Bool} (h : a = b) (k : c = d) : Ending.returned (.tuple #[.string a, .bool c]) = .returned (.tuple #[.string b, .bool d]) := by rw [h, k]
def nmI (l : List UInt8) : Int := if 0 ≤ readL l then readL l else 0
def nmB (l : List UInt8) : Bool := decide (0 ≤ readL l)
theorem nm_yes {l : List UInt8} {n : Int} (h : readL l = n) (h0 : 0 ≤ n) : nmI l = n ∧ nmB l = true := by
  unfold nmI nmB; rw [h, if_pos h0]; exact ⟨rfl, decide_eq_true h0⟩
theorem nm_no {l : List UInt8} (h : ¬ 0 ≤ readL l) : nmI l = 0 ∧ nmB l = false := by
  unfold nmI nmB; rw [if_neg h]; exact ⟨rfl, decide_eq_false h⟩
theorem numberIn_any (l : List UInt8) (w : World) {a0 a1 : Addr} (hG : GlobD w a0 a1) (hl : l.length ≤ 1048576) :
    Calls Tryz.prog 98 #[.string (sB l)] w fun r w' => r = .returned (.tuple #[.int .i64 (nmI l), .bool (nmB l)]) ∧ Below w.heap.size w w' := by
  have HG := hid hG
  clear hG
  have HRd := hid (fun h => readL_atoi (l := l) h)
  go_enter Tryz.func98, Tryz.ntmps98
  go_wp2_with fail
  refine (atoi_any l _ HG.out.glob hl).mono ?_
  rintro e w1 ⟨n, ev, rfl, hcase, hb⟩
  have HB := hid hb
  clear hb
  rcases hcase with ⟨ha, rfl, hwf⟩ | ⟨ha, t, p, rfl⟩
  · by_cases hr : 0 ≤ n ∧ n ≤ 999999
    · obtain ⟨h0, h1⟩ := hr
      have hni := number_iff ha h0 h1
      have hn0 : ¬ n < 0 := by omega
      have hn1 : ¬ (999999 < n) := by omega
      have hG1 := hid (HG.out.later HB.out)
      by_cases hq : decD n.toNat = l
      · have HR := hid (nm_yes (hni.1 hq) h0)
        have hq2 : sB (decD n.toNat) = sB l := by rw [hq]
        have HQ := hid hq2
        clear ha hni hq hq2 hwf
        go_wp2_with fail
        refine (itoaT_any n _ hG1.out h0 (by omega)).mono ?_
        rintro e w2 ⟨rfl, hb2⟩
        have hs : sB (numT n) = sB l := HQ.out
        rw [hs]
        go_wp2
        go_ret2
        refine ⟨?_, below_to HB.out hb2⟩
        rw [HR.out.1, HR.out.2]
        rfl
      · have hneg : ¬ 0 ≤ readL l := fun h => by
          have h2 := (HRd.out h).1
          rw [ha] at h2
          injection h2 with h2
          exact hq (hni.2 h2.symm)
        have HN := hid (nm_no hneg)
        have HQ := hid (show ¬ numT n = l from hq)
        clear ha hni hq hneg hwf
        go_wp2_with fail
        refine (itoaT_any n _ hG1.out h0 (by omega)).mono ?_
        rintro e w2 ⟨rfl, hb2⟩
        obtain ⟨x, hx⟩ : ∃ x, sB (numT n) = x := ⟨_, rfl⟩
        obtain ⟨y, hy⟩ : ∃ y, sB l = y := ⟨_, rfl⟩
        have hxy : (x.toList == y.toList) = false := by rw [← hx, ← hy, sB_toList, sB_toList]; exact beq_eq_false_iff_ne.2 HQ.out
        rw [hx, hy]
        clear hx hy
        go_wp2
        go_ret2
        refine ⟨?_, below_to HB.out hb2⟩
        rw [HN.out.1, HN.out.2]
        rfl
    · have hneg : ¬ 0 ≤ readL l := fun h => by
        have h2 := (HRd.out h)
        rw [ha] at h2
        obtain ⟨h2, h3⟩ := h2
        injection h2 with h2
        exact hr ⟨by omega, by omega⟩
      have HN := hid (nm_no hneg)
      by_cases h0 : n < 0
      · clear ha hneg hr hwf
        go_wp2
        go_ret2
        refine ⟨?_, HB.out⟩
        rw [HN.out.1, HN.out.2]
        rfl
      · have h1 : 999999 < n := by omega
        clear ha hneg hr hwf
        go_wp2
        go_ret2
        refine ⟨?_, HB.out⟩
        rw [HN.out.1, HN.out.2]
        rfl
  · have hneg : ¬ 0 ≤ readL l := fun h => ha _ (HRd.out h).1
    have HN := hid (nm_no hneg)
    clear ha hneg
    go_wp2
    go_ret2
    refine ⟨?_, HB.out⟩
    rw [HN.out.1, HN.out.2]
    rfl
theorem numberText_any (x : Int) (b : Bool) (w : World) {a0 a1 : Addr} (hG : GlobD w a0 a1) (h0 : 0 ≤ x) (hn : x ≤ 1000000000000) :
    Calls Tryz.prog 115 #[.int .i64 x, .bool b] w fun r w' => r = .returned (.tuple #[.string (sB (numT x)), .bool b]) ∧ Below w.heap.size w w' := by
  have HG := hid hG
  clear hG
  go_enter Tryz.func115, Tryz.ntmps115
  go_wp2_with fail
  refine (itoaT_any x _ HG.out h0 hn).mono ?_
  rintro e w1 ⟨rfl, hb⟩
  go_wp2
  go_ret2
  exact ⟨rfl, hb⟩
theorem evenText_any (b c : Bool) (w : World) :
    Calls Tryz.prog 124 #[.bool b, .bool c] w fun r w' => r = .returned (.tuple #[.string (sB (if b then [121, 101, 115] else [117, 110, 108, 105, 107, 101])), .bool c]) ∧ Below w.heap.size w w' := by
  cases b
  · go_enter Tryz.func124, Tryz.ntmps124
    go_wp2
    go_ret2
    exact ⟨rfl, Below.refl _ _⟩
  · go_enter Tryz.func124, Tryz.ntmps124
    go_wp2
    go_ret2
    exact ⟨rfl, Below.refl _ _⟩
theorem fractionText_any (x y : Int) (b : Bool) (w : World) {a0 a1 : Addr} (hG : GlobD w a0 a1) (h0 : 0 ≤ x) (hn : x ≤ 1000000000000) (k0 : 0 ≤ y) (kn : y ≤ 1000000000000) :
    Calls Tryz.prog 122 #[.int .i64 x, .int .i64 y, .bool b] w fun r w' => r = .returned (.tuple #[.string (sB ((numT x ++ [47]) ++ numT y)), .bool b]) ∧ Below w.heap.size w w' := by
  have HG := hid hG
  clear hG
  have l1 := numT_length hn
  have l2 := numT_length kn
  have Ha1 := hid (fun W => run_sBc (numT x) 47 (by omega) W)
  have Ha2 := hid (fun W => run_sB (numT x ++ [47]) (numT y) (by simp; omega) W)
  obtain ⟨T1, hT1⟩ : ∃ T1, numT x ++ [47] = T1 := ⟨_, rfl⟩
  obtain ⟨T2, hT2⟩ : ∃ T2, T1 ++ numT y = T2 := ⟨_, rfl⟩
  rw [hT1] at Ha1 Ha2 ⊢
  rw [hT2] at Ha2 ⊢
  clear l1 l2 hT1 hT2
  go_enter Tryz.func122, Tryz.ntmps122
  go_wp2_with fail
  refine (itoaT_any x _ HG.out h0 hn).mono ?_
  rintro e w1 ⟨rfl, hb⟩
  have HB := hid hb
  have HG1 := hid (HG.out.later hb)
  have ha1 := Ha1.out
  clear hb
  go_wp2_with fail
  refine (itoaT_any y _ HG1.out k0 kn).mono ?_
  rintro e w2 ⟨rfl, hb2⟩
  have ha2 := Ha2.out
  go_wp2
  go_ret2
  exact ⟨rfl, below_to HB.out hb2⟩
theorem listText_any (v : Value) (ls : List Int) (b : Bool) (w : World) {a0 a1 : Addr} (hG : GlobD w a0 a1) (hv : Ints w v ls) (hne : 1 ≤ ls.length) (hl : ls.length ≤ 2000) (hx : ∀ j, j < ls.length → 0 ≤ ls.getD j 0 ∧ ls.getD j 0 ≤ 1000000) :
    Calls Tryz.prog 117 #[v, .bool b] w fun r w' => r = .returned (.tuple #[.string (sB (lisT ls)), .bool b]) ∧ Below w.heap.size w w' := by
  have HG := hid hG
  have HV := hid hv
  have HX := hid hx
  obtain ⟨A, c, rfl, -⟩ := hv
  obtain ⟨n, hn⟩ : ∃ n, ls.length = n := ⟨_, rfl⟩
  have HN := hid hn
  rw [hn] at hne hl HV ⊢
  clear hG hx hn
  go_enter Tryz.func117, Tryz.ntmps117
  go_wp2
  go_loopw [6, 11] (fun q i wr => ∃ k : Nat, k ≤ n ∧ i = .int .i64 k ∧ StrOwn 9 wr w.heap.size q (prtN ls k) ∧ Below w.heap.size w wr) (fun _ i _ => n - (intOf i).toNat)
  case atStart => exact ⟨0, Nat.zero_le _, rfl, StrOwn.nil _ _ _, Below.refl _ _⟩
  case round =>
    obtain ⟨k, hk, rfl, ho, hb⟩ := hrel
    have HO := hid ho
    have HB := hid hb
    have hwz := hb.size
    clear hb
    by_cases hkl : k < n
    · obtain ⟨pA, pc, rfl⟩ := ho.shape3
      have hpl := prtN_length ls k
      have HS := hid (prtN_succ ls k)
      obtain ⟨x, hx⟩ : ∃ x, ls.getD k 0 = x := ⟨_, rfl⟩
      have h01 := HX.out k (by rw [HN.out]; exact hkl)
      have HIk := hid (HV.out.below HB.out)
      obtain ⟨A', c', eA, hA'⟩ := HIk.out
      injection eA with e1 e2 e3
      subst e1
      obtain ⟨bA, oA, rfl, -, hcc⟩ := hA' (by intro h0; have := HN.out; rw [h0] at this; simp at this; omega)
      have hck := hcc k (by rw [HN.out]; exact hkl)
      rw [hx] at hck HS h01
      rw [hpl] at HO ⊢
      clear ho hx hA' hcc e2 e3
      have HG2 := hid (HG.out.later HB.out)
      go_wp2_with fail
      clear hck
      refine (itoaT_any x _ HG2.out h01.1 (by omega)).mono ?_
      rintro e w2 ⟨rfl, hb2⟩
      have HB2 := hid (below_to HB.out hb2)
      have HO2 := hid (HO.out.below hb2)
      have hz2 := HB2.out.size
      clear hb2 HO
      go_wp2_with (at_builtin; refine wpList_append_str rfl _ _ 37 9 rfl Tryz.underlying37 Tryz.info9 w.heap.size _ (prtN ls k) (numT x) rfl HO2.out rfl rfl (by omega) (by omega) ?_; rintro q3 w3 ho3 hb3)
      have hO3 : StrOwn 9 w3 w.heap.size q3 (prtN ls (k + 1)) := by rw [HS.out]; exact ho3
      go_roundw
      case rel => exact ⟨k + 1, by omega, by go_num, hO3, HB2.out.trans hb3⟩
      case measure => simp [intOf] <;> omega
    · obtain rfl : k = n := by omega
      have HJ := hid (join_lisN ls k)
      have hln := lisN_length (fun j hj => by have := (HX.out j hj).2; omega) k (by rw [HN.out]; exact Nat.le_refl _)
      have hLT : lisT ls = lisN ls k := by unfold lisT; rw [HN.out]
      have HT := hid hLT
      obtain ⟨pA, pc, rfl⟩ := ho.shape3
      clear ho hLT
      go_wp2_with fail
      refine (join_any 44 _ (prtN ls k) _ _ HO.out (prtN_ne ls k hne) (by rw [HJ.out]; omega) (by rw [prtN_length]; omega)).mono ?_
      rw [HJ.out]
      rintro e w3 ⟨rfl, hb3⟩
      go_wp2
      go_ret2
      exact ⟨ret_tsb (by rw [HT.out]) rfl, below_to HB.out hb3⟩
end Go.Proofs.YtbmhaamenjhjfaaGreatDoor
