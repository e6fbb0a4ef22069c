/-
  Own text. Contracts of the library at this program's numbers, each one application of the shelf's own theorem: laysGg6, stringslite_Clone, strconv_Itoa, strings_Join, strings_Join_none, strings_Split, strings_CutPrefix, strings_Cut, Builder_String.
  Own text. Texts of IDs: print.Text and the document's IDText by contracts. Condition of print.Text: strconv's table of powers of ten lies as the program's text lays it.
  Own text. A right recipe as a text, pure, and the document's RecipeText by a contract.
  Own text. Pure: where a text's pieces end (the document's chapter 2): the window of the last eight bytes, the first piece, all pieces, the ends.
-/
import Derived.Shelf.Strings.Builder1
import Derived.Shelf.Strings.Builder2
import Derived.Shelf.Strings.OnBuilder
import Derived.Shelf.Small.Bits
import Derived.Shelf.Small.Wraps
import Derived.Shelf.Strings.BuilderF
import Derived.Shelf.Strings.BuilderK
import Derived.Shelf.Utf8.RuneCount
import Derived.Shelf.Strconv.Itoa0
import Derived.Shelf.Strconv.Itoa1
import Derived.Shelf.LaysM
import Derived.Shelf.Strconv.Itoa2
import Derived.Shelf.Strconv.Itoa3
import Derived.Shelf.Strconv.Clone
import Derived.Shelf.Strings.Search1
import Derived.Shelf.Strings.Search2
import Derived.Shelf.Strings.Search3
import Derived.Shelf.Strings.Cut
import Derived.Shelf.Strings.Count
import Derived.Shelf.Strings.Shaped
import Derived.Shelf.Sort.Plain
import Derived.Ground.GgsProg
import Derived.Shelf.GgSortFunc.Insertion
import Derived.Shelf.GgSortFunc.Small
import Derived.Shelf.GgSortFunc.InsertionK
import Derived.Shelf.GgSortFunc.SmallK
import Derived.Shelf.GgSortFunc.Tiny
import Derived.Shelf.GgSortFunc.Compose
import Derived.Shelf.GgSortFunc.LotD
import Derived.Shelf.Strings.Prefix
import Derived.Shelf.Strings.Split
import Derived.Shelf.Strings.SplitShaped
import Derived.Shelf.Unicode.Decode
import Derived.Shelf.Strings.RuneCount
import Derived.Shelf.Strings.Explode
import Derived.Shelf.Unicode.DecodeSlow
import Derived.Shelf.Unicode.DecodeAny
import Derived.Shelf.Slices.In.SortNone
import Derived.Shelf.SlSortFunc.Xorshift
import Derived.Shelf.SlSortFuncK.ComposeK
import Derived.Shelf.SlSortFuncK.SiftDownK
import Derived.Shelf.SlSortFuncK.HeapSortK
import Derived.Shelf.SlSortFuncK.PartialInsertionK
import Derived.Shelf.SlSortFuncK.LotDK
import Derived.Shelf.SlSortFuncK.PivotK
import Derived.Shelf.SlSortFuncK.PartitionK
import Derived.Shelf.SlSortFuncK.PdqK
import Derived.Shelf.SlSortFuncK.WholeK
import Derived.Test.YtcbcjefefmbccabGreatDoorProg
import Derived.Test.YtcbcjefefmbccabGreatDoorS05
import Derived.Deep.RegionWith
import Derived.Lib.SmallJoins
import Derived.Lib.ItoaMem
namespace Go.Proofs
open Go.Shelf
def Tryz.lays169_ren : Go.Shelf.Ren := ⟨fun | 169 => 152 | n => n, fun | 70 => 224 | 9 => 9 | 0 => 0 | 72 => 226 | 37 => 82 | 127 => 271 | 3 => 3 | 5 => 5 | n => n, fun | n => n⟩
theorem Tryz.lays169 : Go.Proofs.Lays.n169 Tryz.prog Tryz.lays169_ren := {
  mixed := by kernel_rfl
  f169 := Tryz.func152.trans (congrArg some (by kernel_rfl))
  t0 := Tryz.underlying0
  a0 := Tryz.isAgg0
  z0 := Tryz.sizeOf0
  v0 := Tryz.zeroValue0
  t3 := Tryz.underlying3
  a3 := Tryz.isAgg3
  z3 := Tryz.sizeOf3
  v3 := Tryz.zeroValue3
  t9 := Tryz.underlying9
  a9 := Tryz.isAgg9
  z9 := Tryz.sizeOf9
  v9 := Tryz.zeroValue9
  t37 := Tryz.underlying82
  a37 := Tryz.isAgg82
  z37 := Tryz.sizeOf82
  v37 := Tryz.zeroValue82
  t70 := Tryz.underlying224
  a70 := Tryz.isAgg224
  z70 := Tryz.sizeOf224
  v70 := Tryz.zeroValue224
  t72 := Tryz.underlying226
  a72 := Tryz.isAgg226
  z72 := Tryz.sizeOf226
  v72 := Tryz.zeroValue226
  t127 := Tryz.underlying271
  a127 := Tryz.isAgg271
  z127 := Tryz.sizeOf271
  v127 := Tryz.zeroValue271 }
theorem Tryz.Builder_Extra_169 : Builder.Extra Tryz.prog Tryz.lays169_ren := {
  sizeBuilder := by kernel_rfl
  liesBuilder := by kernel_rfl
  t5 := Tryz.underlying5
  a5 := Tryz.isAgg5
  z5 := Tryz.sizeOf5
  v5 := Tryz.zeroValue5
  infoByte := by kernel_rfl
  cellsByte := by kernel_rfl
  sizeByte := by kernel_rfl
  neB5 := by decide }
open Go.RowKit in
theorem Tryz.Builder_String (B b : Nat) (l : List UInt8) (w : World) (h : Lib.IsBuilder 226 5 B b (Lib.byteCells l) w) (h0 : l ≠ []) :
    Calls Tryz.prog 152 #[.pointer (some ⟨b, 0, none⟩)] w fun e w' => e = .returned (.string ⟨l.toArray⟩) ∧ Below B w w' := Any.Builder_String Tryz.lays169 Tryz.Builder_Extra_169 B b l w h h0
def Tryz.lays156_ren : Go.Shelf.Ren := ⟨fun | 156 => 158 | 165 => 215 | 166 => 149 | 169 => 152 | 240 => 203 | 241 => 244 | 276 => 236 | 277 => 260 | n => n, fun | 31 => 73 | 9 => 9 | 3 => 3 | 4 => 4 | 0 => 0 | 20 => 20 | 72 => 226 | 76 => 69 | 70 => 224 | 37 => 82 | 75 => 42 | 127 => 271 | 164 => 212 | 5 => 5 | 80 => 229 | n => n, fun | n => n⟩
theorem Tryz.lays156 : Go.Proofs.Lays.n156 Tryz.prog Tryz.lays156_ren := {
  mixed := by kernel_rfl
  f156 := Tryz.func158.trans (congrArg some (by kernel_rfl))
  f165 := Tryz.func215.trans (congrArg some (by kernel_rfl))
  f166 := Tryz.func149.trans (congrArg some (by kernel_rfl))
  f169 := Tryz.func152.trans (congrArg some (by kernel_rfl))
  f240 := Tryz.func203.trans (congrArg some (by kernel_rfl))
  f241 := Tryz.func244.trans (congrArg some (by kernel_rfl))
  f276 := Tryz.func236.trans (congrArg some (by kernel_rfl))
  f277 := Tryz.func260.trans (congrArg some (by kernel_rfl))
  t0 := Tryz.underlying0
  a0 := Tryz.isAgg0
  z0 := Tryz.sizeOf0
  v0 := Tryz.zeroValue0
  t3 := Tryz.underlying3
  a3 := Tryz.isAgg3
  z3 := Tryz.sizeOf3
  v3 := Tryz.zeroValue3
  t4 := Tryz.underlying4
  a4 := Tryz.isAgg4
  z4 := Tryz.sizeOf4
  v4 := Tryz.zeroValue4
  t9 := Tryz.underlying9
  a9 := Tryz.isAgg9
  z9 := Tryz.sizeOf9
  v9 := Tryz.zeroValue9
  t20 := Tryz.underlying20
  a20 := Tryz.isAgg20
  z20 := Tryz.sizeOf20
  v20 := Tryz.zeroValue20
  t31 := Tryz.underlying73
  a31 := Tryz.isAgg73
  z31 := Tryz.sizeOf73
  v31 := Tryz.zeroValue73
  t37 := Tryz.underlying82
  a37 := Tryz.isAgg82
  z37 := Tryz.sizeOf82
  v37 := Tryz.zeroValue82
  t70 := Tryz.underlying224
  a70 := Tryz.isAgg224
  z70 := Tryz.sizeOf224
  v70 := Tryz.zeroValue224
  t72 := Tryz.underlying226
  a72 := Tryz.isAgg226
  z72 := Tryz.sizeOf226
  v72 := Tryz.zeroValue226
  t75 := Tryz.underlying42
  a75 := Tryz.isAgg42
  z75 := Tryz.sizeOf42
  v75 := Tryz.zeroValue42
  t76 := Tryz.underlying69
  a76 := Tryz.isAgg69
  z76 := Tryz.sizeOf69
  v76 := Tryz.zeroValue69
  t127 := Tryz.underlying271
  a127 := Tryz.isAgg271
  z127 := Tryz.sizeOf271
  v127 := Tryz.zeroValue271
  t164 := Tryz.underlying212
  a164 := Tryz.isAgg212
  z164 := Tryz.sizeOf212
  v164 := Tryz.zeroValue212 }
theorem Tryz.Builder_Extra_156 : Builder.Extra Tryz.prog Tryz.lays156_ren := {
  sizeBuilder := by kernel_rfl
  liesBuilder := by kernel_rfl
  t5 := Tryz.underlying5
  a5 := Tryz.isAgg5
  z5 := Tryz.sizeOf5
  v5 := Tryz.zeroValue5
  infoByte := by kernel_rfl
  cellsByte := by kernel_rfl
  sizeByte := by kernel_rfl
  neB5 := by decide }
open Go.RowKit in
theorem Tryz.strings_Join_none (a : Option Addr) (c : Nat) (sep : ByteArray) (w : World) :
    Calls Tryz.prog 158 #[.slice a 0 c, .string sep] w fun e w' => e = .returned (.string ⟨#[]⟩) ∧ w' = w := Any.strings_Join_none Tryz.lays156 Tryz.Builder_Extra_156 a c sep w
open Go.RowKit in
theorem Tryz.strings_Join (bk o c : Nat) (xs : List ByteArray) (sep : ByteArray) (w : World) (hcells : ∀ (j : Nat) x, xs[j]? = some x → w.cell? ⟨bk, o + j, none⟩ = some (.string x)) (hbk : bk < w.heap.size) (hN : xs.length ≤ 140737488355328) (hcap : xs.length ≤ c) (hlen : (Lib.join (xs.map (·.data.toList)) sep.data.toList).length ≤ 140737488355328) :
    Calls Tryz.prog 158 #[.slice (some ⟨bk, o, none⟩) xs.length c, .string sep] w fun e w' => e = .returned (.string ⟨(Lib.join (xs.map (·.data.toList)) sep.data.toList).toArray⟩) ∧ Below w.heap.size w w' := Any.strings_Join Tryz.lays156 Tryz.Builder_Extra_156 bk o c xs sep w hcells hbk hN hcap hlen
def Tryz.lays103_ren : Go.Shelf.Ren := ⟨fun | 103 => 270 | 210 => 278 | 206 => 282 | n => n, fun | 9 => 9 | 4 => 4 | 24 => 343 | 3 => 3 | n => n, fun | n => n⟩
theorem Tryz.lays103 : Go.Proofs.Lays.n103 Tryz.prog Tryz.lays103_ren := {
  mixed := by kernel_rfl
  f103 := Tryz.func270.trans (congrArg some (by kernel_rfl))
  f206 := Tryz.func282.trans (congrArg some (by kernel_rfl))
  f210 := Tryz.func278.trans (congrArg some (by kernel_rfl))
  t3 := Tryz.underlying3
  a3 := Tryz.isAgg3
  z3 := Tryz.sizeOf3
  v3 := Tryz.zeroValue3
  t4 := Tryz.underlying4
  a4 := Tryz.isAgg4
  z4 := Tryz.sizeOf4
  v4 := Tryz.zeroValue4
  t9 := Tryz.underlying9
  a9 := Tryz.isAgg9
  z9 := Tryz.sizeOf9
  v9 := Tryz.zeroValue9
  t24 := Tryz.underlying343
  a24 := Tryz.isAgg343
  z24 := Tryz.sizeOf343
  v24 := Tryz.zeroValue343 }
open Go.RowKit in
theorem Tryz.strings_CutPrefix (s p : ByteArray) (w : World) :
    Calls Tryz.prog 270 #[.string s, .string p] w fun e w' => e = .returned (.tuple #[.string ⟨(Lib.trimPrefix s.data.toList p.data.toList).toArray⟩, .bool (Lib.hasPrefix s.data.toList p.data.toList)]) ∧ w' = w := Any.strings_CutPrefix Tryz.lays103 s p w
def Tryz.laysM171_ren : Go.Shelf.Ren := ⟨fun | 171 => 151 | 243 => 204 | 246 => 237 | 283 => 252 | 284 => 253 | 285 => 254 | 286 => 255 | 129 => 193 | 317 => 262 | 318 => 263 | 319 => 264 | 320 => 265 | 337 => 274 | 338 => 275 | n => n, fun | 3 => 3 | 9 => 9 | 2 => 2 | 4 => 4 | 171 => 326 | 0 => 0 | 53 => 263 | 37 => 82 | 5 => 5 | 173 => 328 | 212 => 339 | 51 => 23 | 20 => 20 | 213 => 340 | 46 => 220 | 232 => 350 | 233 => 351 | n => n, fun | 17 => 13 | 18 => 15 | 19 => 16 | n => n⟩
theorem Tryz.laysM171 : Go.Proofs.LaysM.n171 Tryz.prog Tryz.laysM171_ren := {
  mixed := by kernel_rfl
  f129 := Tryz.func193.trans (congrArg some (by kernel_rfl))
  f171 := Tryz.func151.trans (congrArg some (by kernel_rfl))
  f243 := Tryz.func204.trans (congrArg some (by kernel_rfl))
  f246 := Tryz.func237.trans (congrArg some (by kernel_rfl))
  f283 := Tryz.func252.trans (congrArg some (by kernel_rfl))
  f284 := Tryz.func253.trans (congrArg some (by kernel_rfl))
  f285 := Tryz.func254.trans (congrArg some (by kernel_rfl))
  f286 := Tryz.func255.trans (congrArg some (by kernel_rfl))
  f317 := Tryz.func262.trans (congrArg some (by kernel_rfl))
  f318 := Tryz.func263.trans (congrArg some (by kernel_rfl))
  f319 := Tryz.func264.trans (congrArg some (by kernel_rfl))
  f320 := Tryz.func265.trans (congrArg some (by kernel_rfl))
  f337 := Tryz.func274.trans (congrArg some (by kernel_rfl))
  f338 := Tryz.func275.trans (congrArg some (by kernel_rfl))
  t0 := Tryz.underlying0
  a0 := Tryz.isAgg0
  z0 := Tryz.sizeOf0
  v0 := Tryz.zeroValue0
  t2 := Tryz.underlying2
  a2 := Tryz.isAgg2
  z2 := Tryz.sizeOf2
  v2 := Tryz.zeroValue2
  t3 := Tryz.underlying3
  a3 := Tryz.isAgg3
  z3 := Tryz.sizeOf3
  v3 := Tryz.zeroValue3
  t4 := Tryz.underlying4
  a4 := Tryz.isAgg4
  z4 := Tryz.sizeOf4
  v4 := Tryz.zeroValue4
  t5 := Tryz.underlying5
  a5 := Tryz.isAgg5
  z5 := Tryz.sizeOf5
  v5 := Tryz.zeroValue5
  t9 := Tryz.underlying9
  a9 := Tryz.isAgg9
  z9 := Tryz.sizeOf9
  v9 := Tryz.zeroValue9
  t20 := Tryz.underlying20
  a20 := Tryz.isAgg20
  z20 := Tryz.sizeOf20
  v20 := Tryz.zeroValue20
  t37 := Tryz.underlying82
  a37 := Tryz.isAgg82
  z37 := Tryz.sizeOf82
  v37 := Tryz.zeroValue82
  t46 := Tryz.underlying220
  a46 := Tryz.isAgg220
  z46 := Tryz.sizeOf220
  v46 := Tryz.zeroValue220
  t51 := Tryz.underlying23
  a51 := Tryz.isAgg23
  z51 := Tryz.sizeOf23
  v51 := Tryz.zeroValue23
  t53 := Tryz.underlying263
  a53 := Tryz.isAgg263
  z53 := Tryz.sizeOf263
  v53 := Tryz.zeroValue263
  t171 := Tryz.underlying326
  a171 := Tryz.isAgg326
  z171 := Tryz.sizeOf326
  v171 := Tryz.zeroValue326
  t173 := Tryz.underlying328
  a173 := Tryz.isAgg328
  z173 := Tryz.sizeOf328
  v173 := Tryz.zeroValue328
  t212 := Tryz.underlying339
  a212 := Tryz.isAgg339
  z212 := Tryz.sizeOf339
  v212 := Tryz.zeroValue339
  t213 := Tryz.underlying340
  a213 := Tryz.isAgg340
  z213 := Tryz.sizeOf340
  t232 := Tryz.underlying350
  a232 := Tryz.isAgg350
  z232 := Tryz.sizeOf350
  v232 := Tryz.zeroValue350
  t233 := Tryz.underlying351
  a233 := Tryz.isAgg351
  z233 := Tryz.sizeOf351
  v233 := Tryz.zeroValue351
  g17 := by kernel_rfl
  g18 := by kernel_rfl
  g19 := by kernel_rfl
  i0 := by kernel_rfl
  i2 := by kernel_rfl
  i3 := by kernel_rfl
  i4 := by kernel_rfl
  i5 := by kernel_rfl
  i9 := by kernel_rfl
  i20 := by kernel_rfl
  i37 := by kernel_rfl
  i46 := by kernel_rfl
  i51 := by kernel_rfl
  i53 := by kernel_rfl
  i171 := by kernel_rfl
  i173 := by kernel_rfl
  i212 := by kernel_rfl
  i232 := by kernel_rfl
  i233 := by kernel_rfl
  m17 := by kernel_rfl
  m18 := by kernel_rfl
  m19 := by kernel_rfl }
open Go.RowKit Go.Sort Go.Lib in
theorem Tryz.strconv_Itoa (n : Int) (h0 : -9223372036854775808 ≤ n) (h1 : n ≤ 9223372036854775807) (w : World) (htab : Lib.TabIs Tryz.prog w "internal/strconv.uint64pow10" .u64 Lib.pow10Tab) :
    Calls Tryz.prog 151 #[.int .i64 n] w fun e w' => e = .returned (.string ⟨(Lib.itoa n).toArray⟩) ∧ ∃ k os, w' = grow (w.drewN k) os := Any.strconv_Itoa Tryz.laysM171 n h0 h1 w htab
def Tryz.laysM316_ren : Go.Shelf.Ren := ⟨fun | 316 => 181 | n => n, fun | 9 => 9 | 3 => 3 | 4 => 4 | 37 => 82 | 0 => 0 | 127 => 271 | 5 => 5 | n => n, fun | n => n⟩
theorem Tryz.laysM316 : Go.Proofs.LaysM.n316 Tryz.prog Tryz.laysM316_ren := {
  mixed := by kernel_rfl
  f316 := Tryz.func181.trans (congrArg some (by kernel_rfl))
  t0 := Tryz.underlying0
  a0 := Tryz.isAgg0
  z0 := Tryz.sizeOf0
  v0 := Tryz.zeroValue0
  t3 := Tryz.underlying3
  a3 := Tryz.isAgg3
  z3 := Tryz.sizeOf3
  v3 := Tryz.zeroValue3
  t4 := Tryz.underlying4
  a4 := Tryz.isAgg4
  z4 := Tryz.sizeOf4
  v4 := Tryz.zeroValue4
  t9 := Tryz.underlying9
  a9 := Tryz.isAgg9
  z9 := Tryz.sizeOf9
  v9 := Tryz.zeroValue9
  t37 := Tryz.underlying82
  a37 := Tryz.isAgg82
  z37 := Tryz.sizeOf82
  v37 := Tryz.zeroValue82
  t127 := Tryz.underlying271
  a127 := Tryz.isAgg271
  z127 := Tryz.sizeOf271
  v127 := Tryz.zeroValue271
  t5 := Tryz.underlying5
  a5 := Tryz.isAgg5
  z5 := Tryz.sizeOf5
  v5 := Tryz.zeroValue5
  i0 := by kernel_rfl
  i3 := by kernel_rfl
  i4 := by kernel_rfl
  i5 := by kernel_rfl
  i9 := by kernel_rfl
  i37 := by kernel_rfl
  i127 := by kernel_rfl }
open Go.RowKit in
theorem Tryz.stringslite_Clone (s : ByteArray) (w : World) (hlim : s.size ≤ 281474976710656) :
    Calls Tryz.prog 181 #[.string s] w fun e w' => e = .returned (.string s) ∧ Below w.heap.size w w' := Any.stringslite_Clone Tryz.laysM316 s w hlim
def Tryz.lays145_ren : Go.Shelf.Ren := ⟨fun | 145 => 206 | 220 => 238 | 219 => 256 | 217 => 266 | 225 => 267 | 224 => 268 | 267 => 269 | 266 => 276 | 314 => 277 | n => n, fun | 9 => 9 | 4 => 4 | 59 => 272 | 3 => 3 | 5 => 5 | 46 => 220 | 146 => 346 | 51 => 23 | n => n, fun | 1 => 14 | n => n⟩
theorem Tryz.lays145 : Go.Proofs.Lays.n145 Tryz.prog Tryz.lays145_ren := {
  mixed := by kernel_rfl
  f145 := Tryz.func206.trans (congrArg some (by kernel_rfl))
  f217 := Tryz.func266.trans (congrArg some (by kernel_rfl))
  f219 := Tryz.func256.trans (congrArg some (by kernel_rfl))
  f220 := Tryz.func238.trans (congrArg some (by kernel_rfl))
  f224 := Tryz.func268.trans (congrArg some (by kernel_rfl))
  f225 := Tryz.func267.trans (congrArg some (by kernel_rfl))
  f266 := Tryz.func276.trans (congrArg some (by kernel_rfl))
  f267 := Tryz.func269.trans (congrArg some (by kernel_rfl))
  f314 := Tryz.func277.trans (congrArg some (by kernel_rfl))
  t3 := Tryz.underlying3
  a3 := Tryz.isAgg3
  z3 := Tryz.sizeOf3
  v3 := Tryz.zeroValue3
  t4 := Tryz.underlying4
  a4 := Tryz.isAgg4
  z4 := Tryz.sizeOf4
  v4 := Tryz.zeroValue4
  t5 := Tryz.underlying5
  a5 := Tryz.isAgg5
  z5 := Tryz.sizeOf5
  v5 := Tryz.zeroValue5
  t9 := Tryz.underlying9
  a9 := Tryz.isAgg9
  z9 := Tryz.sizeOf9
  v9 := Tryz.zeroValue9
  t46 := Tryz.underlying220
  a46 := Tryz.isAgg220
  z46 := Tryz.sizeOf220
  v46 := Tryz.zeroValue220
  t51 := Tryz.underlying23
  a51 := Tryz.isAgg23
  z51 := Tryz.sizeOf23
  v51 := Tryz.zeroValue23
  t59 := Tryz.underlying272
  a59 := Tryz.isAgg272
  z59 := Tryz.sizeOf272
  v59 := Tryz.zeroValue272
  t146 := Tryz.underlying346
  a146 := Tryz.isAgg346
  z146 := Tryz.sizeOf346
  v146 := Tryz.zeroValue346
  g1 := by kernel_rfl }
open Go.RowKit Go.Lib in
theorem Tryz.strings_Cut (s sep : ByteArray) (m : Int) (w : World) (hs : s.size < 4294967281) (hm : w.cell? ⟨14, 0, none⟩ = some (.int .i64 m)) :
    Calls Tryz.prog 206 #[.string s, .string sep] w fun e w' => e = .returned (.tuple #[.string ⟨(Lib.cut s.data.toList sep.data.toList).1.toArray⟩, .string ⟨(Lib.cut s.data.toList sep.data.toList).2.1.toArray⟩, .bool (Lib.cut s.data.toList sep.data.toList).2.2]) ∧ ∃ n, w' = w.drewN n := Any.strings_Cut Tryz.lays145 s sep m w hs hm
def Tryz.laysGg6_ren : Go.Shelf.Ren := ⟨fun | 6 => 85 | 10 => 143 | 11 => 144 | 12 => 145 | 13 => 146 | 14 => 147 | 24 => 192 | 25 => 193 | 26 => 194 | 27 => 195 | 28 => 196 | 29 => 197 | 30 => 198 | 31 => 199 | 32 => 200 | 33 => 201 | 34 => 231 | 35 => 232 | 36 => 233 | 37 => 234 | 38 => 235 | 39 => 251 | n => n, fun | 20 => 20 | 26 => 148 | 35 => 215 | 0 => 0 | 37 => 217 | 3 => 3 | 41 => 220 | 44 => 223 | 49 => 23 | 51 => 263 | 4 => 4 | 54 => 266 | 53 => 265 | 58 => 193 | 5 => 5 | 9 => 9 | 60 => 307 | 64 => 311 | 66 => 324 | 67 => 103 | 17 => 17 | 32 => 212 | 33 => 213 | 82 => 368 | 12 => 12 | 75 => 363 | 76 => 248 | 77 => 364 | 78 => 271 | 79 => 365 | 80 => 366 | n => n, fun | n => n⟩
theorem Tryz.laysGg6 : Go.Proofs.LaysGg.n6 Tryz.prog Tryz.laysGg6_ren := {
  mixed := by kernel_rfl
  f6 := Tryz.func85.trans (congrArg some (by kernel_rfl))
  f10 := Tryz.func143.trans (congrArg some (by kernel_rfl))
  f11 := Tryz.func144.trans (congrArg some (by kernel_rfl))
  f12 := Tryz.func145.trans (congrArg some (by kernel_rfl))
  f13 := Tryz.func146.trans (congrArg some (by kernel_rfl))
  f14 := Tryz.func147.trans (congrArg some (by kernel_rfl))
  f24 := Tryz.func192.trans (congrArg some (by kernel_rfl))
  f25 := Tryz.func193.trans (congrArg some (by kernel_rfl))
  f26 := Tryz.func194.trans (congrArg some (by kernel_rfl))
  f27 := Tryz.func195.trans (congrArg some (by kernel_rfl))
  f28 := Tryz.func196.trans (congrArg some (by kernel_rfl))
  f29 := Tryz.func197.trans (congrArg some (by kernel_rfl))
  f30 := Tryz.func198.trans (congrArg some (by kernel_rfl))
  f31 := Tryz.func199.trans (congrArg some (by kernel_rfl))
  f32 := Tryz.func200.trans (congrArg some (by kernel_rfl))
  f33 := Tryz.func201.trans (congrArg some (by kernel_rfl))
  f34 := Tryz.func231.trans (congrArg some (by kernel_rfl))
  f35 := Tryz.func232.trans (congrArg some (by kernel_rfl))
  f36 := Tryz.func233.trans (congrArg some (by kernel_rfl))
  f37 := Tryz.func234.trans (congrArg some (by kernel_rfl))
  f38 := Tryz.func235.trans (congrArg some (by kernel_rfl))
  f39 := Tryz.func251.trans (congrArg some (by kernel_rfl))
  t0 := Tryz.underlying0
  a0 := Tryz.isAgg0
  z0 := Tryz.sizeOf0
  v0 := Tryz.zeroValue0
  i0 := by kernel_rfl
  t3 := Tryz.underlying3
  a3 := Tryz.isAgg3
  z3 := Tryz.sizeOf3
  v3 := Tryz.zeroValue3
  i3 := by kernel_rfl
  t4 := Tryz.underlying4
  a4 := Tryz.isAgg4
  z4 := Tryz.sizeOf4
  v4 := Tryz.zeroValue4
  i4 := by kernel_rfl
  t5 := Tryz.underlying5
  a5 := Tryz.isAgg5
  z5 := Tryz.sizeOf5
  v5 := Tryz.zeroValue5
  i5 := by kernel_rfl
  t9 := Tryz.underlying9
  a9 := Tryz.isAgg9
  z9 := Tryz.sizeOf9
  v9 := Tryz.zeroValue9
  i9 := by kernel_rfl
  t12 := Tryz.underlying12
  a12 := Tryz.isAgg12
  z12 := Tryz.sizeOf12
  v12 := Tryz.zeroValue12
  i12 := by kernel_rfl
  t17 := Tryz.underlying17
  a17 := Tryz.isAgg17
  z17 := Tryz.sizeOf17
  v17 := Tryz.zeroValue17
  i17 := by kernel_rfl
  t20 := Tryz.underlying20
  a20 := Tryz.isAgg20
  z20 := Tryz.sizeOf20
  v20 := Tryz.zeroValue20
  i20 := by kernel_rfl
  t26 := Tryz.underlying148
  a26 := Tryz.isAgg148
  z26 := Tryz.sizeOf148
  v26 := Tryz.zeroValue148
  i26 := by kernel_rfl
  t32 := Tryz.underlying212
  a32 := Tryz.isAgg212
  z32 := Tryz.sizeOf212
  v32 := Tryz.zeroValue212
  i32 := by kernel_rfl
  t33 := Tryz.underlying213
  a33 := Tryz.isAgg213
  z33 := Tryz.sizeOf213
  v33 := Tryz.zeroValue213
  i33 := by kernel_rfl
  t35 := Tryz.underlying215
  a35 := Tryz.isAgg215
  z35 := Tryz.sizeOf215
  v35 := Tryz.zeroValue215
  i35 := by kernel_rfl
  t37 := Tryz.underlying217
  a37 := Tryz.isAgg217
  z37 := Tryz.sizeOf217
  v37 := Tryz.zeroValue217
  i37 := by kernel_rfl
  t41 := Tryz.underlying220
  a41 := Tryz.isAgg220
  z41 := Tryz.sizeOf220
  v41 := Tryz.zeroValue220
  i41 := by kernel_rfl
  t44 := Tryz.underlying223
  a44 := Tryz.isAgg223
  z44 := Tryz.sizeOf223
  v44 := Tryz.zeroValue223
  i44 := by kernel_rfl
  t49 := Tryz.underlying23
  a49 := Tryz.isAgg23
  z49 := Tryz.sizeOf23
  v49 := Tryz.zeroValue23
  i49 := by kernel_rfl
  t51 := Tryz.underlying263
  a51 := Tryz.isAgg263
  z51 := Tryz.sizeOf263
  v51 := Tryz.zeroValue263
  i51 := by kernel_rfl
  t53 := Tryz.underlying265
  a53 := Tryz.isAgg265
  z53 := Tryz.sizeOf265
  v53 := Tryz.zeroValue265
  i53 := by kernel_rfl
  t54 := Tryz.underlying266
  a54 := Tryz.isAgg266
  z54 := Tryz.sizeOf266
  v54 := Tryz.zeroValue266
  i54 := by kernel_rfl
  t58 := Tryz.underlying193
  a58 := Tryz.isAgg193
  z58 := Tryz.sizeOf193
  v58 := Tryz.zeroValue193
  i58 := by kernel_rfl
  t60 := Tryz.underlying307
  a60 := Tryz.isAgg307
  z60 := Tryz.sizeOf307
  v60 := Tryz.zeroValue307
  i60 := by kernel_rfl
  t64 := Tryz.underlying311
  a64 := Tryz.isAgg311
  z64 := Tryz.sizeOf311
  v64 := Tryz.zeroValue311
  i64 := by kernel_rfl
  t66 := Tryz.underlying324
  a66 := Tryz.isAgg324
  z66 := Tryz.sizeOf324
  v66 := Tryz.zeroValue324
  i66 := by kernel_rfl
  t67 := Tryz.underlying103
  a67 := Tryz.isAgg103
  z67 := Tryz.sizeOf103
  v67 := Tryz.zeroValue103
  i67 := by kernel_rfl
  t75 := Tryz.underlying363
  a75 := Tryz.isAgg363
  z75 := Tryz.sizeOf363
  v75 := Tryz.zeroValue363
  i75 := by kernel_rfl
  t76 := Tryz.underlying248
  a76 := Tryz.isAgg248
  z76 := Tryz.sizeOf248
  v76 := Tryz.zeroValue248
  i76 := by kernel_rfl
  t77 := Tryz.underlying364
  a77 := Tryz.isAgg364
  z77 := Tryz.sizeOf364
  v77 := Tryz.zeroValue364
  i77 := by kernel_rfl
  t78 := Tryz.underlying271
  a78 := Tryz.isAgg271
  z78 := Tryz.sizeOf271
  v78 := Tryz.zeroValue271
  i78 := by kernel_rfl
  t79 := Tryz.underlying365
  a79 := Tryz.isAgg365
  z79 := Tryz.sizeOf365
  v79 := Tryz.zeroValue365
  i79 := by kernel_rfl
  t80 := Tryz.underlying366
  a80 := Tryz.isAgg366
  z80 := Tryz.sizeOf366
  v80 := Tryz.zeroValue366
  i80 := by kernel_rfl
  t82 := Tryz.underlying368
  a82 := Tryz.isAgg368
  z82 := Tryz.sizeOf368
  v82 := Tryz.zeroValue368
  i82 := by kernel_rfl }
def Tryz.lays146_ren : Go.Shelf.Ren := ⟨fun | 146 => 241 | 221 => 259 | 268 => 271 | 138 => 272 | 143 => 273 | 195 => 279 | 197 => 280 | 218 => 281 | 219 => 256 | 260 => 283 | 217 => 266 | 225 => 267 | 224 => 268 | 267 => 269 | 266 => 276 | 314 => 277 | n => n, fun | 9 => 9 | 31 => 73 | 3 => 3 | 4 => 4 | 0 => 0 | 105 => 348 | 21 => 21 | 5 => 5 | 46 => 220 | 119 => 352 | 139 => 355 | 138 => 354 | 146 => 346 | 51 => 23 | n => n, fun | 1 => 14 | 3 => 17 | 4 => 18 | n => n⟩
theorem Tryz.lays146 : Go.Proofs.Lays.n146 Tryz.prog Tryz.lays146_ren := {
  mixed := by kernel_rfl
  f138 := Tryz.func272.trans (congrArg some (by kernel_rfl))
  f143 := Tryz.func273.trans (congrArg some (by kernel_rfl))
  f146 := Tryz.func241.trans (congrArg some (by kernel_rfl))
  f195 := Tryz.func279.trans (congrArg some (by kernel_rfl))
  f197 := Tryz.func280.trans (congrArg some (by kernel_rfl))
  f217 := Tryz.func266.trans (congrArg some (by kernel_rfl))
  f218 := Tryz.func281.trans (congrArg some (by kernel_rfl))
  f219 := Tryz.func256.trans (congrArg some (by kernel_rfl))
  f221 := Tryz.func259.trans (congrArg some (by kernel_rfl))
  f224 := Tryz.func268.trans (congrArg some (by kernel_rfl))
  f225 := Tryz.func267.trans (congrArg some (by kernel_rfl))
  f260 := Tryz.func283.trans (congrArg some (by kernel_rfl))
  f266 := Tryz.func276.trans (congrArg some (by kernel_rfl))
  f267 := Tryz.func269.trans (congrArg some (by kernel_rfl))
  f268 := Tryz.func271.trans (congrArg some (by kernel_rfl))
  f314 := Tryz.func277.trans (congrArg some (by kernel_rfl))
  t0 := Tryz.underlying0
  a0 := Tryz.isAgg0
  z0 := Tryz.sizeOf0
  v0 := Tryz.zeroValue0
  t3 := Tryz.underlying3
  a3 := Tryz.isAgg3
  z3 := Tryz.sizeOf3
  v3 := Tryz.zeroValue3
  t4 := Tryz.underlying4
  a4 := Tryz.isAgg4
  z4 := Tryz.sizeOf4
  v4 := Tryz.zeroValue4
  t5 := Tryz.underlying5
  a5 := Tryz.isAgg5
  z5 := Tryz.sizeOf5
  v5 := Tryz.zeroValue5
  t9 := Tryz.underlying9
  a9 := Tryz.isAgg9
  z9 := Tryz.sizeOf9
  v9 := Tryz.zeroValue9
  t21 := Tryz.underlying21
  a21 := Tryz.isAgg21
  z21 := Tryz.sizeOf21
  v21 := Tryz.zeroValue21
  t31 := Tryz.underlying73
  a31 := Tryz.isAgg73
  z31 := Tryz.sizeOf73
  v31 := Tryz.zeroValue73
  t46 := Tryz.underlying220
  a46 := Tryz.isAgg220
  z46 := Tryz.sizeOf220
  v46 := Tryz.zeroValue220
  t51 := Tryz.underlying23
  a51 := Tryz.isAgg23
  z51 := Tryz.sizeOf23
  v51 := Tryz.zeroValue23
  t105 := Tryz.underlying348
  a105 := Tryz.isAgg348
  z105 := Tryz.sizeOf348
  v105 := Tryz.zeroValue348
  t119 := Tryz.underlying352
  a119 := Tryz.isAgg352
  z119 := Tryz.sizeOf352
  t138 := Tryz.underlying354
  a138 := Tryz.isAgg354
  z138 := Tryz.sizeOf354
  v138 := Tryz.zeroValue354
  t139 := Tryz.underlying355
  a139 := Tryz.isAgg355
  z139 := Tryz.sizeOf355
  v139 := Tryz.zeroValue355
  t146 := Tryz.underlying346
  a146 := Tryz.isAgg346
  z146 := Tryz.sizeOf346
  v146 := Tryz.zeroValue346
  g1 := by kernel_rfl
  g3 := by kernel_rfl
  g4 := by kernel_rfl }
open Go.RowKit Go.Lib in
theorem Tryz.strings_Split (s sep : ByteArray) (m : Int) (w : World) (hs : s.size < 4294967281) (hm : w.cell? ⟨14, 0, none⟩ = some (.int .i64 m)) (h1 : 1 ≤ sep.size) :
    Calls Tryz.prog 241 #[.string s, .string sep] w fun e w' =>
      e = .returned (.slice (some ⟨w.heap.size, 0, none⟩) (Lib.countB s sep + 1) (Lib.countB s sep + 1)) ∧ w' = w.alloc (.cells ((Lib.splitB sep 0 (Lib.countB s sep) s).map Value.string).toArray 9) := Any.strings_Split Tryz.lays146 (by kernel_rfl) s sep m w hs hm h1
end Go.Proofs
namespace Go.Proofs.YtcbcjefefmbccabGreatDoor
open Go.RowKit

abbrev Pow10 (w : World) : Prop := Lib.TabIs Tryz.prog w "internal/strconv.uint64pow10" .u64 Lib.pow10Tab
theorem gPow10 : Tryz.prog.globalNamed "internal/strconv.uint64pow10" = some 13 := by kernel_rfl
theorem Pow10.below {B : Nat} {w w' : World} (h : Pow10 w) (hb : Below B w w') (hB : w.heap.size ≤ B) : Pow10 w' := Joins.tab_stays gPow10 h hb hB
end Go.Proofs.YtcbcjefefmbccabGreatDoor
namespace Go.Proofs.YtcbcjefefmbccabGreatDoor
open Go.RowKit

def idsText (ids : List (Nat × Int)) : List UInt8 := (ids.map fun x => 32 :: idText x.1 x.2.toNat).flatten
def rcpText (nm : List UInt8) (len : Int) (p : Nat) (ids : List (Nat × Int)) : List UInt8 := nm ++ [32] ++ Lib.decDigits len.toNat ++ [32] ++ hexLast p 8 ++ idsText ids
end Go.Proofs.YtcbcjefefmbccabGreatDoor
namespace Go.Proofs.YtcbcjefefmbccabGreatDoor

def zs8 : List UInt8 := List.replicate 8 0
/- The window behind n bytes: the last eight, zeros ahead of the first. -/
def win (l : List UInt8) (n : Nat) : List UInt8 := (zs8 ++ l.take n).drop n
def sumB (xs : List UInt8) : Nat := (xs.map UInt8.toNat).sum
def endsAt (l : List UInt8) (n : Nat) : Bool := n == 64 || (decide (16 ≤ n) && sumB (win l n) % 16 == 15)
def scan (l : List UInt8) : Nat → Nat → Nat
  | n, 0 => n
  | n, k + 1 => if endsAt l (n + 1) = true then n + 1 else scan l (n + 1) k
def first (l : List UInt8) : Nat := scan l 0 l.length
def piecesF : Nat → List UInt8 → List (List UInt8)
  | 0, _ => []
  | k + 1, l => match l with
    | [] => []
    | _ :: _ => l.take (first l) :: piecesF k (l.drop (first l))
def pieces (l : List UInt8) : List (List UInt8) := piecesF l.length l
/- The ends of pieces, the first of which begins at n. -/
def endsFrom (n : Nat) : List (List UInt8) → List Nat
  | [] => []
  | p :: r => (n + p.length) :: endsFrom (n + p.length) r
def cuts (l : List UInt8) : List Nat := endsFrom 0 (pieces l)

theorem win_length (l : List UInt8) (n : Nat) (h : n ≤ l.length) : (win l n).length = 8 := by
  simp [win, zs8, Nat.min_eq_left h]
  omega
theorem win_zero (l : List UInt8) : win l 0 = zs8 := by simp [win, zs8]
theorem win_succ (l : List UInt8) (n : Nat) (h : n < l.length) : win l (n + 1) = (win l n).drop 1 ++ [l[n]] := by
  have e : l.take (n + 1) = l.take n ++ [l[n]] := by rw [List.take_succ_eq_append_getElem h]
  unfold win
  rw [e, ← List.append_assoc, List.drop_append_of_le_length (by simp [zs8]; omega), List.drop_drop]
structure IsFirst (l : List UInt8) (n : Nat) : Prop where
  pos : 0 < n
  le : n ≤ l.length
  no : ∀ j, 0 < j → j < n → endsAt l j = false
  yes : endsAt l n = true ∨ n = l.length

theorem scan_is (l : List UInt8) : ∀ (k n : Nat), n + k = l.length → 0 < l.length → (∀ j, 0 < j → j ≤ n → endsAt l j = false) → (k = 0 → False) → IsFirst l (scan l n k)
  | 0, n, _, _, _, h0 => (h0 rfl).elim
  | k + 1, n, hk, hl, hno, _ => by
    rw [scan]
    by_cases h : endsAt l (n + 1) = true
    · rw [if_pos h]
      exact ⟨by omega, by omega, fun j h1 h2 => hno j h1 (by omega), .inl h⟩
    · rw [if_neg h]
      have h' : endsAt l (n + 1) = false := by simpa using h
      have hno' : ∀ j, 0 < j → j ≤ n + 1 → endsAt l j = false := fun j h1 h2 => by
        by_cases e : j = n + 1
        · rw [e]; exact h'
        · exact hno j h1 (by omega)
      cases k with
      | zero => exact ⟨by simp [scan], by simp [scan]; omega, fun j h1 h2 => hno' j h1 (by simp [scan] at h2; omega), .inr (by simp [scan]; omega)⟩
      | succ k => exact scan_is l (k + 1) (n + 1) (by omega) hl hno' (by omega)
theorem first_is (l : List UInt8) (h : l ≠ []) : IsFirst l (first l) := by
  have hl : 0 < l.length := List.length_pos_iff.2 h
  exact scan_is l l.length 0 (by omega) hl (fun j h1 h2 => by omega) (by omega)
theorem IsFirst.uniq {l : List UInt8} {n m : Nat} (h : IsFirst l n) (k : IsFirst l m) : n = m := by
  rcases Nat.lt_trichotomy n m with hlt | e | hlt
  · exfalso
    have := k.no n h.pos hlt
    rcases h.yes with y | y
    · rw [y] at this; cases this
    · have := k.le; omega
  · exact e
  · exfalso
    have := h.no m k.pos hlt
    rcases k.yes with y | y
    · rw [y] at this; cases this
    · have := h.le; omega
theorem IsFirst.eq {l : List UInt8} {n : Nat} (h : IsFirst l n) : first l = n := by
  refine (first_is l ?_).uniq h
  intro e
  have := h.le; have := h.pos; rw [e] at *; simp at *; omega
theorem first_nil : first [] = 0 := rfl
theorem first_le (l : List UInt8) : first l ≤ l.length := by
  by_cases h : l = []
  · subst h; exact Nat.le_refl _
  · exact (first_is l h).le
theorem first_pos (l : List UInt8) (h : l ≠ []) : 0 < first l := (first_is l h).pos

theorem piecesF_more : ∀ (k m : Nat) (l : List UInt8), l.length ≤ k → l.length ≤ m → piecesF k l = piecesF m l
  | 0, m, l, hk, _ => by
    obtain rfl : l = [] := List.eq_nil_of_length_eq_zero (by omega)
    cases m <;> rfl
  | k + 1, 0, l, _, hm => by
    obtain rfl : l = [] := List.eq_nil_of_length_eq_zero (by omega)
    rfl
  | k + 1, m + 1, [], _, _ => rfl
  | k + 1, m + 1, x :: l, hk, hm => by
    have hp := first_pos (x :: l) (by simp)
    have hd : ((x :: l).drop (first (x :: l))).length ≤ l.length := by simp; omega
    simp only [piecesF]
    rw [piecesF_more k m _ (by simp at hk; omega) (by simp at hm; omega)]
theorem pieces_nil : pieces [] = [] := rfl
theorem pieces_ne (l : List UInt8) (h : l ≠ []) : pieces l = l.take (first l) :: pieces (l.drop (first l)) := by
  cases l with
  | nil => exact (h rfl).elim
  | cons x l =>
    have hp := first_pos (x :: l) (by simp)
    show _ :: piecesF l.length _ = _
    rw [piecesF_more l.length ((x :: l).drop (first (x :: l))).length _ (by simp; omega) (Nat.le_refl _)]
    rfl
theorem pieces_rec {P : List UInt8 → Prop} (h0 : P []) (h1 : ∀ l, l ≠ [] → P (l.drop (first l)) → P l) : ∀ (l : List UInt8), P l := by
  have : ∀ (k : Nat) (l : List UInt8), l.length ≤ k → P l := by
    intro k
    induction k with
    | zero => intro l hl; obtain rfl : l = [] := List.eq_nil_of_length_eq_zero (by omega); exact h0
    | succ k ih =>
      intro l hl
      by_cases e : l = []
      · subst e; exact h0
      · have hp := first_pos l e
        exact h1 l e (ih _ (by simp; omega))
  exact fun l => this l.length l (Nat.le_refl _)

theorem pieces_flatten : ∀ (l : List UInt8), (pieces l).flatten = l := by
  refine pieces_rec (by rw [pieces_nil]; rfl) ?_
  intro l hl ih
  rw [pieces_ne l hl, List.flatten_cons, ih, List.take_append_drop]
theorem pieces_eq_nil (l : List UInt8) : pieces l = [] ↔ l = [] := by
  constructor
  · intro h
    by_cases e : l = []
    · exact e
    · rw [pieces_ne l e] at h; cases h
  · rintro rfl; rfl
theorem pieces_len_le : ∀ (l : List UInt8), (pieces l).length ≤ l.length := by
  refine pieces_rec (by rw [pieces_nil]; exact Nat.le_refl _) ?_
  intro l hl ih
  have hp := first_pos l hl
  have := first_le l
  rw [pieces_ne l hl, List.length_cons]
  simp at ih
  omega
theorem first_le64 (l : List UInt8) : first l ≤ 64 := by
  by_cases e : l = []
  · subst e; decide
  · have h := first_is l e
    by_cases h64 : first l ≤ 64
    · exact h64
    · have := h.no 64 (by omega) (by omega)
      simp [endsAt] at this
theorem first_ge16 (l : List UInt8) (h : first l < l.length) : 16 ≤ first l := by
  have e : l ≠ [] := by rintro rfl; simp at h
  rcases (first_is l e).yes with y | y
  · unfold endsAt at y
    simp at y
    omega
  · omega
theorem drop_ne_nil {l : List UInt8} {n : Nat} (h : l.drop n ≠ []) : n < l.length := by
  by_cases e : n < l.length
  · exact e
  · exact (h (List.drop_eq_nil_of_le (by omega))).elim
/- A piece: not empty, at most 64; at least 16 where another one follows. -/
theorem pieces_at : ∀ (l : List UInt8) (i : Nat) (h : i < (pieces l).length), 0 < ((pieces l)[i]).length ∧ ((pieces l)[i]).length ≤ 64 ∧ (i + 1 < (pieces l).length → 16 ≤ ((pieces l)[i]).length) := by
  refine pieces_rec (by intro i h; rw [pieces_nil] at h; simp at h) ?_
  intro l hl ih i h
  have e := pieces_ne l hl
  have hf := first_le l
  cases i with
  | zero =>
    have e0 : (pieces l)[0] = l.take (first l) := by simp [e]
    have e1 : (pieces l).length = (pieces (l.drop (first l))).length + 1 := by rw [e, List.length_cons]
    rw [e0, List.length_take, Nat.min_eq_left hf]
    refine ⟨first_pos l hl, first_le64 l, fun h1 => first_ge16 l (drop_ne_nil (fun e2 => ?_))⟩
    rw [e1, e2, pieces_nil] at h1
    simp at h1
  | succ i =>
    have h' : i < (pieces (l.drop (first l))).length := by rw [e, List.length_cons] at h; omega
    have e0 : (pieces l)[i + 1] = (pieces (l.drop (first l)))[i] := by simp [e]
    have e1 : (pieces l).length = (pieces (l.drop (first l))).length + 1 := by rw [e, List.length_cons]
    rw [e0, e1]
    have := ih i h'
    exact ⟨this.1, this.2.1, fun h1 => this.2.2 (by omega)⟩

/- What is behind a cut is cut as it is alone; what is ahead of it too. -/
def upto (ps : List (List UInt8)) (k : Nat) : Nat := (ps.take k).flatten.length
end Go.Proofs.YtcbcjefefmbccabGreatDoor
