/-
  Own text. Contracts of the library at this program's numbers, each one application of the shelf's own theorem: laysGg6, stringslite_Clone, strconv_Itoa, strings_Join, strings_Join_none, strings_Split, strings_CutPrefix, strings_Cut, Builder_String.
  Own text. Texts of IDs: print.Text and the document's IDText by contracts. Condition of print.Text: strconv's table of powers of ten lies as the program's text lays it.
  Own text. A right recipe as a text, pure, and the document's RecipeText by a contract.
  Own text. Pure: where a text's pieces end (the document's chapter 2): the window of the last eight bytes, the first piece, all pieces, the ends.
  Own text. The window's two methods by contracts: take (the bytes move by one, the new one stands last) and ends (the low four bits of the bytes' sum are all 1).
-/
import Derived.Shelf.Strings.Builder1
import Derived.Shelf.Strings.Builder2
import Derived.Shelf.Strings.OnBuilder
import Derived.Shelf.Small.Bits
import Derived.Shelf.Small.Wraps
import Derived.Shelf.Strings.BuilderF
import Derived.Shelf.Strings.BuilderK
import Derived.Shelf.Strconv.Itoa0
import Derived.Shelf.Strconv.Itoa1
import Derived.Shelf.LaysM
import Derived.Shelf.Strconv.Itoa2
import Derived.Shelf.Strconv.Itoa3
import Derived.Shelf.Strconv.Clone
import Derived.Shelf.Strings.Search1
import Derived.Shelf.Strings.Search2
import Derived.Shelf.Strings.Search3
import Derived.Shelf.Strings.Cut
import Derived.Shelf.Strings.Count
import Derived.Shelf.Strings.Shaped
import Derived.Ground.GgsProg
import Derived.Shelf.GgSortFunc.Insertion
import Derived.Shelf.GgSortFunc.Small
import Derived.Shelf.GgSortFunc.InsertionK
import Derived.Shelf.GgSortFunc.SmallK
import Derived.Shelf.GgSortFunc.Tiny
import Derived.Shelf.GgSortFunc.Compose
import Derived.Shelf.GgSortFunc.LotD
import Derived.Shelf.Strings.Prefix
import Derived.Shelf.Strings.Split
import Derived.Shelf.Unicode.DecodeSlow
import Derived.Shelf.SlSortFunc.Xorshift
import Derived.Shelf.SlSortFuncK.ComposeK
import Derived.Shelf.SlSortFuncK.SiftDownK
import Derived.Shelf.SlSortFuncK.HeapSortK
import Derived.Shelf.SlSortFuncK.PartialInsertionK
import Derived.Shelf.SlSortFuncK.LotDK
import Derived.Shelf.SlSortFuncK.PivotK
import Derived.Shelf.SlSortFuncK.PartitionK
import Derived.Shelf.SlSortFuncK.PdqK
import Derived.Shelf.SlSortFuncK.WholeK
import Derived.Ground.SlgmProg
import Derived.Shelf.SortM.Plain
import Derived.Shelf.SortM.SortNone
import Derived.Test.YtjdobbjdlighpaaGreatDoorProg
import Derived.Test.YtjdobbjdlighpaaGreatDoorG04
import Derived.Deep.RegionWith
import Derived.Lib.SmallJoins
import Derived.Lib.ItoaMem
import Derived.Test.YtjdobbjdlighpaaGreatDoorChecked
import Derived.Deep.QuietTactic
import Derived.BigQuiet
import Derived.WalkKit
import Derived.Laws.CopyOwn
import Derived.Deep.RegionLaw
namespace Go.Proofs
open Go.Shelf
def Tryz.lays169_ren : Go.Shelf.Ren := ⟨fun | 169 => 81 | n => n, fun | 70 => 123 | 9 => 9 | 0 => 0 | 72 => 126 | 37 => 124 | 127 => 169 | 3 => 3 | 5 => 5 | n => n, fun | n => n⟩
theorem Tryz.lays169 : Go.Proofs.Lays.n169 Tryz.prog Tryz.lays169_ren := {
  mixed := by kernel_rfl
  f169 := Tryz.func81.trans (congrArg some (by kernel_rfl))
  t0 := Tryz.underlying0
  a0 := Tryz.isAgg0
  z0 := Tryz.sizeOf0
  v0 := Tryz.zeroValue0
  t3 := Tryz.underlying3
  a3 := Tryz.isAgg3
  z3 := Tryz.sizeOf3
  v3 := Tryz.zeroValue3
  t9 := Tryz.underlying9
  a9 := Tryz.isAgg9
  z9 := Tryz.sizeOf9
  v9 := Tryz.zeroValue9
  t37 := Tryz.underlying124
  a37 := Tryz.isAgg124
  z37 := Tryz.sizeOf124
  v37 := Tryz.zeroValue124
  t70 := Tryz.underlying123
  a70 := Tryz.isAgg123
  z70 := Tryz.sizeOf123
  v70 := Tryz.zeroValue123
  t72 := Tryz.underlying126
  a72 := Tryz.isAgg126
  z72 := Tryz.sizeOf126
  v72 := Tryz.zeroValue126
  t127 := Tryz.underlying169
  a127 := Tryz.isAgg169
  z127 := Tryz.sizeOf169
  v127 := Tryz.zeroValue169 }
theorem Tryz.Builder_Extra_169 : Builder.Extra Tryz.prog Tryz.lays169_ren := {
  sizeBuilder := by kernel_rfl
  liesBuilder := by kernel_rfl
  t5 := Tryz.underlying5
  a5 := Tryz.isAgg5
  z5 := Tryz.sizeOf5
  v5 := Tryz.zeroValue5
  infoByte := by kernel_rfl
  cellsByte := by kernel_rfl
  sizeByte := by kernel_rfl
  neB5 := by decide }
open Go.RowKit in
theorem Tryz.Builder_String (B b : Nat) (l : List UInt8) (w : World) (h : Lib.IsBuilder 126 5 B b (Lib.byteCells l) w) (h0 : l ≠ []) :
    Calls Tryz.prog 81 #[.pointer (some ⟨b, 0, none⟩)] w fun e w' => e = .returned (.string ⟨l.toArray⟩) ∧ Below B w w' := Any.Builder_String Tryz.lays169 Tryz.Builder_Extra_169 B b l w h h0
def Tryz.lays156_ren : Go.Shelf.Ren := ⟨fun | 156 => 56 | 165 => 102 | 166 => 80 | 169 => 81 | 240 => 113 | 241 => 130 | 276 => 143 | 277 => 168 | n => n, fun | 31 => 31 | 9 => 9 | 3 => 3 | 4 => 4 | 0 => 0 | 20 => 20 | 72 => 126 | 76 => 87 | 70 => 123 | 37 => 124 | 75 => 28 | 127 => 169 | 164 => 174 | 5 => 5 | 80 => 128 | n => n, fun | n => n⟩
theorem Tryz.lays156 : Go.Proofs.Lays.n156 Tryz.prog Tryz.lays156_ren := {
  mixed := by kernel_rfl
  f156 := Tryz.func56.trans (congrArg some (by kernel_rfl))
  f165 := Tryz.func102.trans (congrArg some (by kernel_rfl))
  f166 := Tryz.func80.trans (congrArg some (by kernel_rfl))
  f169 := Tryz.func81.trans (congrArg some (by kernel_rfl))
  f240 := Tryz.func113.trans (congrArg some (by kernel_rfl))
  f241 := Tryz.func130.trans (congrArg some (by kernel_rfl))
  f276 := Tryz.func143.trans (congrArg some (by kernel_rfl))
  f277 := Tryz.func168.trans (congrArg some (by kernel_rfl))
  t0 := Tryz.underlying0
  a0 := Tryz.isAgg0
  z0 := Tryz.sizeOf0
  v0 := Tryz.zeroValue0
  t3 := Tryz.underlying3
  a3 := Tryz.isAgg3
  z3 := Tryz.sizeOf3
  v3 := Tryz.zeroValue3
  t4 := Tryz.underlying4
  a4 := Tryz.isAgg4
  z4 := Tryz.sizeOf4
  v4 := Tryz.zeroValue4
  t9 := Tryz.underlying9
  a9 := Tryz.isAgg9
  z9 := Tryz.sizeOf9
  v9 := Tryz.zeroValue9
  t20 := Tryz.underlying20
  a20 := Tryz.isAgg20
  z20 := Tryz.sizeOf20
  v20 := Tryz.zeroValue20
  t31 := Tryz.underlying31
  a31 := Tryz.isAgg31
  z31 := Tryz.sizeOf31
  v31 := Tryz.zeroValue31
  t37 := Tryz.underlying124
  a37 := Tryz.isAgg124
  z37 := Tryz.sizeOf124
  v37 := Tryz.zeroValue124
  t70 := Tryz.underlying123
  a70 := Tryz.isAgg123
  z70 := Tryz.sizeOf123
  v70 := Tryz.zeroValue123
  t72 := Tryz.underlying126
  a72 := Tryz.isAgg126
  z72 := Tryz.sizeOf126
  v72 := Tryz.zeroValue126
  t75 := Tryz.underlying28
  a75 := Tryz.isAgg28
  z75 := Tryz.sizeOf28
  v75 := Tryz.zeroValue28
  t76 := Tryz.underlying87
  a76 := Tryz.isAgg87
  z76 := Tryz.sizeOf87
  v76 := Tryz.zeroValue87
  t127 := Tryz.underlying169
  a127 := Tryz.isAgg169
  z127 := Tryz.sizeOf169
  v127 := Tryz.zeroValue169
  t164 := Tryz.underlying174
  a164 := Tryz.isAgg174
  z164 := Tryz.sizeOf174
  v164 := Tryz.zeroValue174 }
theorem Tryz.Builder_Extra_156 : Builder.Extra Tryz.prog Tryz.lays156_ren := {
  sizeBuilder := by kernel_rfl
  liesBuilder := by kernel_rfl
  t5 := Tryz.underlying5
  a5 := Tryz.isAgg5
  z5 := Tryz.sizeOf5
  v5 := Tryz.zeroValue5
  infoByte := by kernel_rfl
  cellsByte := by kernel_rfl
  sizeByte := by kernel_rfl
  neB5 := by decide }
open Go.RowKit in
theorem Tryz.strings_Join_none (a : Option Addr) (c : Nat) (sep : ByteArray) (w : World) :
    Calls Tryz.prog 56 #[.slice a 0 c, .string sep] w fun e w' => e = .returned (.string ⟨#[]⟩) ∧ w' = w := Any.strings_Join_none Tryz.lays156 Tryz.Builder_Extra_156 a c sep w
open Go.RowKit in
theorem Tryz.strings_Join (bk o c : Nat) (xs : List ByteArray) (sep : ByteArray) (w : World) (hcells : ∀ (j : Nat) x, xs[j]? = some x → w.cell? ⟨bk, o + j, none⟩ = some (.string x)) (hbk : bk < w.heap.size) (hN : xs.length ≤ 140737488355328) (hcap : xs.length ≤ c) (hlen : (Lib.join (xs.map (·.data.toList)) sep.data.toList).length ≤ 140737488355328) :
    Calls Tryz.prog 56 #[.slice (some ⟨bk, o, none⟩) xs.length c, .string sep] w fun e w' => e = .returned (.string ⟨(Lib.join (xs.map (·.data.toList)) sep.data.toList).toArray⟩) ∧ Below w.heap.size w w' := Any.strings_Join Tryz.lays156 Tryz.Builder_Extra_156 bk o c xs sep w hcells hbk hN hcap hlen
def Tryz.lays103_ren : Go.Shelf.Ren := ⟨fun | 103 => 132 | 210 => 173 | 206 => 199 | n => n, fun | 9 => 9 | 4 => 4 | 24 => 193 | 3 => 3 | n => n, fun | n => n⟩
theorem Tryz.lays103 : Go.Proofs.Lays.n103 Tryz.prog Tryz.lays103_ren := {
  mixed := by kernel_rfl
  f103 := Tryz.func132.trans (congrArg some (by kernel_rfl))
  f206 := Tryz.func199.trans (congrArg some (by kernel_rfl))
  f210 := Tryz.func173.trans (congrArg some (by kernel_rfl))
  t3 := Tryz.underlying3
  a3 := Tryz.isAgg3
  z3 := Tryz.sizeOf3
  v3 := Tryz.zeroValue3
  t4 := Tryz.underlying4
  a4 := Tryz.isAgg4
  z4 := Tryz.sizeOf4
  v4 := Tryz.zeroValue4
  t9 := Tryz.underlying9
  a9 := Tryz.isAgg9
  z9 := Tryz.sizeOf9
  v9 := Tryz.zeroValue9
  t24 := Tryz.underlying193
  a24 := Tryz.isAgg193
  z24 := Tryz.sizeOf193
  v24 := Tryz.zeroValue193 }
open Go.RowKit in
theorem Tryz.strings_CutPrefix (s p : ByteArray) (w : World) :
    Calls Tryz.prog 132 #[.string s, .string p] w fun e w' => e = .returned (.tuple #[.string ⟨(Lib.trimPrefix s.data.toList p.data.toList).toArray⟩, .bool (Lib.hasPrefix s.data.toList p.data.toList)]) ∧ w' = w := Any.strings_CutPrefix Tryz.lays103 s p w
def Tryz.laysM171_ren : Go.Shelf.Ren := ⟨fun | 171 => 57 | 243 => 103 | 246 => 131 | 283 => 169 | 284 => 170 | 285 => 171 | 286 => 172 | 129 => 156 | 317 => 195 | 318 => 196 | 319 => 197 | 320 => 198 | 337 => 212 | 338 => 213 | n => n, fun | 3 => 3 | 9 => 9 | 2 => 2 | 4 => 4 | 171 => 225 | 0 => 0 | 53 => 212 | 37 => 124 | 5 => 5 | 173 => 227 | 212 => 261 | 51 => 23 | 20 => 20 | 213 => 262 | 46 => 159 | 232 => 277 | 233 => 278 | n => n, fun | 17 => 14 | 18 => 17 | 19 => 18 | n => n⟩
theorem Tryz.laysM171 : Go.Proofs.LaysM.n171 Tryz.prog Tryz.laysM171_ren := {
  mixed := by kernel_rfl
  f129 := Tryz.func156.trans (congrArg some (by kernel_rfl))
  f171 := Tryz.func57.trans (congrArg some (by kernel_rfl))
  f243 := Tryz.func103.trans (congrArg some (by kernel_rfl))
  f246 := Tryz.func131.trans (congrArg some (by kernel_rfl))
  f283 := Tryz.func169.trans (congrArg some (by kernel_rfl))
  f284 := Tryz.func170.trans (congrArg some (by kernel_rfl))
  f285 := Tryz.func171.trans (congrArg some (by kernel_rfl))
  f286 := Tryz.func172.trans (congrArg some (by kernel_rfl))
  f317 := Tryz.func195.trans (congrArg some (by kernel_rfl))
  f318 := Tryz.func196.trans (congrArg some (by kernel_rfl))
  f319 := Tryz.func197.trans (congrArg some (by kernel_rfl))
  f320 := Tryz.func198.trans (congrArg some (by kernel_rfl))
  f337 := Tryz.func212.trans (congrArg some (by kernel_rfl))
  f338 := Tryz.func213.trans (congrArg some (by kernel_rfl))
  t0 := Tryz.underlying0
  a0 := Tryz.isAgg0
  z0 := Tryz.sizeOf0
  v0 := Tryz.zeroValue0
  t2 := Tryz.underlying2
  a2 := Tryz.isAgg2
  z2 := Tryz.sizeOf2
  v2 := Tryz.zeroValue2
  t3 := Tryz.underlying3
  a3 := Tryz.isAgg3
  z3 := Tryz.sizeOf3
  v3 := Tryz.zeroValue3
  t4 := Tryz.underlying4
  a4 := Tryz.isAgg4
  z4 := Tryz.sizeOf4
  v4 := Tryz.zeroValue4
  t5 := Tryz.underlying5
  a5 := Tryz.isAgg5
  z5 := Tryz.sizeOf5
  v5 := Tryz.zeroValue5
  t9 := Tryz.underlying9
  a9 := Tryz.isAgg9
  z9 := Tryz.sizeOf9
  v9 := Tryz.zeroValue9
  t20 := Tryz.underlying20
  a20 := Tryz.isAgg20
  z20 := Tryz.sizeOf20
  v20 := Tryz.zeroValue20
  t37 := Tryz.underlying124
  a37 := Tryz.isAgg124
  z37 := Tryz.sizeOf124
  v37 := Tryz.zeroValue124
  t46 := Tryz.underlying159
  a46 := Tryz.isAgg159
  z46 := Tryz.sizeOf159
  v46 := Tryz.zeroValue159
  t51 := Tryz.underlying23
  a51 := Tryz.isAgg23
  z51 := Tryz.sizeOf23
  v51 := Tryz.zeroValue23
  t53 := Tryz.underlying212
  a53 := Tryz.isAgg212
  z53 := Tryz.sizeOf212
  v53 := Tryz.zeroValue212
  t171 := Tryz.underlying225
  a171 := Tryz.isAgg225
  z171 := Tryz.sizeOf225
  v171 := Tryz.zeroValue225
  t173 := Tryz.underlying227
  a173 := Tryz.isAgg227
  z173 := Tryz.sizeOf227
  v173 := Tryz.zeroValue227
  t212 := Tryz.underlying261
  a212 := Tryz.isAgg261
  z212 := Tryz.sizeOf261
  v212 := Tryz.zeroValue261
  t213 := Tryz.underlying262
  a213 := Tryz.isAgg262
  z213 := Tryz.sizeOf262
  t232 := Tryz.underlying277
  a232 := Tryz.isAgg277
  z232 := Tryz.sizeOf277
  v232 := Tryz.zeroValue277
  t233 := Tryz.underlying278
  a233 := Tryz.isAgg278
  z233 := Tryz.sizeOf278
  v233 := Tryz.zeroValue278
  g17 := by kernel_rfl
  g18 := by kernel_rfl
  g19 := by kernel_rfl
  i0 := by kernel_rfl
  i2 := by kernel_rfl
  i3 := by kernel_rfl
  i4 := by kernel_rfl
  i5 := by kernel_rfl
  i9 := by kernel_rfl
  i20 := by kernel_rfl
  i37 := by kernel_rfl
  i46 := by kernel_rfl
  i51 := by kernel_rfl
  i53 := by kernel_rfl
  i171 := by kernel_rfl
  i173 := by kernel_rfl
  i212 := by kernel_rfl
  i232 := by kernel_rfl
  i233 := by kernel_rfl
  m17 := by kernel_rfl
  m18 := by kernel_rfl
  m19 := by kernel_rfl }
open Go.RowKit Go.Sort Go.Lib in
theorem Tryz.strconv_Itoa (n : Int) (h0 : -9223372036854775808 ≤ n) (h1 : n ≤ 9223372036854775807) (w : World) (htab : Lib.TabIs Tryz.prog w "internal/strconv.uint64pow10" .u64 Lib.pow10Tab) :
    Calls Tryz.prog 57 #[.int .i64 n] w fun e w' => e = .returned (.string ⟨(Lib.itoa n).toArray⟩) ∧ ∃ k os, w' = grow (w.drewN k) os := Any.strconv_Itoa Tryz.laysM171 n h0 h1 w htab
def Tryz.laysM316_ren : Go.Shelf.Ren := ⟨fun | 316 => 145 | n => n, fun | 9 => 9 | 3 => 3 | 4 => 4 | 37 => 124 | 0 => 0 | 127 => 169 | 5 => 5 | n => n, fun | n => n⟩
theorem Tryz.laysM316 : Go.Proofs.LaysM.n316 Tryz.prog Tryz.laysM316_ren := {
  mixed := by kernel_rfl
  f316 := Tryz.func145.trans (congrArg some (by kernel_rfl))
  t0 := Tryz.underlying0
  a0 := Tryz.isAgg0
  z0 := Tryz.sizeOf0
  v0 := Tryz.zeroValue0
  t3 := Tryz.underlying3
  a3 := Tryz.isAgg3
  z3 := Tryz.sizeOf3
  v3 := Tryz.zeroValue3
  t4 := Tryz.underlying4
  a4 := Tryz.isAgg4
  z4 := Tryz.sizeOf4
  v4 := Tryz.zeroValue4
  t9 := Tryz.underlying9
  a9 := Tryz.isAgg9
  z9 := Tryz.sizeOf9
  v9 := Tryz.zeroValue9
  t37 := Tryz.underlying124
  a37 := Tryz.isAgg124
  z37 := Tryz.sizeOf124
  v37 := Tryz.zeroValue124
  t127 := Tryz.underlying169
  a127 := Tryz.isAgg169
  z127 := Tryz.sizeOf169
  v127 := Tryz.zeroValue169
  t5 := Tryz.underlying5
  a5 := Tryz.isAgg5
  z5 := Tryz.sizeOf5
  v5 := Tryz.zeroValue5
  i0 := by kernel_rfl
  i3 := by kernel_rfl
  i4 := by kernel_rfl
  i5 := by kernel_rfl
  i9 := by kernel_rfl
  i37 := by kernel_rfl
  i127 := by kernel_rfl }
open Go.RowKit in
theorem Tryz.stringslite_Clone (s : ByteArray) (w : World) (hlim : s.size ≤ 281474976710656) :
    Calls Tryz.prog 145 #[.string s] w fun e w' => e = .returned (.string s) ∧ Below w.heap.size w w' := Any.stringslite_Clone Tryz.laysM316 s w hlim
def Tryz.lays145_ren : Go.Shelf.Ren := ⟨fun | 145 => 114 | 220 => 144 | 219 => 177 | 217 => 201 | 225 => 202 | 224 => 203 | 267 => 204 | 266 => 214 | 314 => 215 | n => n, fun | 9 => 9 | 4 => 4 | 59 => 170 | 3 => 3 | 5 => 5 | 46 => 159 | 146 => 273 | 51 => 23 | n => n, fun | 1 => 13 | n => n⟩
theorem Tryz.lays145 : Go.Proofs.Lays.n145 Tryz.prog Tryz.lays145_ren := {
  mixed := by kernel_rfl
  f145 := Tryz.func114.trans (congrArg some (by kernel_rfl))
  f217 := Tryz.func201.trans (congrArg some (by kernel_rfl))
  f219 := Tryz.func177.trans (congrArg some (by kernel_rfl))
  f220 := Tryz.func144.trans (congrArg some (by kernel_rfl))
  f224 := Tryz.func203.trans (congrArg some (by kernel_rfl))
  f225 := Tryz.func202.trans (congrArg some (by kernel_rfl))
  f266 := Tryz.func214.trans (congrArg some (by kernel_rfl))
  f267 := Tryz.func204.trans (congrArg some (by kernel_rfl))
  f314 := Tryz.func215.trans (congrArg some (by kernel_rfl))
  t3 := Tryz.underlying3
  a3 := Tryz.isAgg3
  z3 := Tryz.sizeOf3
  v3 := Tryz.zeroValue3
  t4 := Tryz.underlying4
  a4 := Tryz.isAgg4
  z4 := Tryz.sizeOf4
  v4 := Tryz.zeroValue4
  t5 := Tryz.underlying5
  a5 := Tryz.isAgg5
  z5 := Tryz.sizeOf5
  v5 := Tryz.zeroValue5
  t9 := Tryz.underlying9
  a9 := Tryz.isAgg9
  z9 := Tryz.sizeOf9
  v9 := Tryz.zeroValue9
  t46 := Tryz.underlying159
  a46 := Tryz.isAgg159
  z46 := Tryz.sizeOf159
  v46 := Tryz.zeroValue159
  t51 := Tryz.underlying23
  a51 := Tryz.isAgg23
  z51 := Tryz.sizeOf23
  v51 := Tryz.zeroValue23
  t59 := Tryz.underlying170
  a59 := Tryz.isAgg170
  z59 := Tryz.sizeOf170
  v59 := Tryz.zeroValue170
  t146 := Tryz.underlying273
  a146 := Tryz.isAgg273
  z146 := Tryz.sizeOf273
  v146 := Tryz.zeroValue273
  g1 := by kernel_rfl }
open Go.RowKit Go.Lib in
theorem Tryz.strings_Cut (s sep : ByteArray) (m : Int) (w : World) (hs : s.size < 4294967281) (hm : w.cell? ⟨13, 0, none⟩ = some (.int .i64 m)) :
    Calls Tryz.prog 114 #[.string s, .string sep] w fun e w' => e = .returned (.tuple #[.string ⟨(Lib.cut s.data.toList sep.data.toList).1.toArray⟩, .string ⟨(Lib.cut s.data.toList sep.data.toList).2.1.toArray⟩, .bool (Lib.cut s.data.toList sep.data.toList).2.2]) ∧ ∃ n, w' = w.drewN n := Any.strings_Cut Tryz.lays145 s sep m w hs hm
def Tryz.laysGg6_ren : Go.Shelf.Ren := ⟨fun | 6 => 87 | 10 => 117 | 11 => 118 | 12 => 119 | 13 => 120 | 14 => 121 | 24 => 155 | 25 => 156 | 26 => 157 | 27 => 158 | 28 => 159 | 29 => 160 | 30 => 161 | 31 => 162 | 32 => 163 | 33 => 164 | 34 => 180 | 35 => 181 | 36 => 182 | 37 => 183 | 38 => 184 | 39 => 205 | n => n, fun | 20 => 20 | 26 => 141 | 35 => 177 | 0 => 0 | 37 => 179 | 3 => 3 | 41 => 159 | 44 => 184 | 49 => 23 | 51 => 212 | 4 => 4 | 54 => 215 | 53 => 214 | 58 => 160 | 5 => 5 | 9 => 9 | 60 => 244 | 64 => 248 | 66 => 264 | 67 => 111 | 17 => 17 | 32 => 174 | 33 => 175 | 82 => 291 | 12 => 12 | 75 => 286 | 76 => 200 | 77 => 287 | 78 => 169 | 79 => 288 | 80 => 289 | n => n, fun | n => n⟩
theorem Tryz.laysGg6 : Go.Proofs.LaysGg.n6 Tryz.prog Tryz.laysGg6_ren := {
  mixed := by kernel_rfl
  f6 := Tryz.func87.trans (congrArg some (by kernel_rfl))
  f10 := Tryz.func117.trans (congrArg some (by kernel_rfl))
  f11 := Tryz.func118.trans (congrArg some (by kernel_rfl))
  f12 := Tryz.func119.trans (congrArg some (by kernel_rfl))
  f13 := Tryz.func120.trans (congrArg some (by kernel_rfl))
  f14 := Tryz.func121.trans (congrArg some (by kernel_rfl))
  f24 := Tryz.func155.trans (congrArg some (by kernel_rfl))
  f25 := Tryz.func156.trans (congrArg some (by kernel_rfl))
  f26 := Tryz.func157.trans (congrArg some (by kernel_rfl))
  f27 := Tryz.func158.trans (congrArg some (by kernel_rfl))
  f28 := Tryz.func159.trans (congrArg some (by kernel_rfl))
  f29 := Tryz.func160.trans (congrArg some (by kernel_rfl))
  f30 := Tryz.func161.trans (congrArg some (by kernel_rfl))
  f31 := Tryz.func162.trans (congrArg some (by kernel_rfl))
  f32 := Tryz.func163.trans (congrArg some (by kernel_rfl))
  f33 := Tryz.func164.trans (congrArg some (by kernel_rfl))
  f34 := Tryz.func180.trans (congrArg some (by kernel_rfl))
  f35 := Tryz.func181.trans (congrArg some (by kernel_rfl))
  f36 := Tryz.func182.trans (congrArg some (by kernel_rfl))
  f37 := Tryz.func183.trans (congrArg some (by kernel_rfl))
  f38 := Tryz.func184.trans (congrArg some (by kernel_rfl))
  f39 := Tryz.func205.trans (congrArg some (by kernel_rfl))
  t0 := Tryz.underlying0
  a0 := Tryz.isAgg0
  z0 := Tryz.sizeOf0
  v0 := Tryz.zeroValue0
  i0 := by kernel_rfl
  t3 := Tryz.underlying3
  a3 := Tryz.isAgg3
  z3 := Tryz.sizeOf3
  v3 := Tryz.zeroValue3
  i3 := by kernel_rfl
  t4 := Tryz.underlying4
  a4 := Tryz.isAgg4
  z4 := Tryz.sizeOf4
  v4 := Tryz.zeroValue4
  i4 := by kernel_rfl
  t5 := Tryz.underlying5
  a5 := Tryz.isAgg5
  z5 := Tryz.sizeOf5
  v5 := Tryz.zeroValue5
  i5 := by kernel_rfl
  t9 := Tryz.underlying9
  a9 := Tryz.isAgg9
  z9 := Tryz.sizeOf9
  v9 := Tryz.zeroValue9
  i9 := by kernel_rfl
  t12 := Tryz.underlying12
  a12 := Tryz.isAgg12
  z12 := Tryz.sizeOf12
  v12 := Tryz.zeroValue12
  i12 := by kernel_rfl
  t17 := Tryz.underlying17
  a17 := Tryz.isAgg17
  z17 := Tryz.sizeOf17
  v17 := Tryz.zeroValue17
  i17 := by kernel_rfl
  t20 := Tryz.underlying20
  a20 := Tryz.isAgg20
  z20 := Tryz.sizeOf20
  v20 := Tryz.zeroValue20
  i20 := by kernel_rfl
  t26 := Tryz.underlying141
  a26 := Tryz.isAgg141
  z26 := Tryz.sizeOf141
  v26 := Tryz.zeroValue141
  i26 := by kernel_rfl
  t32 := Tryz.underlying174
  a32 := Tryz.isAgg174
  z32 := Tryz.sizeOf174
  v32 := Tryz.zeroValue174
  i32 := by kernel_rfl
  t33 := Tryz.underlying175
  a33 := Tryz.isAgg175
  z33 := Tryz.sizeOf175
  v33 := Tryz.zeroValue175
  i33 := by kernel_rfl
  t35 := Tryz.underlying177
  a35 := Tryz.isAgg177
  z35 := Tryz.sizeOf177
  v35 := Tryz.zeroValue177
  i35 := by kernel_rfl
  t37 := Tryz.underlying179
  a37 := Tryz.isAgg179
  z37 := Tryz.sizeOf179
  v37 := Tryz.zeroValue179
  i37 := by kernel_rfl
  t41 := Tryz.underlying159
  a41 := Tryz.isAgg159
  z41 := Tryz.sizeOf159
  v41 := Tryz.zeroValue159
  i41 := by kernel_rfl
  t44 := Tryz.underlying184
  a44 := Tryz.isAgg184
  z44 := Tryz.sizeOf184
  v44 := Tryz.zeroValue184
  i44 := by kernel_rfl
  t49 := Tryz.underlying23
  a49 := Tryz.isAgg23
  z49 := Tryz.sizeOf23
  v49 := Tryz.zeroValue23
  i49 := by kernel_rfl
  t51 := Tryz.underlying212
  a51 := Tryz.isAgg212
  z51 := Tryz.sizeOf212
  v51 := Tryz.zeroValue212
  i51 := by kernel_rfl
  t53 := Tryz.underlying214
  a53 := Tryz.isAgg214
  z53 := Tryz.sizeOf214
  v53 := Tryz.zeroValue214
  i53 := by kernel_rfl
  t54 := Tryz.underlying215
  a54 := Tryz.isAgg215
  z54 := Tryz.sizeOf215
  v54 := Tryz.zeroValue215
  i54 := by kernel_rfl
  t58 := Tryz.underlying160
  a58 := Tryz.isAgg160
  z58 := Tryz.sizeOf160
  v58 := Tryz.zeroValue160
  i58 := by kernel_rfl
  t60 := Tryz.underlying244
  a60 := Tryz.isAgg244
  z60 := Tryz.sizeOf244
  v60 := Tryz.zeroValue244
  i60 := by kernel_rfl
  t64 := Tryz.underlying248
  a64 := Tryz.isAgg248
  z64 := Tryz.sizeOf248
  v64 := Tryz.zeroValue248
  i64 := by kernel_rfl
  t66 := Tryz.underlying264
  a66 := Tryz.isAgg264
  z66 := Tryz.sizeOf264
  v66 := Tryz.zeroValue264
  i66 := by kernel_rfl
  t67 := Tryz.underlying111
  a67 := Tryz.isAgg111
  z67 := Tryz.sizeOf111
  v67 := Tryz.zeroValue111
  i67 := by kernel_rfl
  t75 := Tryz.underlying286
  a75 := Tryz.isAgg286
  z75 := Tryz.sizeOf286
  v75 := Tryz.zeroValue286
  i75 := by kernel_rfl
  t76 := Tryz.underlying200
  a76 := Tryz.isAgg200
  z76 := Tryz.sizeOf200
  v76 := Tryz.zeroValue200
  i76 := by kernel_rfl
  t77 := Tryz.underlying287
  a77 := Tryz.isAgg287
  z77 := Tryz.sizeOf287
  v77 := Tryz.zeroValue287
  i77 := by kernel_rfl
  t78 := Tryz.underlying169
  a78 := Tryz.isAgg169
  z78 := Tryz.sizeOf169
  v78 := Tryz.zeroValue169
  i78 := by kernel_rfl
  t79 := Tryz.underlying288
  a79 := Tryz.isAgg288
  z79 := Tryz.sizeOf288
  v79 := Tryz.zeroValue288
  i79 := by kernel_rfl
  t80 := Tryz.underlying289
  a80 := Tryz.isAgg289
  z80 := Tryz.sizeOf289
  v80 := Tryz.zeroValue289
  i80 := by kernel_rfl
  t82 := Tryz.underlying291
  a82 := Tryz.isAgg291
  z82 := Tryz.sizeOf291
  v82 := Tryz.zeroValue291
  i82 := by kernel_rfl }
def Tryz.lays146_ren : Go.Shelf.Ren := ⟨fun | 146 => 61 | 221 => 107 | 268 => 134 | 138 => 135 | 143 => 136 | 195 => 174 | 197 => 175 | 218 => 176 | 219 => 177 | 260 => 200 | 217 => 201 | 225 => 202 | 224 => 203 | 267 => 204 | 266 => 214 | 314 => 215 | n => n, fun | 9 => 9 | 31 => 31 | 3 => 3 | 4 => 4 | 0 => 0 | 105 => 229 | 21 => 21 | 5 => 5 | 46 => 159 | 119 => 269 | 139 => 272 | 138 => 271 | 146 => 273 | 51 => 23 | n => n, fun | 1 => 13 | 3 => 15 | 4 => 16 | n => n⟩
theorem Tryz.lays146 : Go.Proofs.Lays.n146 Tryz.prog Tryz.lays146_ren := {
  mixed := by kernel_rfl
  f138 := Tryz.func135.trans (congrArg some (by kernel_rfl))
  f143 := Tryz.func136.trans (congrArg some (by kernel_rfl))
  f146 := Tryz.func61.trans (congrArg some (by kernel_rfl))
  f195 := Tryz.func174.trans (congrArg some (by kernel_rfl))
  f197 := Tryz.func175.trans (congrArg some (by kernel_rfl))
  f217 := Tryz.func201.trans (congrArg some (by kernel_rfl))
  f218 := Tryz.func176.trans (congrArg some (by kernel_rfl))
  f219 := Tryz.func177.trans (congrArg some (by kernel_rfl))
  f221 := Tryz.func107.trans (congrArg some (by kernel_rfl))
  f224 := Tryz.func203.trans (congrArg some (by kernel_rfl))
  f225 := Tryz.func202.trans (congrArg some (by kernel_rfl))
  f260 := Tryz.func200.trans (congrArg some (by kernel_rfl))
  f266 := Tryz.func214.trans (congrArg some (by kernel_rfl))
  f267 := Tryz.func204.trans (congrArg some (by kernel_rfl))
  f268 := Tryz.func134.trans (congrArg some (by kernel_rfl))
  f314 := Tryz.func215.trans (congrArg some (by kernel_rfl))
  t0 := Tryz.underlying0
  a0 := Tryz.isAgg0
  z0 := Tryz.sizeOf0
  v0 := Tryz.zeroValue0
  t3 := Tryz.underlying3
  a3 := Tryz.isAgg3
  z3 := Tryz.sizeOf3
  v3 := Tryz.zeroValue3
  t4 := Tryz.underlying4
  a4 := Tryz.isAgg4
  z4 := Tryz.sizeOf4
  v4 := Tryz.zeroValue4
  t5 := Tryz.underlying5
  a5 := Tryz.isAgg5
  z5 := Tryz.sizeOf5
  v5 := Tryz.zeroValue5
  t9 := Tryz.underlying9
  a9 := Tryz.isAgg9
  z9 := Tryz.sizeOf9
  v9 := Tryz.zeroValue9
  t21 := Tryz.underlying21
  a21 := Tryz.isAgg21
  z21 := Tryz.sizeOf21
  v21 := Tryz.zeroValue21
  t31 := Tryz.underlying31
  a31 := Tryz.isAgg31
  z31 := Tryz.sizeOf31
  v31 := Tryz.zeroValue31
  t46 := Tryz.underlying159
  a46 := Tryz.isAgg159
  z46 := Tryz.sizeOf159
  v46 := Tryz.zeroValue159
  t51 := Tryz.underlying23
  a51 := Tryz.isAgg23
  z51 := Tryz.sizeOf23
  v51 := Tryz.zeroValue23
  t105 := Tryz.underlying229
  a105 := Tryz.isAgg229
  z105 := Tryz.sizeOf229
  v105 := Tryz.zeroValue229
  t119 := Tryz.underlying269
  a119 := Tryz.isAgg269
  z119 := Tryz.sizeOf269
  t138 := Tryz.underlying271
  a138 := Tryz.isAgg271
  z138 := Tryz.sizeOf271
  v138 := Tryz.zeroValue271
  t139 := Tryz.underlying272
  a139 := Tryz.isAgg272
  z139 := Tryz.sizeOf272
  v139 := Tryz.zeroValue272
  t146 := Tryz.underlying273
  a146 := Tryz.isAgg273
  z146 := Tryz.sizeOf273
  v146 := Tryz.zeroValue273
  g1 := by kernel_rfl
  g3 := by kernel_rfl
  g4 := by kernel_rfl }
open Go.RowKit Go.Lib in
theorem Tryz.strings_Split (s sep : ByteArray) (m : Int) (w : World) (hs : s.size < 4294967281) (hm : w.cell? ⟨13, 0, none⟩ = some (.int .i64 m)) (h1 : 1 ≤ sep.size) :
    Calls Tryz.prog 61 #[.string s, .string sep] w fun e w' =>
      e = .returned (.slice (some ⟨w.heap.size, 0, none⟩) (Lib.countB s sep + 1) (Lib.countB s sep + 1)) ∧ w' = w.alloc (.cells ((Lib.splitB sep 0 (Lib.countB s sep) s).map Value.string).toArray 9) := Any.strings_Split Tryz.lays146 (by kernel_rfl) s sep m w hs hm h1
end Go.Proofs
namespace Go.Proofs.YtjdobbjdlighpaaGreatDoor
open Go.RowKit

theorem bcell {B : Nat} {W w1 : World} (hb : Below B W w1) : (∀ b o, b < B → w1.cell? ⟨b, o, none⟩ = W.cell? ⟨b, o, none⟩) ∧ (∀ b o, b < B → w1.frozen? ⟨b, o, none⟩ = W.frozen? ⟨b, o, none⟩) :=
  ⟨fun b o h => hb.cell (p := ⟨b, o, none⟩) h, fun b o h => hb.frozen (p := ⟨b, o, none⟩) h⟩

theorem idText_str (n l : Nat) : (⟨(hexLast n 8).toArray⟩ : ByteArray) ++ ⟨#[45]⟩ ++ ⟨(Lib.decDigits l).toArray⟩ = ⟨(idText n l).toArray⟩ := by
  have h : (⟨#[45]⟩ : ByteArray) = ⟨[45].toArray⟩ := rfl
  rw [h, str_append, str_append]
  simp [idText]
theorem idText_neg (n l : Int) (hl : l < 0) (w : World) :
    Calls Tryz.prog 72 #[idV n l] w fun e w' => e = .returned (.string ⟨#[]⟩) ∧ Below w.heap.size w w' := by
  go_enter Tryz.func72, Tryz.ntmps72
  go_wp2
  go_ret
  exact ⟨rfl, (Below.refl _ _).alloc (Nat.le_refl _) _⟩
theorem text_neg (n l : Int) (hl : l < 0) (w : World) :
    Calls Tryz.prog 59 #[idV n l] w fun e w' => e = .returned (.string ⟨#[]⟩) ∧ Below w.heap.size w w' := by
  go_enter Tryz.func59, Tryz.ntmps59
  go_wp2
  go_ret
  exact ⟨rfl, (Below.refl _ _).alloc (Nat.le_refl _) _⟩

set_option maxHeartbeats 2000000 in
theorem idText_any (n l : Nat) (hn : n < 4294967296) (hl : l ≤ 9223372036854775807) (w : World) :
    Calls Tryz.prog 72 #[idV n l] w fun e w' => e = .returned (.string ⟨(idText n l).toArray⟩) ∧ Below w.heap.size w w' := by
  have h0 : ¬ (l : Int) < 0 := by omega
  have hlx := hexLast_length n 8
  have hld := decDigits_le19 l hl
  go_enter Tryz.func72, Tryz.ntmps72
  go_wp2_with fail
  go_region_with (first
    | (go_at_call 71; refine (hexOf_any n hn _).mono ?_; rintro e w1 ⟨rfl, hb1⟩; obtain ⟨hc1, hf1⟩ := bcell hb1)
    | (go_at_call 70; refine (decimal_any l hl _).mono ?_; rintro e w2 ⟨rfl, hb2⟩; obtain ⟨hc2, hf2⟩ := bcell hb2))
  all_goals go_wp2
  all_goals go_ret
  all_goals refine ⟨?_, ?_⟩
  all_goals first
    | (rw [← idText_str]; rfl)
    | exact (((Below.refl _ _).alloc (Nat.le_refl _) _).trans ((Below.drew (Below.refl _ _)).trans (hb1.mono (by simp)))).trans (hb2.mono (by have := hb1.size; simp at this; omega))

theorem below_grow (w : World) (k : Nat) (os : Array Obj) : Below w.heap.size w (Go.Sort.grow (w.drewN k) os) :=
  ⟨rfl, rfl, rfl, by simp [Go.Sort.grow, World.drewN], fun j hj => by
    show ((w.drewN k).heap ++ os)[j]? = _
    have e : (w.drewN k).heap = w.heap := rfl
    rw [e, Array.getElem?_append_left hj]⟩
abbrev Pow10 (w : World) : Prop := Lib.TabIs Tryz.prog w "internal/strconv.uint64pow10" .u64 Lib.pow10Tab
theorem gPow10 : Tryz.prog.globalNamed "internal/strconv.uint64pow10" = some 14 := by kernel_rfl
theorem Pow10.below {B : Nat} {w w' : World} (h : Pow10 w) (hb : Below B w w') (hB : w.heap.size ≤ B) : Pow10 w' := Joins.tab_stays gPow10 h hb hB
theorem itoa_any (l : Nat) (hl : l ≤ 9223372036854775807) (w : World) (ht : Pow10 w) :
    Calls Tryz.prog 57 #[.int .i64 l] w fun e w' => e = .returned (.string ⟨(Lib.decDigits l).toArray⟩) ∧ Below w.heap.size w w' := by
  refine (Tryz.strconv_Itoa l (by omega) (by omega) w ht).mono ?_
  rintro e w' ⟨rfl, k, os, rfl⟩
  exact ⟨by rw [Lib.itoa_nonneg], below_grow w k os⟩

set_option maxHeartbeats 2000000 in
theorem text_any (n l : Nat) (hn : n < 4294967296) (hl : l ≤ 9223372036854775807) (w : World) (ht : Pow10 w) :
    Calls Tryz.prog 59 #[idV n l] w fun e w' => e = .returned (.string ⟨(idText n l).toArray⟩) ∧ Below w.heap.size w w' := by
  have h0 : ¬ (l : Int) < 0 := by omega
  have hlx := hexLast_length n 8
  have hld := decDigits_le19 l hl
  have HP : Hid (∀ w' B, Below B w w' → w.heap.size ≤ B → Pow10 w') := fun w' B hb hB => ht.below hb hB
  clear ht
  go_enter Tryz.func59, Tryz.ntmps59
  go_wp2_with fail
  go_region_with (first
    | (go_at_call 58; refine (hexText_any n hn _).mono ?_; rintro e w1 ⟨rfl, hb1⟩; obtain ⟨hc1, hf1⟩ := bcell hb1)
    | (go_at_call 57; refine (itoa_any l hl _ ?_).mono ?_; exact HP.out _ _ (((Below.refl _ _).alloc (Nat.le_refl _) _).trans ((Below.drew (Below.refl _ _)).trans (hb1.mono (by simp)))) (Nat.le_refl _); rintro e w2 ⟨rfl, hb2⟩; obtain ⟨hc2, hf2⟩ := bcell hb2))
  all_goals go_wp2
  all_goals go_ret
  all_goals refine ⟨?_, ?_⟩
  all_goals first
    | (rw [← idText_str]; rfl)
    | exact (((Below.refl _ _).alloc (Nat.le_refl _) _).trans ((Below.drew (Below.refl _ _)).trans (hb1.mono (by simp)))).trans (hb2.mono (by have := hb1.size; simp at this; omega))
end Go.Proofs.YtjdobbjdlighpaaGreatDoor
namespace Go.Proofs.YtjdobbjdlighpaaGreatDoor
open Go.RowKit

def idsText (ids : List (Nat × Int)) : List UInt8 := (ids.map fun x => 32 :: idText x.1 x.2.toNat).flatten
def rcpText (nm : List UInt8) (len : Int) (p : Nat) (ids : List (Nat × Int)) : List UInt8 := nm ++ [32] ++ Lib.decDigits len.toNat ++ [32] ++ hexLast p 8 ++ idsText ids
theorem idsText_snoc (ids : List (Nat × Int)) (k : Nat) (h : k < ids.length) : idsText (ids.take (k + 1)) = idsText (ids.take k) ++ [32] ++ idText ids[k].1 ids[k].2.toNat := by
  rw [List.take_succ_eq_append_getElem h, idsText, List.map_append, List.flatten_append]
  simp [idsText]
theorem bytes_append (a b : ByteArray) : (a ++ b).data.toList = a.data.toList ++ b.data.toList := by
  rw [ByteArray.data_append, Array.toList_append]
theorem sz_blank : (⟨#[32]⟩ : ByteArray).size = 1 := rfl
theorem add_eq (a b : ByteArray) (h : a.size + b.size ≤ 100000) : ∃ c : ByteArray, (∀ w : World, (Op.stringOp .add a b).run Tryz.prog w = .ok (.string c) w) ∧ c.data.toList = a.data.toList ++ b.data.toList ∧ c.size = a.size + b.size :=
  ⟨a ++ b, fun w => run_string_add_sum w a b (by omega), bytes_append a b, ByteArray.size_append⟩
theorem bytes_of (l : List UInt8) : (⟨l.toArray⟩ : ByteArray).data.toList = l := by simp
theorem bytes_eq {a : ByteArray} {l : List UInt8} (h : a.data.toList = l) : a = ⟨l.toArray⟩ := by
  apply ByteArray.ext
  apply Array.toList_inj.1
  rw [h]
theorem idText_len (n l : Nat) (h : l ≤ 9223372036854775807) : (idText n l).length ≤ 28 := by
  have := decDigits_le19 l h
  simp [idText, hexLast_length]
  omega

set_option maxRecDepth 100000 in
set_option maxHeartbeats 4000000 in
theorem recipeText_any (nm : ByteArray) (hnm : nm.size ≤ 12) (len p : Nat) (hlen : len ≤ 4000) (hp : p < 4294967296) (v : Value) (ids : List (Nat × Int)) (w : World) (hv : IdsAt w v ids) (hids : ids.length ≤ 250)
    (hok : ∀ j (hj : j < ids.length), idOk ids[j] = true) (h32 : ∀ j (hj : j < ids.length), ids[j].1 < 4294967296) :
    Calls Tryz.prog 24 #[rcpV nm (len : Nat) (p : Nat) v] w fun e w' => e = .returned (.string ⟨(rcpText nm.data.toList len p ids).toArray⟩) ∧ Below w.heap.size w w' := by
  obtain ⟨pa, c, rfl, hcell⟩ := hv
  have HCELL : Hid (∀ W', Below w.heap.size w W' → ∀ i (h : i < ids.length), ∃ b o, pa = some ⟨b, o, none⟩ ∧ W'.cell? ⟨b, o + i * 2, none⟩ = some (.int .u32 (ids[i].1 : Nat)) ∧ W'.cell? ⟨b, o + i * 2 + 1, none⟩ = some (.int .i64 ids[i].2)) := fun W' hb i hi => by
    obtain ⟨b, o, hp, hlt, h1, h2⟩ := hcell i hi
    exact ⟨b, o, hp, (hb.cell (p := ⟨b, o + i * 2, none⟩) hlt).trans h1, (hb.cell (p := ⟨b, o + i * 2 + 1, none⟩) hlt).trans h2⟩
  have HOK : Hid (∀ j (hj : j < ids.length), idOk ids[j] = true) := hok
  have H32 : Hid (∀ j (hj : j < ids.length), ids[j].1 < 4294967296) := h32
  have HP : Hid (p < 4294967296) := hp
  have HL : Hid (len ≤ 4000) := hlen
  have HD : Hid ((Lib.decDigits len).length ≤ 19) := decDigits_le19 len (by omega)
  have hi2 : (ids.length : Int) ≤ 250 := by omega
  clear hcell hok h32 hp hlen
  obtain ⟨D, hD⟩ : ∃ D : ByteArray, (⟨(Lib.decDigits len).toArray⟩ : ByteArray) = D := ⟨_, rfl⟩
  obtain ⟨X, hX⟩ : ∃ X : ByteArray, (⟨(hexLast p 8).toArray⟩ : ByteArray) = X := ⟨_, rfl⟩
  have HDD : Hid ((⟨(Lib.decDigits len).toArray⟩ : ByteArray) = D) := hD
  have HXX : Hid ((⟨(hexLast p 8).toArray⟩ : ByteArray) = X) := hX
  have hDs : D.size ≤ 19 := by rw [← hD]; exact HD.out
  have hXs : X.size = 8 := by rw [← hX]; exact hexLast_length p 8
  clear hD hX
  obtain ⟨S1, hS1, hT1, hZ1⟩ := add_eq nm ⟨#[32]⟩ (by rw [sz_blank]; omega)
  obtain ⟨S2, hS2, hT2, hZ2⟩ := add_eq S1 D (by rw [hZ1, sz_blank]; omega)
  obtain ⟨S3, hS3, hT3, hZ3⟩ := add_eq S2 ⟨#[32]⟩ (by rw [hZ2, hZ1, sz_blank]; omega)
  obtain ⟨S4, hS4, hT4, hZ4⟩ := add_eq S3 X (by rw [hZ3, hZ2, hZ1, sz_blank]; omega)
  have HT : Hid (S4.data.toList = nm.data.toList ++ [32] ++ Lib.decDigits len ++ [32] ++ hexLast p 8) := by
    show _ = _
    rw [hT4, hT3, hT2, hT1, ← HDD.out, ← HXX.out]
  have HZ : Hid (S4.size ≤ 100) := by show _ ≤ _; rw [hZ4, hZ3, hZ2, hZ1, sz_blank]; omega
  clear hT1 hT2 hT3 hT4 hZ1 hZ2 hZ3 hZ4 hDs hXs
  go_enter Tryz.func24, Tryz.ntmps24
  go_wp2_with fail
  have hB0 : Below w.heap.size w (w.alloc (.cells #[.string nm, .int .i64 (len : Nat), .int .u32 (p : Nat), .slice pa ids.length c] 26)) := (Below.refl _ w).alloc (Nat.le_refl _) _
  have c0 := new_cell w #[.string nm, .int .i64 (len : Nat), .int .u32 (p : Nat), .slice pa ids.length c] 26 (i := 0) rfl rfl
  have c1 := new_cell w #[.string nm, .int .i64 (len : Nat), .int .u32 (p : Nat), .slice pa ids.length c] 26 (i := 1) rfl rfl
  have c2 := new_cell w #[.string nm, .int .i64 (len : Nat), .int .u32 (p : Nat), .slice pa ids.length c] 26 (i := 2) rfl rfl
  have c3 := new_cell w #[.string nm, .int .i64 (len : Nat), .int .u32 (p : Nat), .slice pa ids.length c] 26 (i := 3) rfl rfl
  have hsz : w.heap.size < (w.alloc (.cells #[.string nm, .int .i64 (len : Nat), .int .u32 (p : Nat), .slice pa ids.length c] 26)).heap.size := by simp
  obtain ⟨W, hW⟩ : ∃ W, w.alloc (.cells #[.string nm, .int .i64 (len : Nat), .int .u32 (p : Nat), .slice pa ids.length c] 26) = W := ⟨_, rfl⟩
  rw [hW] at hB0 c0 c1 c2 c3 hsz ⊢
  clear hW
  have HK : Hid (∀ W', Below W.heap.size W W' → W'.cell? ⟨w.heap.size, 0, none⟩ = some (.string nm) ∧ W'.cell? ⟨w.heap.size, 1, none⟩ = some (.int .i64 (len : Nat)) ∧ W'.cell? ⟨w.heap.size, 2, none⟩ = some (.int .u32 (p : Nat)) ∧ W'.cell? ⟨w.heap.size, 3, none⟩ = some (.slice pa ids.length c)) := fun W' hb =>
    ⟨(hb.cell (p := ⟨w.heap.size, 0, none⟩) hsz).trans c0, (hb.cell (p := ⟨w.heap.size, 1, none⟩) hsz).trans c1, (hb.cell (p := ⟨w.heap.size, 2, none⟩) hsz).trans c2, (hb.cell (p := ⟨w.heap.size, 3, none⟩) hsz).trans c3⟩
  go_region_held3 (fun w' => w'.cell? ⟨w.heap.size, 0, none⟩ = some (.string nm) ∧ w'.cell? ⟨w.heap.size, 1, none⟩ = some (.int .i64 (len : Nat)) ∧ w'.cell? ⟨w.heap.size, 2, none⟩ = some (.int .u32 (p : Nat))) (go_keep) (first
    | (go_at_call 70; refine (decimal_any len (by have := HL.out; omega) _).mono ?_; rintro e w2 ⟨rfl, hb2⟩; rw [HDD.out]; have hB2 : Below W.heap.size W w2 := (Below.refl _ W).drew.trans (hb2.mono (Nat.le_refl _)); obtain ⟨d0, d1, d2, d3⟩ := HK.out w2 hB2)
    | (go_at_call 71; refine (hexOf_any p HP.out _).mono ?_; rintro e w3 ⟨rfl, hb3⟩; rw [HXX.out]; have hB3 : Below W.heap.size W w3 := hB2.trans (hb3.mono hB2.size); obtain ⟨e0, e1, e2, e3⟩ := HK.out w3 hB3))
  go_wp2_with fail
  have hB3w : Below w.heap.size w w3 := hB0.trans (hB3.mono hB0.size)
  clear hS1 hS2 hS3 hS4 hb2 hb3 d0 d1 d2 d3 e0 e1 e2 e3 c0 c1 c2 c3 hB2 HDD HXX HP HL HD
  go_loopw [3, 4] (fun v i wr => ∃ (k : Nat) (ab : ByteArray), k ≤ ids.length ∧ i = .int .i64 k ∧ v = .string ab ∧ ab.data.toList = nm.data.toList ++ [32] ++ Lib.decDigits len ++ [32] ++ hexLast p 8 ++ idsText (ids.take k) ∧ ab.size ≤ 100 + 30 * k ∧ Below W.heap.size W wr) (fun _ i _ => ids.length - (intOf i).toNat)
  case atStart => exact ⟨0, S4, Nat.zero_le _, rfl, rfl, by rw [HT.out]; simp [idsText], HZ.out, hB3⟩
  case round =>
    obtain ⟨k, ab, hk, rfl, rfl, hab, habs, hbr⟩ := hrel
    have HAB : Hid (ab.data.toList = nm.data.toList ++ [32] ++ Lib.decDigits len ++ [32] ++ hexLast p 8 ++ idsText (ids.take k)) := hab
    have HAS : Hid (ab.size ≤ 100 + 30 * k) := habs
    clear hab habs
    obtain ⟨_, _, _, f3⟩ := HK.out wr hbr
    have hbrw : Below w.heap.size w wr := hB0.trans (hbr.mono hB0.size)
    by_cases hlt : k < ids.length
    · have hlt' : (k : Int) < (ids.length : Int) := by omega
      obtain ⟨b, o, rfl, hd0, hd1⟩ := HCELL.out wr hbrw k hlt
      have hok := HOK.out k hlt
      have h32 := H32.out k hlt
      have HNX : Hid (idsText (ids.take (k + 1)) = idsText (ids.take k) ++ [32] ++ idText ids[k].1 ids[k].2.toNat) := idsText_snoc ids k hlt
      obtain ⟨⟨n, l⟩, hy⟩ : ∃ y, ids[k] = y := ⟨_, rfl⟩
      rw [hy] at hok h32 hd0 hd1 HNX
      simp only [idOk, decide_eq_true_eq] at hok
      obtain ⟨l', rfl⟩ := Int.eq_ofNat_of_zero_le (show 0 ≤ l by omega)
      have HH : Hid (n < 4294967296) := h32
      have HLL : Hid (l' ≤ 64) := by show _ ≤ _; omega
      obtain ⟨I, hI⟩ : ∃ I : ByteArray, (⟨(idText n l').toArray⟩ : ByteArray) = I := ⟨_, rfl⟩
      have HII : Hid ((⟨(idText n l').toArray⟩ : ByteArray) = I) := hI
      have hIs : I.size ≤ 28 := by rw [← hI]; exact idText_len n l' (by omega)
      have has := HAS.out
      obtain ⟨S5, hS5, hT5, hZ5⟩ := add_eq ab ⟨#[32]⟩ (by rw [sz_blank]; omega)
      obtain ⟨S6, hS6, hT6, hZ6⟩ := add_eq S5 I (by rw [hZ5, sz_blank]; omega)
      have HT6 : Hid (S6.data.toList = nm.data.toList ++ [32] ++ Lib.decDigits len ++ [32] ++ hexLast p 8 ++ idsText (ids.take (k + 1))) := by
        show _ = _
        rw [hT6, hT5, HAB.out, HNX.out, ← hI]
        simp
      have HZ6 : Hid (S6.size ≤ 100 + 30 * (k + 1)) := by show _ ≤ _; rw [hZ6, hZ5, sz_blank]; omega
      clear hT5 hT6 hZ5 hZ6 hI hIs has hok h32 hy
      go_wp2_with fail
      refine (idText_any n l' HH.out (by have := HLL.out; omega) _).mono ?_
      rintro e w4 ⟨rfl, hb4⟩
      rw [HII.out]
      go_wp2_with fail
      go_roundw
      case rel => exact ⟨k + 1, S6, by omega, by go_num, rfl, HT6.out, HZ6.out, hbr.trans (hb4.mono hbr.size)⟩
      case measure => simp [intOf]; omega
    · have hge : (ids.length : Int) ≤ (k : Int) := by omega
      go_wp2_with fail
      go_ret
      refine ⟨?_, hbrw⟩
      have e := HAB.out
      rw [List.take_of_length_le (by omega)] at e
      have e2 : ab = ⟨(rcpText nm.data.toList len p ids).toArray⟩ := bytes_eq (by rw [e]; rfl)
      rw [e2]
      rfl
end Go.Proofs.YtjdobbjdlighpaaGreatDoor
namespace Go.Proofs.YtjdobbjdlighpaaGreatDoor

def zs8 : List UInt8 := List.replicate 8 0
/- The window behind n bytes: the last eight, zeros ahead of the first. -/
def win (l : List UInt8) (n : Nat) : List UInt8 := (zs8 ++ l.take n).drop n
def sumB (xs : List UInt8) : Nat := (xs.map UInt8.toNat).sum
def endsAt (l : List UInt8) (n : Nat) : Bool := n == 64 || (decide (16 ≤ n) && sumB (win l n) % 16 == 15)
def scan (l : List UInt8) : Nat → Nat → Nat
  | n, 0 => n
  | n, k + 1 => if endsAt l (n + 1) = true then n + 1 else scan l (n + 1) k
def first (l : List UInt8) : Nat := scan l 0 l.length
def piecesF : Nat → List UInt8 → List (List UInt8)
  | 0, _ => []
  | k + 1, l => match l with
    | [] => []
    | _ :: _ => l.take (first l) :: piecesF k (l.drop (first l))
def pieces (l : List UInt8) : List (List UInt8) := piecesF l.length l
/- The ends of pieces, the first of which begins at n. -/
def endsFrom (n : Nat) : List (List UInt8) → List Nat
  | [] => []
  | p :: r => (n + p.length) :: endsFrom (n + p.length) r
def cuts (l : List UInt8) : List Nat := endsFrom 0 (pieces l)

theorem win_length (l : List UInt8) (n : Nat) (h : n ≤ l.length) : (win l n).length = 8 := by
  simp [win, zs8, Nat.min_eq_left h]
  omega
theorem win_zero (l : List UInt8) : win l 0 = zs8 := by simp [win, zs8]
theorem win_succ (l : List UInt8) (n : Nat) (h : n < l.length) : win l (n + 1) = (win l n).drop 1 ++ [l[n]] := by
  have e : l.take (n + 1) = l.take n ++ [l[n]] := by rw [List.take_succ_eq_append_getElem h]
  unfold win
  rw [e, ← List.append_assoc, List.drop_append_of_le_length (by simp [zs8]; omega), List.drop_drop]
theorem win_late (l : List UInt8) (n : Nat) (h8 : 8 ≤ n) : win l n = (l.drop (n - 8)).take 8 := by
  have e := List.drop_append (l₁ := zs8) (l₂ := l.take n) (i := n)
  unfold win
  rw [e, List.drop_eq_nil_of_le (by simp [zs8]; omega), List.nil_append, List.drop_take]
  simp [zs8]
  congr 1
  omega
theorem win_take (l : List UInt8) (n m : Nat) (h : n ≤ m) : win (l.take m) n = win l n := by
  unfold win
  rw [List.take_take, Nat.min_eq_left h]
theorem endsAt_take (l : List UInt8) (n m : Nat) (h : n ≤ m) : endsAt (l.take m) n = endsAt l n := by
  unfold endsAt
  rw [win_take l n m h]

structure IsFirst (l : List UInt8) (n : Nat) : Prop where
  pos : 0 < n
  le : n ≤ l.length
  no : ∀ j, 0 < j → j < n → endsAt l j = false
  yes : endsAt l n = true ∨ n = l.length

theorem scan_is (l : List UInt8) : ∀ (k n : Nat), n + k = l.length → 0 < l.length → (∀ j, 0 < j → j ≤ n → endsAt l j = false) → (k = 0 → False) → IsFirst l (scan l n k)
  | 0, n, _, _, _, h0 => (h0 rfl).elim
  | k + 1, n, hk, hl, hno, _ => by
    rw [scan]
    by_cases h : endsAt l (n + 1) = true
    · rw [if_pos h]
      exact ⟨by omega, by omega, fun j h1 h2 => hno j h1 (by omega), .inl h⟩
    · rw [if_neg h]
      have h' : endsAt l (n + 1) = false := by simpa using h
      have hno' : ∀ j, 0 < j → j ≤ n + 1 → endsAt l j = false := fun j h1 h2 => by
        by_cases e : j = n + 1
        · rw [e]; exact h'
        · exact hno j h1 (by omega)
      cases k with
      | zero => exact ⟨by simp [scan], by simp [scan]; omega, fun j h1 h2 => hno' j h1 (by simp [scan] at h2; omega), .inr (by simp [scan]; omega)⟩
      | succ k => exact scan_is l (k + 1) (n + 1) (by omega) hl hno' (by omega)
theorem first_is (l : List UInt8) (h : l ≠ []) : IsFirst l (first l) := by
  have hl : 0 < l.length := List.length_pos_iff.2 h
  exact scan_is l l.length 0 (by omega) hl (fun j h1 h2 => by omega) (by omega)
theorem IsFirst.uniq {l : List UInt8} {n m : Nat} (h : IsFirst l n) (k : IsFirst l m) : n = m := by
  rcases Nat.lt_trichotomy n m with hlt | e | hlt
  · exfalso
    have := k.no n h.pos hlt
    rcases h.yes with y | y
    · rw [y] at this; cases this
    · have := k.le; omega
  · exact e
  · exfalso
    have := h.no m k.pos hlt
    rcases k.yes with y | y
    · rw [y] at this; cases this
    · have := h.le; omega
theorem IsFirst.eq {l : List UInt8} {n : Nat} (h : IsFirst l n) : first l = n := by
  refine (first_is l ?_).uniq h
  intro e
  have := h.le; have := h.pos; rw [e] at *; simp at *; omega
theorem first_nil : first [] = 0 := rfl
theorem first_le (l : List UInt8) : first l ≤ l.length := by
  by_cases h : l = []
  · subst h; exact Nat.le_refl _
  · exact (first_is l h).le
theorem first_pos (l : List UInt8) (h : l ≠ []) : 0 < first l := (first_is l h).pos

theorem piecesF_more : ∀ (k m : Nat) (l : List UInt8), l.length ≤ k → l.length ≤ m → piecesF k l = piecesF m l
  | 0, m, l, hk, _ => by
    obtain rfl : l = [] := List.eq_nil_of_length_eq_zero (by omega)
    cases m <;> rfl
  | k + 1, 0, l, _, hm => by
    obtain rfl : l = [] := List.eq_nil_of_length_eq_zero (by omega)
    rfl
  | k + 1, m + 1, [], _, _ => rfl
  | k + 1, m + 1, x :: l, hk, hm => by
    have hp := first_pos (x :: l) (by simp)
    have hd : ((x :: l).drop (first (x :: l))).length ≤ l.length := by simp; omega
    simp only [piecesF]
    rw [piecesF_more k m _ (by simp at hk; omega) (by simp at hm; omega)]
theorem pieces_nil : pieces [] = [] := rfl
theorem pieces_ne (l : List UInt8) (h : l ≠ []) : pieces l = l.take (first l) :: pieces (l.drop (first l)) := by
  cases l with
  | nil => exact (h rfl).elim
  | cons x l =>
    have hp := first_pos (x :: l) (by simp)
    show _ :: piecesF l.length _ = _
    rw [piecesF_more l.length ((x :: l).drop (first (x :: l))).length _ (by simp; omega) (Nat.le_refl _)]
    rfl
theorem pieces_rec {P : List UInt8 → Prop} (h0 : P []) (h1 : ∀ l, l ≠ [] → P (l.drop (first l)) → P l) : ∀ (l : List UInt8), P l := by
  have : ∀ (k : Nat) (l : List UInt8), l.length ≤ k → P l := by
    intro k
    induction k with
    | zero => intro l hl; obtain rfl : l = [] := List.eq_nil_of_length_eq_zero (by omega); exact h0
    | succ k ih =>
      intro l hl
      by_cases e : l = []
      · subst e; exact h0
      · have hp := first_pos l e
        exact h1 l e (ih _ (by simp; omega))
  exact fun l => this l.length l (Nat.le_refl _)

theorem pieces_flatten : ∀ (l : List UInt8), (pieces l).flatten = l := by
  refine pieces_rec (by rw [pieces_nil]; rfl) ?_
  intro l hl ih
  rw [pieces_ne l hl, List.flatten_cons, ih, List.take_append_drop]
theorem pieces_eq_nil (l : List UInt8) : pieces l = [] ↔ l = [] := by
  constructor
  · intro h
    by_cases e : l = []
    · exact e
    · rw [pieces_ne l e] at h; cases h
  · rintro rfl; rfl
theorem pieces_len_le : ∀ (l : List UInt8), (pieces l).length ≤ l.length := by
  refine pieces_rec (by rw [pieces_nil]; exact Nat.le_refl _) ?_
  intro l hl ih
  have hp := first_pos l hl
  have := first_le l
  rw [pieces_ne l hl, List.length_cons]
  simp at ih
  omega
theorem first_le64 (l : List UInt8) : first l ≤ 64 := by
  by_cases e : l = []
  · subst e; decide
  · have h := first_is l e
    by_cases h64 : first l ≤ 64
    · exact h64
    · have := h.no 64 (by omega) (by omega)
      simp [endsAt] at this
theorem first_ge16 (l : List UInt8) (h : first l < l.length) : 16 ≤ first l := by
  have e : l ≠ [] := by rintro rfl; simp at h
  rcases (first_is l e).yes with y | y
  · unfold endsAt at y
    simp at y
    omega
  · omega
theorem drop_ne_nil {l : List UInt8} {n : Nat} (h : l.drop n ≠ []) : n < l.length := by
  by_cases e : n < l.length
  · exact e
  · exact (h (List.drop_eq_nil_of_le (by omega))).elim
/- A piece: not empty, at most 64; at least 16 where another one follows. -/
theorem pieces_at : ∀ (l : List UInt8) (i : Nat) (h : i < (pieces l).length), 0 < ((pieces l)[i]).length ∧ ((pieces l)[i]).length ≤ 64 ∧ (i + 1 < (pieces l).length → 16 ≤ ((pieces l)[i]).length) := by
  refine pieces_rec (by intro i h; rw [pieces_nil] at h; simp at h) ?_
  intro l hl ih i h
  have e := pieces_ne l hl
  have hf := first_le l
  cases i with
  | zero =>
    have e0 : (pieces l)[0] = l.take (first l) := by simp [e]
    have e1 : (pieces l).length = (pieces (l.drop (first l))).length + 1 := by rw [e, List.length_cons]
    rw [e0, List.length_take, Nat.min_eq_left hf]
    refine ⟨first_pos l hl, first_le64 l, fun h1 => first_ge16 l (drop_ne_nil (fun e2 => ?_))⟩
    rw [e1, e2, pieces_nil] at h1
    simp at h1
  | succ i =>
    have h' : i < (pieces (l.drop (first l))).length := by rw [e, List.length_cons] at h; omega
    have e0 : (pieces l)[i + 1] = (pieces (l.drop (first l)))[i] := by simp [e]
    have e1 : (pieces l).length = (pieces (l.drop (first l))).length + 1 := by rw [e, List.length_cons]
    rw [e0, e1]
    have := ih i h'
    exact ⟨this.1, this.2.1, fun h1 => this.2.2 (by omega)⟩

/- What is behind a cut is cut as it is alone; what is ahead of it too. -/
def upto (ps : List (List UInt8)) (k : Nat) : Nat := (ps.take k).flatten.length
theorem pieces_behind : ∀ (l : List UInt8) (k : Nat), k ≤ (pieces l).length → pieces (l.drop (upto (pieces l) k)) = (pieces l).drop k := by
  refine pieces_rec (by intro k _; simp [pieces_nil, upto]) ?_
  intro l hl ih k hk
  have e := pieces_ne l hl
  have hf := first_le l
  cases k with
  | zero => simp [upto]
  | succ k =>
    have hk' : k ≤ (pieces (l.drop (first l))).length := by rw [e, List.length_cons] at hk; omega
    have e1 : upto (pieces l) (k + 1) = first l + upto (pieces (l.drop (first l))) k := by
      rw [upto, e, List.take_succ_cons, List.flatten_cons, List.length_append, List.length_take, Nat.min_eq_left hf]; rfl
    rw [e1, ← List.drop_drop, ih k hk', e, List.drop_succ_cons]
theorem first_take (l : List UInt8) (m : Nat) (hl : l ≠ []) (h : first l ≤ m) : first (l.take m) = first l := by
  have hi := first_is l hl
  have hp := hi.pos; have hle := hi.le
  apply IsFirst.eq
  refine ⟨hi.pos, by rw [List.length_take]; omega, fun j h1 h2 => by rw [endsAt_take l j m (by omega)]; exact hi.no j h1 h2, ?_⟩
  rcases hi.yes with y | y
  · left; rw [endsAt_take l _ m h]; exact y
  · right; rw [List.length_take]; omega
theorem pieces_ahead : ∀ (l : List UInt8) (k : Nat), k ≤ (pieces l).length → pieces (l.take (upto (pieces l) k)) = (pieces l).take k := by
  refine pieces_rec (by intro k _; simp [pieces_nil, upto]) ?_
  intro l hl ih k hk
  have e := pieces_ne l hl
  have hf := first_le l
  cases k with
  | zero => simp [upto, pieces_nil]
  | succ k =>
    have hk' : k ≤ (pieces (l.drop (first l))).length := by rw [e, List.length_cons] at hk; omega
    have e1 : upto (pieces l) (k + 1) = first l + upto (pieces (l.drop (first l))) k := by
      rw [upto, e, List.take_succ_cons, List.flatten_cons, List.length_append, List.length_take, Nat.min_eq_left hf]; rfl
    have hp := first_pos l hl
    have hne : l.take (upto (pieces l) (k + 1)) ≠ [] := by
      intro e2
      have := congrArg List.length e2
      rw [List.length_take, List.length_nil] at this
      omega
    rw [pieces_ne _ hne, first_take l _ hl (by omega), List.take_take, Nat.min_eq_left (by omega), List.drop_take, e1, Nat.add_sub_cancel_left, ih k hk', e, List.take_succ_cons]

theorem endsFrom_length : ∀ (ps : List (List UInt8)) (n : Nat), (endsFrom n ps).length = ps.length
  | [], _ => rfl
  | p :: r, n => by rw [endsFrom, List.length_cons, endsFrom_length r, List.length_cons]
theorem endsFrom_snoc : ∀ (ps : List (List UInt8)) (n : Nat) (p : List UInt8), endsFrom n (ps ++ [p]) = endsFrom n ps ++ [n + ps.flatten.length + p.length]
  | [], n, p => by simp [endsFrom]
  | q :: r, n, p => by
    rw [List.cons_append, endsFrom, endsFrom_snoc r, endsFrom, List.cons_append, List.flatten_cons, List.length_append]
    simp only [Nat.add_assoc]
theorem endsFrom_at : ∀ (ps : List (List UInt8)) (n i : Nat) (h : i < (endsFrom n ps).length), (endsFrom n ps)[i] = n + upto ps (i + 1)
  | [], _, _, h => by simp [endsFrom] at h
  | p :: r, n, 0, _ => by simp [endsFrom, upto]
  | p :: r, n, i + 1, h => by
    have h' : i < (endsFrom (n + p.length) r).length := by rw [endsFrom, List.length_cons] at h; omega
    have := endsFrom_at r (n + p.length) i h'
    simp only [endsFrom, List.getElem_cons_succ]
    rw [this, upto, upto, List.take_succ_cons, List.flatten_cons, List.length_append, Nat.add_assoc]
theorem cuts_length (l : List UInt8) : (cuts l).length = (pieces l).length := endsFrom_length _ _
theorem cuts_at (l : List UInt8) (i : Nat) (h : i < (cuts l).length) : (cuts l)[i] = upto (pieces l) (i + 1) := by
  have := endsFrom_at (pieces l) 0 i h
  rw [Nat.zero_add] at this
  exact this
theorem upto_le (l : List UInt8) (k : Nat) : upto (pieces l) k ≤ l.length := by
  have h1 := congrArg List.length (congrArg List.flatten (List.take_append_drop k (pieces l)))
  rw [List.flatten_append, List.length_append, pieces_flatten] at h1
  unfold upto
  omega
end Go.Proofs.YtjdobbjdlighpaaGreatDoor
namespace Go.Proofs.YtjdobbjdlighpaaGreatDoor
open Go.RowKit

abbrev u8V (c : UInt8) : Value := .int .u8 c.toNat
/- Block b is a window that holds xs. -/
def WinAt (w : World) (b : Nat) (xs : List UInt8) : Prop := w.heap[b]? = some (.cells (xs.map u8V).toArray 190 (0, 0))
theorem WinAt.cell {w : World} {b : Nat} {xs : List UInt8} (h : WinAt w b xs) {i : Nat} (hi : i < xs.length) : w.cell? ⟨b, i, none⟩ = some (u8V xs[i]) := by
  simp [World.cell?, show w.heap[b]? = _ from h, hi]
theorem WinAt.frozen {w : World} {b : Nat} {xs : List UInt8} (h : WinAt w b xs) (i : Nat) : w.frozen? ⟨b, i, none⟩ = false := by
  simp [World.frozen?, show w.heap[b]? = _ from h]
theorem WinAt.set {w : World} {b : Nat} {xs : List UInt8} (h : WinAt w b xs) (i : Nat) (c : UInt8) : WinAt (w.setCell ⟨b, i, none⟩ (u8V c)) b (xs.set i c) := by
  obtain ⟨hlt, hk⟩ := Array.getElem?_eq_some_iff.1 h
  show (w.heap.modify b _)[b]? = _
  rw [Array.getElem?_eq_getElem (by rw [Array.size_modify]; exact hlt), Array.getElem_modify_self, hk]
  simp [List.map_set]
theorem set_last (l : List UInt8) (x c : UInt8) (h : l.length = 7) : (l ++ [x]).set 7 c = l ++ [c] := by
  rw [List.set_append_right _ _ (by omega), h]
  rfl
theorem infoByte : (Tryz.prog.info? 5).map (·.size) = some 1 := by kernel_rfl

set_option maxRecDepth 100000 in
set_option maxHeartbeats 2000000 in
theorem take_any (b : Nat) (c : UInt8) (xs : List UInt8) (hx : xs.length = 8) (w : World) (hw : WinAt w b xs) :
    Calls Tryz.prog 128 #[.pointer (some ⟨b, 0, none⟩), u8V c] w fun e w' => (∃ v, e = .returned v) ∧ WinAt w' b (xs.drop 1 ++ [c]) ∧ Below b w w' := by
  have H : Hid (w.drew.heap[b]? = some (.cells (xs.map u8V).toArray 190 (0, 0))) := hw
  have HX : Hid (xs.length = 8) := hx
  have HN : Hid (((xs.drop 1).map u8V).length = Nat.min 7 8) := by show _ = _; simp; omega
  have HS : Hid (∀ j v, ((xs.drop 1).map u8V)[j]? = some v → w.drew.cell? ((⟨b, 1, none⟩ : Addr).add j) = some v) := by
    intro j v h
    have hj : j + 1 < xs.length := by
      have := (List.getElem?_eq_some_iff.1 h).1
      simp at this
      omega
    have e1 := WinAt.cell (w := w.drew) hw hj
    rw [List.getElem?_map, List.getElem?_drop, Nat.add_comm 1 j, List.getElem?_eq_getElem hj] at h
    simp at h
    subst h
    have e2 : (⟨b, 1, none⟩ : Addr).add j = ⟨b, j + 1, none⟩ := by unfold Addr.add; split <;> simp_all [Nat.add_comm]
    rw [e2]
    exact e1
  have H1 : Hid (∀ v ∈ (xs.drop 1).map u8V, v.oneCell' = true) := by
    intro v h
    simp only [List.mem_map] at h
    obtain ⟨u, _, rfl⟩ := h
    rfl
  have HF : Hid (0 + ((xs.drop 1).map u8V).length ≤ (xs.map u8V).length) := by show _ ≤ _; simp
  clear hw hx
  go_enter Tryz.func128, Tryz.ntmps128
  go_wp2
  go_region_law (refine step_copy_splice rfl (.tmp 6) (.tmp 9) 124 124 rfl 5 Tryz.underlying124 infoByte (some ⟨b, 0, none⟩) (some ⟨b, 1, none⟩) 8 8 7 7 (by simp [Act.eval, Act.put]) (by simp [Act.eval, Act.put]) b 0 (xs.map u8V) 190 H.out ((xs.drop 1).map u8V) HN.out (fun _ => ⟨rfl, _, rfl, HS.out⟩) HF.out H1.out b w (Below.refl b w).drew (Nat.le_refl _) ?_; intro w4 hg4 hb4)
  obtain ⟨ys, hys, hw4, hset⟩ : ∃ ys : List UInt8, ys.length = 8 ∧ WinAt w4 b ys ∧ ys.set 7 c = xs.drop 1 ++ [c] := by
    have hx := HX.out
    refine ⟨xs.drop 1 ++ [xs[7]'(by omega)], by simp; omega, ?_, set_last _ _ _ (by simp; omega)⟩
    have := hg4.out
    show w4.heap[b]? = _
    rw [this]
    congr 3
    rw [splice]
    simp [hx]
    rw [List.drop_eq_getElem_cons (by simp; omega)]
    simp [hx]
  obtain ⟨U, hc4⟩ : ∃ U, w4.cell? ⟨b, 7, none⟩ = some (.int .u8 U) := ⟨_, hw4.cell (i := 7) (by omega)⟩
  have hf4 := hw4.frozen 7
  have HW : Hid (WinAt w4 b ys) := hw4
  have HT : Hid (ys.set 7 c = xs.drop 1 ++ [c]) := hset
  clear hw4 hg4 hset
  go_wp2
  go_end0
  refine ⟨⟨_, rfl⟩, ?_, hb4.setCell (p := ⟨b, 7, none⟩) (Nat.le_refl _) _⟩
  have := HW.out.set 7 c
  rwa [HT.out] at this

theorem sumB_snoc (xs : List UInt8) (j : Nat) (h : j < xs.length) : sumB (xs.take (j + 1)) = sumB (xs.take j) + xs[j].toNat := by
  rw [List.take_succ_eq_append_getElem h, sumB, List.map_append, List.sum_append]
  simp [sumB]
set_option maxRecDepth 100000 in
set_option maxHeartbeats 2000000 in
theorem ends_any (b : Nat) (xs : List UInt8) (hx : xs.length = 8) (w : World) (hw : WinAt w b xs) :
    Calls Tryz.prog 129 #[.pointer (some ⟨b, 0, none⟩)] w fun e w' => e = .returned (.bool (sumB xs % 16 == 15)) ∧ w' = w := by
  have HW : Hid (WinAt w b xs) := hw
  clear hw
  go_enter Tryz.func129, Tryz.ntmps129
  go_wp2
  go_loopw [3, 7] (fun v i wr => ∃ (j : Nat), j ≤ 8 ∧ i = .int .i64 j ∧ v = .int .u8 ((sumB (xs.take j) % 256 : Nat) : Int) ∧ wr = w) (fun _ i _ => 8 - (intOf i).toNat)
  case atStart => exact ⟨0, Nat.zero_le _, rfl, rfl, rfl⟩
  case round =>
    obtain ⟨j, hj, rfl, rfl, rfl⟩ := hrel
    by_cases hlt : j < 8
    · have hc := HW.out.cell (i := j) (by omega)
      go_wp2
      go_roundw
      case rel => exact ⟨j + 1, by omega, by go_num, by rw [sumB_snoc xs j (by omega)]; congr 1; omega, trivial⟩
      case measure => simp [intOf]; omega
    · go_wp2
      go_ret
      obtain rfl : j = 8 := by omega
      rw [List.take_of_length_le (by omega)]
      refine ⟨?_, rfl⟩
      show Ending.returned (.bool _) = _
      congr 2
      rw [Bool.eq_iff_iff]
      simp
      omega
end Go.Proofs.YtjdobbjdlighpaaGreatDoor
