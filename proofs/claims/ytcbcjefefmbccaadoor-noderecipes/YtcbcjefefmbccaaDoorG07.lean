/-
  Own text. Contracts of the library at this program's numbers, each one application of the shelf's own theorem: laysGg6, stringslite_Clone, strconv_Itoa, strings_Join, strings_Join_none, strings_Split, strings_CutPrefix, strings_Cut, Builder_String.
  Own text. Texts of IDs: print.Text and the document's IDText by contracts. Condition of print.Text: strconv's table of powers of ten lies as the program's text lays it.
  Own text. A right recipe as a text, pure, and the document's RecipeText by a contract.
  Own text. Pure: where a text's pieces end (the document's chapter 2): the window of the last eight bytes, the first piece, all pieces, the ends.
-/
import Derived.Shelf.Strings.Builder1
import Derived.Shelf.Strings.Builder2
import Derived.Shelf.Strings.OnBuilder
import Derived.Shelf.Small.Bits
import Derived.Shelf.Strings.BuilderF
import Derived.Shelf.Strings.BuilderK
import Derived.Shelf.Strconv.Itoa0
import Derived.Shelf.Strconv.Itoa1
import Derived.Shelf.LaysM
import Derived.Shelf.Strconv.Itoa2
import Derived.Shelf.Strconv.Itoa3
import Derived.Shelf.Strconv.Clone
import Derived.Shelf.Strings.Search1
import Derived.Shelf.Strings.Search2
import Derived.Shelf.Strings.Cut
import Derived.Shelf.Strings.Shaped
import Derived.Ground.GgsProg
import Derived.Shelf.GgSortFunc.Insertion
import Derived.Shelf.GgSortFunc.Small
import Derived.Shelf.GgSortFunc.InsertionK
import Derived.Shelf.GgSortFunc.SmallK
import Derived.Shelf.GgSortFunc.Tiny
import Derived.Shelf.GgSortFunc.Compose
import Derived.Shelf.GgSortFunc.LotD
import Derived.Shelf.SlSortFunc.Xorshift
import Derived.Shelf.SlSortFuncK.ComposeK
import Derived.Shelf.SlSortFuncK.SiftDownK
import Derived.Shelf.SlSortFuncK.HeapSortK
import Derived.Shelf.SlSortFuncK.PartialInsertionK
import Derived.Shelf.SlSortFuncK.LotDK
import Derived.Shelf.SlSortFuncK.PivotK
import Derived.Shelf.SlSortFuncK.PartitionK
import Derived.Shelf.SlSortFuncK.PdqK
import Derived.Shelf.SlSortFuncK.WholeK
import Derived.Test.YtcbcjefefmbccaaDoorProg
import Derived.Test.YtcbcjefefmbccaaDoorG06
import Derived.Deep.RegionWith
import Derived.Lib.SmallJoins
import Derived.Lib.ItoaMem
namespace Go.Proofs
open Go.Shelf
def Tryd.lays169_ren : Go.Shelf.Ren := ⟨fun | 169 => 73 | n => n, fun | 70 => 124 | 9 => 9 | 0 => 0 | 72 => 126 | 37 => 43 | 127 => 170 | 3 => 3 | 5 => 5 | n => n, fun | n => n⟩
theorem Tryd.lays169 : Go.Proofs.Lays.n169 Tryd.prog Tryd.lays169_ren := {
  mixed := by kernel_rfl
  f169 := Tryd.func73.trans (congrArg some (by kernel_rfl))
  t0 := Tryd.underlying0
  a0 := Tryd.isAgg0
  z0 := Tryd.sizeOf0
  v0 := Tryd.zeroValue0
  t3 := Tryd.underlying3
  a3 := Tryd.isAgg3
  z3 := Tryd.sizeOf3
  v3 := Tryd.zeroValue3
  t9 := Tryd.underlying9
  a9 := Tryd.isAgg9
  z9 := Tryd.sizeOf9
  v9 := Tryd.zeroValue9
  t37 := Tryd.underlying43
  a37 := Tryd.isAgg43
  z37 := Tryd.sizeOf43
  v37 := Tryd.zeroValue43
  t70 := Tryd.underlying124
  a70 := Tryd.isAgg124
  z70 := Tryd.sizeOf124
  v70 := Tryd.zeroValue124
  t72 := Tryd.underlying126
  a72 := Tryd.isAgg126
  z72 := Tryd.sizeOf126
  v72 := Tryd.zeroValue126
  t127 := Tryd.underlying170
  a127 := Tryd.isAgg170
  z127 := Tryd.sizeOf170
  v127 := Tryd.zeroValue170 }
theorem Tryd.Builder_Extra_169 : Builder.Extra Tryd.prog Tryd.lays169_ren := {
  sizeBuilder := by kernel_rfl
  liesBuilder := by kernel_rfl
  t5 := Tryd.underlying5
  a5 := Tryd.isAgg5
  z5 := Tryd.sizeOf5
  v5 := Tryd.zeroValue5
  infoByte := by kernel_rfl
  cellsByte := by kernel_rfl
  sizeByte := by kernel_rfl
  neB5 := by decide }
open Go.RowKit in
theorem Tryd.Builder_String (B b : Nat) (l : List UInt8) (w : World) (h : Lib.IsBuilder 126 5 B b (Lib.byteCells l) w) (h0 : l ≠ []) :
    Calls Tryd.prog 73 #[.pointer (some ⟨b, 0, none⟩)] w fun e w' => e = .returned (.string ⟨l.toArray⟩) ∧ Below B w w' := Any.Builder_String Tryd.lays169 Tryd.Builder_Extra_169 B b l w h h0
def Tryd.lays156_ren : Go.Shelf.Ren := ⟨fun | 156 => 135 | 165 => 149 | 166 => 72 | 169 => 73 | 240 => 99 | 241 => 161 | 276 => 133 | 277 => 166 | n => n, fun | 31 => 54 | 9 => 9 | 3 => 3 | 4 => 4 | 0 => 0 | 20 => 20 | 72 => 126 | 76 => 84 | 70 => 124 | 37 => 43 | 75 => 25 | 127 => 170 | 164 => 146 | 5 => 5 | 80 => 128 | n => n, fun | n => n⟩
theorem Tryd.lays156 : Go.Proofs.Lays.n156 Tryd.prog Tryd.lays156_ren := {
  mixed := by kernel_rfl
  f156 := Tryd.func135.trans (congrArg some (by kernel_rfl))
  f165 := Tryd.func149.trans (congrArg some (by kernel_rfl))
  f166 := Tryd.func72.trans (congrArg some (by kernel_rfl))
  f169 := Tryd.func73.trans (congrArg some (by kernel_rfl))
  f240 := Tryd.func99.trans (congrArg some (by kernel_rfl))
  f241 := Tryd.func161.trans (congrArg some (by kernel_rfl))
  f276 := Tryd.func133.trans (congrArg some (by kernel_rfl))
  f277 := Tryd.func166.trans (congrArg some (by kernel_rfl))
  t0 := Tryd.underlying0
  a0 := Tryd.isAgg0
  z0 := Tryd.sizeOf0
  v0 := Tryd.zeroValue0
  t3 := Tryd.underlying3
  a3 := Tryd.isAgg3
  z3 := Tryd.sizeOf3
  v3 := Tryd.zeroValue3
  t4 := Tryd.underlying4
  a4 := Tryd.isAgg4
  z4 := Tryd.sizeOf4
  v4 := Tryd.zeroValue4
  t9 := Tryd.underlying9
  a9 := Tryd.isAgg9
  z9 := Tryd.sizeOf9
  v9 := Tryd.zeroValue9
  t20 := Tryd.underlying20
  a20 := Tryd.isAgg20
  z20 := Tryd.sizeOf20
  v20 := Tryd.zeroValue20
  t31 := Tryd.underlying54
  a31 := Tryd.isAgg54
  z31 := Tryd.sizeOf54
  v31 := Tryd.zeroValue54
  t37 := Tryd.underlying43
  a37 := Tryd.isAgg43
  z37 := Tryd.sizeOf43
  v37 := Tryd.zeroValue43
  t70 := Tryd.underlying124
  a70 := Tryd.isAgg124
  z70 := Tryd.sizeOf124
  v70 := Tryd.zeroValue124
  t72 := Tryd.underlying126
  a72 := Tryd.isAgg126
  z72 := Tryd.sizeOf126
  v72 := Tryd.zeroValue126
  t75 := Tryd.underlying25
  a75 := Tryd.isAgg25
  z75 := Tryd.sizeOf25
  v75 := Tryd.zeroValue25
  t76 := Tryd.underlying84
  a76 := Tryd.isAgg84
  z76 := Tryd.sizeOf84
  v76 := Tryd.zeroValue84
  t127 := Tryd.underlying170
  a127 := Tryd.isAgg170
  z127 := Tryd.sizeOf170
  v127 := Tryd.zeroValue170
  t164 := Tryd.underlying146
  a164 := Tryd.isAgg146
  z164 := Tryd.sizeOf146
  v164 := Tryd.zeroValue146 }
theorem Tryd.Builder_Extra_156 : Builder.Extra Tryd.prog Tryd.lays156_ren := {
  sizeBuilder := by kernel_rfl
  liesBuilder := by kernel_rfl
  t5 := Tryd.underlying5
  a5 := Tryd.isAgg5
  z5 := Tryd.sizeOf5
  v5 := Tryd.zeroValue5
  infoByte := by kernel_rfl
  cellsByte := by kernel_rfl
  sizeByte := by kernel_rfl
  neB5 := by decide }
open Go.RowKit in
theorem Tryd.strings_Join_none (a : Option Addr) (c : Nat) (sep : ByteArray) (w : World) :
    Calls Tryd.prog 135 #[.slice a 0 c, .string sep] w fun e w' => e = .returned (.string ⟨#[]⟩) ∧ w' = w := Any.strings_Join_none Tryd.lays156 Tryd.Builder_Extra_156 a c sep w
open Go.RowKit in
theorem Tryd.strings_Join (bk o c : Nat) (xs : List ByteArray) (sep : ByteArray) (w : World) (hcells : ∀ (j : Nat) x, xs[j]? = some x → w.cell? ⟨bk, o + j, none⟩ = some (.string x)) (hbk : bk < w.heap.size) (hN : xs.length ≤ 140737488355328) (hcap : xs.length ≤ c) (hlen : (Lib.join (xs.map (·.data.toList)) sep.data.toList).length ≤ 140737488355328) :
    Calls Tryd.prog 135 #[.slice (some ⟨bk, o, none⟩) xs.length c, .string sep] w fun e w' => e = .returned (.string ⟨(Lib.join (xs.map (·.data.toList)) sep.data.toList).toArray⟩) ∧ Below w.heap.size w w' := Any.strings_Join Tryd.lays156 Tryd.Builder_Extra_156 bk o c xs sep w hcells hbk hN hcap hlen
def Tryd.laysM171_ren : Go.Shelf.Ren := ⟨fun | 171 => 58 | 243 => 91 | 246 => 110 | 283 => 139 | 284 => 140 | 285 => 141 | 286 => 142 | 129 => 123 | 317 => 152 | 318 => 153 | 319 => 154 | 320 => 155 | 337 => 162 | 338 => 163 | n => n, fun | 3 => 3 | 9 => 9 | 2 => 2 | 4 => 4 | 171 => 212 | 0 => 0 | 53 => 199 | 37 => 43 | 5 => 5 | 173 => 214 | 212 => 229 | 51 => 35 | 20 => 20 | 213 => 230 | 46 => 160 | 232 => 239 | 233 => 240 | n => n, fun | 17 => 13 | 18 => 15 | 19 => 16 | n => n⟩
theorem Tryd.laysM171 : Go.Proofs.LaysM.n171 Tryd.prog Tryd.laysM171_ren := {
  mixed := by kernel_rfl
  f129 := Tryd.func123.trans (congrArg some (by kernel_rfl))
  f171 := Tryd.func58.trans (congrArg some (by kernel_rfl))
  f243 := Tryd.func91.trans (congrArg some (by kernel_rfl))
  f246 := Tryd.func110.trans (congrArg some (by kernel_rfl))
  f283 := Tryd.func139.trans (congrArg some (by kernel_rfl))
  f284 := Tryd.func140.trans (congrArg some (by kernel_rfl))
  f285 := Tryd.func141.trans (congrArg some (by kernel_rfl))
  f286 := Tryd.func142.trans (congrArg some (by kernel_rfl))
  f317 := Tryd.func152.trans (congrArg some (by kernel_rfl))
  f318 := Tryd.func153.trans (congrArg some (by kernel_rfl))
  f319 := Tryd.func154.trans (congrArg some (by kernel_rfl))
  f320 := Tryd.func155.trans (congrArg some (by kernel_rfl))
  f337 := Tryd.func162.trans (congrArg some (by kernel_rfl))
  f338 := Tryd.func163.trans (congrArg some (by kernel_rfl))
  t0 := Tryd.underlying0
  a0 := Tryd.isAgg0
  z0 := Tryd.sizeOf0
  v0 := Tryd.zeroValue0
  t2 := Tryd.underlying2
  a2 := Tryd.isAgg2
  z2 := Tryd.sizeOf2
  v2 := Tryd.zeroValue2
  t3 := Tryd.underlying3
  a3 := Tryd.isAgg3
  z3 := Tryd.sizeOf3
  v3 := Tryd.zeroValue3
  t4 := Tryd.underlying4
  a4 := Tryd.isAgg4
  z4 := Tryd.sizeOf4
  v4 := Tryd.zeroValue4
  t5 := Tryd.underlying5
  a5 := Tryd.isAgg5
  z5 := Tryd.sizeOf5
  v5 := Tryd.zeroValue5
  t9 := Tryd.underlying9
  a9 := Tryd.isAgg9
  z9 := Tryd.sizeOf9
  v9 := Tryd.zeroValue9
  t20 := Tryd.underlying20
  a20 := Tryd.isAgg20
  z20 := Tryd.sizeOf20
  v20 := Tryd.zeroValue20
  t37 := Tryd.underlying43
  a37 := Tryd.isAgg43
  z37 := Tryd.sizeOf43
  v37 := Tryd.zeroValue43
  t46 := Tryd.underlying160
  a46 := Tryd.isAgg160
  z46 := Tryd.sizeOf160
  v46 := Tryd.zeroValue160
  t51 := Tryd.underlying35
  a51 := Tryd.isAgg35
  z51 := Tryd.sizeOf35
  v51 := Tryd.zeroValue35
  t53 := Tryd.underlying199
  a53 := Tryd.isAgg199
  z53 := Tryd.sizeOf199
  v53 := Tryd.zeroValue199
  t171 := Tryd.underlying212
  a171 := Tryd.isAgg212
  z171 := Tryd.sizeOf212
  v171 := Tryd.zeroValue212
  t173 := Tryd.underlying214
  a173 := Tryd.isAgg214
  z173 := Tryd.sizeOf214
  v173 := Tryd.zeroValue214
  t212 := Tryd.underlying229
  a212 := Tryd.isAgg229
  z212 := Tryd.sizeOf229
  v212 := Tryd.zeroValue229
  t213 := Tryd.underlying230
  a213 := Tryd.isAgg230
  z213 := Tryd.sizeOf230
  t232 := Tryd.underlying239
  a232 := Tryd.isAgg239
  z232 := Tryd.sizeOf239
  v232 := Tryd.zeroValue239
  t233 := Tryd.underlying240
  a233 := Tryd.isAgg240
  z233 := Tryd.sizeOf240
  v233 := Tryd.zeroValue240
  g17 := by kernel_rfl
  g18 := by kernel_rfl
  g19 := by kernel_rfl
  i0 := by kernel_rfl
  i2 := by kernel_rfl
  i3 := by kernel_rfl
  i4 := by kernel_rfl
  i5 := by kernel_rfl
  i9 := by kernel_rfl
  i20 := by kernel_rfl
  i37 := by kernel_rfl
  i46 := by kernel_rfl
  i51 := by kernel_rfl
  i53 := by kernel_rfl
  i171 := by kernel_rfl
  i173 := by kernel_rfl
  i212 := by kernel_rfl
  i232 := by kernel_rfl
  i233 := by kernel_rfl
  m17 := by kernel_rfl
  m18 := by kernel_rfl
  m19 := by kernel_rfl }
open Go.RowKit Go.Sort Go.Lib in
theorem Tryd.strconv_Itoa (n : Int) (h0 : -9223372036854775808 ≤ n) (h1 : n ≤ 9223372036854775807) (w : World) (htab : Lib.TabIs Tryd.prog w "internal/strconv.uint64pow10" .u64 Lib.pow10Tab) :
    Calls Tryd.prog 58 #[.int .i64 n] w fun e w' => e = .returned (.string ⟨(Lib.itoa n).toArray⟩) ∧ ∃ k os, w' = grow (w.drewN k) os := Any.strconv_Itoa Tryd.laysM171 n h0 h1 w htab
def Tryd.laysM316_ren : Go.Shelf.Ren := ⟨fun | 316 => 112 | n => n, fun | 9 => 9 | 3 => 3 | 4 => 4 | 37 => 43 | 0 => 0 | 127 => 170 | 5 => 5 | n => n, fun | n => n⟩
theorem Tryd.laysM316 : Go.Proofs.LaysM.n316 Tryd.prog Tryd.laysM316_ren := {
  mixed := by kernel_rfl
  f316 := Tryd.func112.trans (congrArg some (by kernel_rfl))
  t0 := Tryd.underlying0
  a0 := Tryd.isAgg0
  z0 := Tryd.sizeOf0
  v0 := Tryd.zeroValue0
  t3 := Tryd.underlying3
  a3 := Tryd.isAgg3
  z3 := Tryd.sizeOf3
  v3 := Tryd.zeroValue3
  t4 := Tryd.underlying4
  a4 := Tryd.isAgg4
  z4 := Tryd.sizeOf4
  v4 := Tryd.zeroValue4
  t9 := Tryd.underlying9
  a9 := Tryd.isAgg9
  z9 := Tryd.sizeOf9
  v9 := Tryd.zeroValue9
  t37 := Tryd.underlying43
  a37 := Tryd.isAgg43
  z37 := Tryd.sizeOf43
  v37 := Tryd.zeroValue43
  t127 := Tryd.underlying170
  a127 := Tryd.isAgg170
  z127 := Tryd.sizeOf170
  v127 := Tryd.zeroValue170
  t5 := Tryd.underlying5
  a5 := Tryd.isAgg5
  z5 := Tryd.sizeOf5
  v5 := Tryd.zeroValue5
  i0 := by kernel_rfl
  i3 := by kernel_rfl
  i4 := by kernel_rfl
  i5 := by kernel_rfl
  i9 := by kernel_rfl
  i37 := by kernel_rfl
  i127 := by kernel_rfl }
open Go.RowKit in
theorem Tryd.stringslite_Clone (s : ByteArray) (w : World) (hlim : s.size ≤ 281474976710656) :
    Calls Tryd.prog 112 #[.string s] w fun e w' => e = .returned (.string s) ∧ Below w.heap.size w w' := Any.stringslite_Clone Tryd.laysM316 s w hlim
def Tryd.lays145_ren : Go.Shelf.Ren := ⟨fun | 145 => 98 | 220 => 132 | 219 => 148 | 217 => 157 | 225 => 158 | 224 => 159 | 267 => 160 | 266 => 164 | 314 => 165 | n => n, fun | 9 => 9 | 4 => 4 | 59 => 168 | 3 => 3 | 5 => 5 | 46 => 160 | 146 => 236 | 51 => 35 | n => n, fun | 1 => 14 | n => n⟩
theorem Tryd.lays145 : Go.Proofs.Lays.n145 Tryd.prog Tryd.lays145_ren := {
  mixed := by kernel_rfl
  f145 := Tryd.func98.trans (congrArg some (by kernel_rfl))
  f217 := Tryd.func157.trans (congrArg some (by kernel_rfl))
  f219 := Tryd.func148.trans (congrArg some (by kernel_rfl))
  f220 := Tryd.func132.trans (congrArg some (by kernel_rfl))
  f224 := Tryd.func159.trans (congrArg some (by kernel_rfl))
  f225 := Tryd.func158.trans (congrArg some (by kernel_rfl))
  f266 := Tryd.func164.trans (congrArg some (by kernel_rfl))
  f267 := Tryd.func160.trans (congrArg some (by kernel_rfl))
  f314 := Tryd.func165.trans (congrArg some (by kernel_rfl))
  t3 := Tryd.underlying3
  a3 := Tryd.isAgg3
  z3 := Tryd.sizeOf3
  v3 := Tryd.zeroValue3
  t4 := Tryd.underlying4
  a4 := Tryd.isAgg4
  z4 := Tryd.sizeOf4
  v4 := Tryd.zeroValue4
  t5 := Tryd.underlying5
  a5 := Tryd.isAgg5
  z5 := Tryd.sizeOf5
  v5 := Tryd.zeroValue5
  t9 := Tryd.underlying9
  a9 := Tryd.isAgg9
  z9 := Tryd.sizeOf9
  v9 := Tryd.zeroValue9
  t46 := Tryd.underlying160
  a46 := Tryd.isAgg160
  z46 := Tryd.sizeOf160
  v46 := Tryd.zeroValue160
  t51 := Tryd.underlying35
  a51 := Tryd.isAgg35
  z51 := Tryd.sizeOf35
  v51 := Tryd.zeroValue35
  t59 := Tryd.underlying168
  a59 := Tryd.isAgg168
  z59 := Tryd.sizeOf168
  v59 := Tryd.zeroValue168
  t146 := Tryd.underlying236
  a146 := Tryd.isAgg236
  z146 := Tryd.sizeOf236
  v146 := Tryd.zeroValue236
  g1 := by kernel_rfl }
open Go.RowKit Go.Lib in
theorem Tryd.strings_Cut (s sep : ByteArray) (m : Int) (w : World) (hs : s.size < 4294967281) (hm : w.cell? ⟨14, 0, none⟩ = some (.int .i64 m)) :
    Calls Tryd.prog 98 #[.string s, .string sep] w fun e w' => e = .returned (.tuple #[.string ⟨(Lib.cut s.data.toList sep.data.toList).1.toArray⟩, .string ⟨(Lib.cut s.data.toList sep.data.toList).2.1.toArray⟩, .bool (Lib.cut s.data.toList sep.data.toList).2.2]) ∧ ∃ n, w' = w.drewN n := Any.strings_Cut Tryd.lays145 s sep m w hs hm
def Tryd.laysGg6_ren : Go.Shelf.Ren := ⟨fun | 6 => 68 | 10 => 84 | 11 => 94 | 12 => 95 | 13 => 96 | 14 => 97 | 24 => 122 | 25 => 123 | 26 => 124 | 27 => 125 | 28 => 126 | 29 => 127 | 30 => 128 | 31 => 129 | 32 => 130 | 33 => 131 | 34 => 143 | 35 => 144 | 36 => 145 | 37 => 146 | 38 => 147 | 39 => 156 | n => n, fun | 20 => 20 | 26 => 120 | 35 => 149 | 0 => 0 | 37 => 162 | 3 => 3 | 41 => 160 | 44 => 167 | 49 => 35 | 51 => 199 | 4 => 4 | 54 => 202 | 53 => 201 | 58 => 103 | 5 => 5 | 9 => 9 | 60 => 216 | 64 => 220 | 66 => 232 | 67 => 27 | 17 => 17 | 32 => 146 | 33 => 147 | 82 => 252 | 12 => 12 | 75 => 247 | 76 => 154 | 77 => 248 | 78 => 170 | 79 => 249 | 80 => 250 | n => n, fun | n => n⟩
theorem Tryd.laysGg6 : Go.Proofs.LaysGg.n6 Tryd.prog Tryd.laysGg6_ren := {
  mixed := by kernel_rfl
  f6 := Tryd.func68.trans (congrArg some (by kernel_rfl))
  f10 := Tryd.func84.trans (congrArg some (by kernel_rfl))
  f11 := Tryd.func94.trans (congrArg some (by kernel_rfl))
  f12 := Tryd.func95.trans (congrArg some (by kernel_rfl))
  f13 := Tryd.func96.trans (congrArg some (by kernel_rfl))
  f14 := Tryd.func97.trans (congrArg some (by kernel_rfl))
  f24 := Tryd.func122.trans (congrArg some (by kernel_rfl))
  f25 := Tryd.func123.trans (congrArg some (by kernel_rfl))
  f26 := Tryd.func124.trans (congrArg some (by kernel_rfl))
  f27 := Tryd.func125.trans (congrArg some (by kernel_rfl))
  f28 := Tryd.func126.trans (congrArg some (by kernel_rfl))
  f29 := Tryd.func127.trans (congrArg some (by kernel_rfl))
  f30 := Tryd.func128.trans (congrArg some (by kernel_rfl))
  f31 := Tryd.func129.trans (congrArg some (by kernel_rfl))
  f32 := Tryd.func130.trans (congrArg some (by kernel_rfl))
  f33 := Tryd.func131.trans (congrArg some (by kernel_rfl))
  f34 := Tryd.func143.trans (congrArg some (by kernel_rfl))
  f35 := Tryd.func144.trans (congrArg some (by kernel_rfl))
  f36 := Tryd.func145.trans (congrArg some (by kernel_rfl))
  f37 := Tryd.func146.trans (congrArg some (by kernel_rfl))
  f38 := Tryd.func147.trans (congrArg some (by kernel_rfl))
  f39 := Tryd.func156.trans (congrArg some (by kernel_rfl))
  t0 := Tryd.underlying0
  a0 := Tryd.isAgg0
  z0 := Tryd.sizeOf0
  v0 := Tryd.zeroValue0
  i0 := by kernel_rfl
  t3 := Tryd.underlying3
  a3 := Tryd.isAgg3
  z3 := Tryd.sizeOf3
  v3 := Tryd.zeroValue3
  i3 := by kernel_rfl
  t4 := Tryd.underlying4
  a4 := Tryd.isAgg4
  z4 := Tryd.sizeOf4
  v4 := Tryd.zeroValue4
  i4 := by kernel_rfl
  t5 := Tryd.underlying5
  a5 := Tryd.isAgg5
  z5 := Tryd.sizeOf5
  v5 := Tryd.zeroValue5
  i5 := by kernel_rfl
  t9 := Tryd.underlying9
  a9 := Tryd.isAgg9
  z9 := Tryd.sizeOf9
  v9 := Tryd.zeroValue9
  i9 := by kernel_rfl
  t12 := Tryd.underlying12
  a12 := Tryd.isAgg12
  z12 := Tryd.sizeOf12
  v12 := Tryd.zeroValue12
  i12 := by kernel_rfl
  t17 := Tryd.underlying17
  a17 := Tryd.isAgg17
  z17 := Tryd.sizeOf17
  v17 := Tryd.zeroValue17
  i17 := by kernel_rfl
  t20 := Tryd.underlying20
  a20 := Tryd.isAgg20
  z20 := Tryd.sizeOf20
  v20 := Tryd.zeroValue20
  i20 := by kernel_rfl
  t26 := Tryd.underlying120
  a26 := Tryd.isAgg120
  z26 := Tryd.sizeOf120
  v26 := Tryd.zeroValue120
  i26 := by kernel_rfl
  t32 := Tryd.underlying146
  a32 := Tryd.isAgg146
  z32 := Tryd.sizeOf146
  v32 := Tryd.zeroValue146
  i32 := by kernel_rfl
  t33 := Tryd.underlying147
  a33 := Tryd.isAgg147
  z33 := Tryd.sizeOf147
  v33 := Tryd.zeroValue147
  i33 := by kernel_rfl
  t35 := Tryd.underlying149
  a35 := Tryd.isAgg149
  z35 := Tryd.sizeOf149
  v35 := Tryd.zeroValue149
  i35 := by kernel_rfl
  t37 := Tryd.underlying162
  a37 := Tryd.isAgg162
  z37 := Tryd.sizeOf162
  v37 := Tryd.zeroValue162
  i37 := by kernel_rfl
  t41 := Tryd.underlying160
  a41 := Tryd.isAgg160
  z41 := Tryd.sizeOf160
  v41 := Tryd.zeroValue160
  i41 := by kernel_rfl
  t44 := Tryd.underlying167
  a44 := Tryd.isAgg167
  z44 := Tryd.sizeOf167
  v44 := Tryd.zeroValue167
  i44 := by kernel_rfl
  t49 := Tryd.underlying35
  a49 := Tryd.isAgg35
  z49 := Tryd.sizeOf35
  v49 := Tryd.zeroValue35
  i49 := by kernel_rfl
  t51 := Tryd.underlying199
  a51 := Tryd.isAgg199
  z51 := Tryd.sizeOf199
  v51 := Tryd.zeroValue199
  i51 := by kernel_rfl
  t53 := Tryd.underlying201
  a53 := Tryd.isAgg201
  z53 := Tryd.sizeOf201
  v53 := Tryd.zeroValue201
  i53 := by kernel_rfl
  t54 := Tryd.underlying202
  a54 := Tryd.isAgg202
  z54 := Tryd.sizeOf202
  v54 := Tryd.zeroValue202
  i54 := by kernel_rfl
  t58 := Tryd.underlying103
  a58 := Tryd.isAgg103
  z58 := Tryd.sizeOf103
  v58 := Tryd.zeroValue103
  i58 := by kernel_rfl
  t60 := Tryd.underlying216
  a60 := Tryd.isAgg216
  z60 := Tryd.sizeOf216
  v60 := Tryd.zeroValue216
  i60 := by kernel_rfl
  t64 := Tryd.underlying220
  a64 := Tryd.isAgg220
  z64 := Tryd.sizeOf220
  v64 := Tryd.zeroValue220
  i64 := by kernel_rfl
  t66 := Tryd.underlying232
  a66 := Tryd.isAgg232
  z66 := Tryd.sizeOf232
  v66 := Tryd.zeroValue232
  i66 := by kernel_rfl
  t67 := Tryd.underlying27
  a67 := Tryd.isAgg27
  z67 := Tryd.sizeOf27
  v67 := Tryd.zeroValue27
  i67 := by kernel_rfl
  t75 := Tryd.underlying247
  a75 := Tryd.isAgg247
  z75 := Tryd.sizeOf247
  v75 := Tryd.zeroValue247
  i75 := by kernel_rfl
  t76 := Tryd.underlying154
  a76 := Tryd.isAgg154
  z76 := Tryd.sizeOf154
  v76 := Tryd.zeroValue154
  i76 := by kernel_rfl
  t77 := Tryd.underlying248
  a77 := Tryd.isAgg248
  z77 := Tryd.sizeOf248
  v77 := Tryd.zeroValue248
  i77 := by kernel_rfl
  t78 := Tryd.underlying170
  a78 := Tryd.isAgg170
  z78 := Tryd.sizeOf170
  v78 := Tryd.zeroValue170
  i78 := by kernel_rfl
  t79 := Tryd.underlying249
  a79 := Tryd.isAgg249
  z79 := Tryd.sizeOf249
  v79 := Tryd.zeroValue249
  i79 := by kernel_rfl
  t80 := Tryd.underlying250
  a80 := Tryd.isAgg250
  z80 := Tryd.sizeOf250
  v80 := Tryd.zeroValue250
  i80 := by kernel_rfl
  t82 := Tryd.underlying252
  a82 := Tryd.isAgg252
  z82 := Tryd.sizeOf252
  v82 := Tryd.zeroValue252
  i82 := by kernel_rfl }
end Go.Proofs
namespace Go.Proofs.YtcbcjefefmbccaaDoor
open Go.RowKit

theorem bcell {B : Nat} {W w1 : World} (hb : Below B W w1) : (∀ b o, b < B → w1.cell? ⟨b, o, none⟩ = W.cell? ⟨b, o, none⟩) ∧ (∀ b o, b < B → w1.frozen? ⟨b, o, none⟩ = W.frozen? ⟨b, o, none⟩) :=
  ⟨fun b o h => hb.cell (p := ⟨b, o, none⟩) h, fun b o h => hb.frozen (p := ⟨b, o, none⟩) h⟩

theorem idText_str (n l : Nat) : (⟨(hexLast n 8).toArray⟩ : ByteArray) ++ ⟨#[45]⟩ ++ ⟨(Lib.decDigits l).toArray⟩ = ⟨(idText n l).toArray⟩ := by
  have h : (⟨#[45]⟩ : ByteArray) = ⟨[45].toArray⟩ := rfl
  rw [h, str_append, str_append]
  simp [idText]
theorem idText_neg (n l : Int) (hl : l < 0) (w : World) :
    Calls Tryd.prog 22 #[idV n l] w fun e w' => e = .returned (.string ⟨#[]⟩) ∧ Below w.heap.size w w' := by
  go_enter Tryd.func22, Tryd.ntmps22
  go_wp2
  go_ret
  exact ⟨rfl, (Below.refl _ _).alloc (Nat.le_refl _) _⟩
theorem text_neg (n l : Int) (hl : l < 0) (w : World) :
    Calls Tryd.prog 17 #[idV n l] w fun e w' => e = .returned (.string ⟨#[]⟩) ∧ Below w.heap.size w w' := by
  go_enter Tryd.func17, Tryd.ntmps17
  go_wp2
  go_ret
  exact ⟨rfl, (Below.refl _ _).alloc (Nat.le_refl _) _⟩

set_option maxHeartbeats 2000000 in
theorem idText_any (n l : Nat) (hn : n < 4294967296) (hl : l ≤ 9223372036854775807) (w : World) :
    Calls Tryd.prog 22 #[idV n l] w fun e w' => e = .returned (.string ⟨(idText n l).toArray⟩) ∧ Below w.heap.size w w' := by
  have h0 : ¬ (l : Int) < 0 := by omega
  have hlx := hexLast_length n 8
  have hld := decDigits_le19 l hl
  go_enter Tryd.func22, Tryd.ntmps22
  go_wp2_with fail
  go_region_with (first
    | (go_at_call 59; refine (hexOf_any n hn _).mono ?_; rintro e w1 ⟨rfl, hb1⟩; obtain ⟨hc1, hf1⟩ := bcell hb1)
    | (go_at_call 60; refine (decimal_any l hl _).mono ?_; rintro e w2 ⟨rfl, hb2⟩; obtain ⟨hc2, hf2⟩ := bcell hb2))
  all_goals go_wp2
  all_goals go_ret
  all_goals refine ⟨?_, ?_⟩
  all_goals first
    | (rw [← idText_str]; rfl)
    | exact (((Below.refl _ _).alloc (Nat.le_refl _) _).trans ((Below.drew (Below.refl _ _)).trans (hb1.mono (by simp)))).trans (hb2.mono (by have := hb1.size; simp at this; omega))

theorem below_grow (w : World) (k : Nat) (os : Array Obj) : Below w.heap.size w (Go.Sort.grow (w.drewN k) os) :=
  ⟨rfl, rfl, rfl, by simp [Go.Sort.grow, World.drewN], fun j hj => by
    show ((w.drewN k).heap ++ os)[j]? = _
    have e : (w.drewN k).heap = w.heap := rfl
    rw [e, Array.getElem?_append_left hj]⟩
abbrev Pow10 (w : World) : Prop := Lib.TabIs Tryd.prog w "internal/strconv.uint64pow10" .u64 Lib.pow10Tab
theorem gPow10 : Tryd.prog.globalNamed "internal/strconv.uint64pow10" = some 13 := by kernel_rfl
theorem Pow10.below {B : Nat} {w w' : World} (h : Pow10 w) (hb : Below B w w') (hB : w.heap.size ≤ B) : Pow10 w' := Joins.tab_stays gPow10 h hb hB
theorem itoa_any (l : Nat) (hl : l ≤ 9223372036854775807) (w : World) (ht : Pow10 w) :
    Calls Tryd.prog 58 #[.int .i64 l] w fun e w' => e = .returned (.string ⟨(Lib.decDigits l).toArray⟩) ∧ Below w.heap.size w w' := by
  refine (Tryd.strconv_Itoa l (by omega) (by omega) w ht).mono ?_
  rintro e w' ⟨rfl, k, os, rfl⟩
  exact ⟨by rw [Lib.itoa_nonneg], below_grow w k os⟩

set_option maxHeartbeats 2000000 in
theorem text_any (n l : Nat) (hn : n < 4294967296) (hl : l ≤ 9223372036854775807) (w : World) (ht : Pow10 w) :
    Calls Tryd.prog 17 #[idV n l] w fun e w' => e = .returned (.string ⟨(idText n l).toArray⟩) ∧ Below w.heap.size w w' := by
  have h0 : ¬ (l : Int) < 0 := by omega
  have hlx := hexLast_length n 8
  have hld := decDigits_le19 l hl
  have HP : Hid (∀ w' B, Below B w w' → w.heap.size ≤ B → Pow10 w') := fun w' B hb hB => ht.below hb hB
  clear ht
  go_enter Tryd.func17, Tryd.ntmps17
  go_wp2_with fail
  go_region_with (first
    | (go_at_call 57; refine (hexText_any n hn _).mono ?_; rintro e w1 ⟨rfl, hb1⟩; obtain ⟨hc1, hf1⟩ := bcell hb1)
    | (go_at_call 58; refine (itoa_any l hl _ ?_).mono ?_; exact HP.out _ _ (((Below.refl _ _).alloc (Nat.le_refl _) _).trans ((Below.drew (Below.refl _ _)).trans (hb1.mono (by simp)))) (Nat.le_refl _); rintro e w2 ⟨rfl, hb2⟩; obtain ⟨hc2, hf2⟩ := bcell hb2))
  all_goals go_wp2
  all_goals go_ret
  all_goals refine ⟨?_, ?_⟩
  all_goals first
    | (rw [← idText_str]; rfl)
    | exact (((Below.refl _ _).alloc (Nat.le_refl _) _).trans ((Below.drew (Below.refl _ _)).trans (hb1.mono (by simp)))).trans (hb2.mono (by have := hb1.size; simp at this; omega))
end Go.Proofs.YtcbcjefefmbccaaDoor
namespace Go.Proofs.YtcbcjefefmbccaaDoor
open Go.RowKit

def idsText (ids : List (Nat × Int)) : List UInt8 := (ids.map fun x => 32 :: idText x.1 x.2.toNat).flatten
def rcpText (nm : List UInt8) (len : Int) (p : Nat) (ids : List (Nat × Int)) : List UInt8 := nm ++ [32] ++ Lib.decDigits len.toNat ++ [32] ++ hexLast p 8 ++ idsText ids
theorem idsText_snoc (ids : List (Nat × Int)) (k : Nat) (h : k < ids.length) : idsText (ids.take (k + 1)) = idsText (ids.take k) ++ [32] ++ idText ids[k].1 ids[k].2.toNat := by
  rw [List.take_succ_eq_append_getElem h, idsText, List.map_append, List.flatten_append]
  simp [idsText]
theorem bytes_append (a b : ByteArray) : (a ++ b).data.toList = a.data.toList ++ b.data.toList := by
  rw [ByteArray.data_append, Array.toList_append]
theorem sz_blank : (⟨#[32]⟩ : ByteArray).size = 1 := rfl
theorem add_eq (a b : ByteArray) (h : a.size + b.size ≤ 100000) : ∃ c : ByteArray, (∀ w : World, (Op.stringOp .add a b).run Tryd.prog w = .ok (.string c) w) ∧ c.data.toList = a.data.toList ++ b.data.toList ∧ c.size = a.size + b.size :=
  ⟨a ++ b, fun w => run_string_add_sum w a b (by omega), bytes_append a b, ByteArray.size_append⟩
theorem bytes_of (l : List UInt8) : (⟨l.toArray⟩ : ByteArray).data.toList = l := by simp
theorem bytes_eq {a : ByteArray} {l : List UInt8} (h : a.data.toList = l) : a = ⟨l.toArray⟩ := by
  apply ByteArray.ext
  apply Array.toList_inj.1
  rw [h]
theorem idText_len (n l : Nat) (h : l ≤ 9223372036854775807) : (idText n l).length ≤ 28 := by
  have := decDigits_le19 l h
  simp [idText, hexLast_length]
  omega

end Go.Proofs.YtcbcjefefmbccaaDoor
namespace Go.Proofs.YtcbcjefefmbccaaDoor

def zs8 : List UInt8 := List.replicate 8 0
/- The window behind n bytes: the last eight, zeros ahead of the first. -/
def win (l : List UInt8) (n : Nat) : List UInt8 := (zs8 ++ l.take n).drop n
def sumB (xs : List UInt8) : Nat := (xs.map UInt8.toNat).sum
def endsAt (l : List UInt8) (n : Nat) : Bool := n == 64 || (decide (16 ≤ n) && sumB (win l n) % 16 == 15)
def scan (l : List UInt8) : Nat → Nat → Nat
  | n, 0 => n
  | n, k + 1 => if endsAt l (n + 1) = true then n + 1 else scan l (n + 1) k
def first (l : List UInt8) : Nat := scan l 0 l.length
def piecesF : Nat → List UInt8 → List (List UInt8)
  | 0, _ => []
  | k + 1, l => match l with
    | [] => []
    | _ :: _ => l.take (first l) :: piecesF k (l.drop (first l))
def pieces (l : List UInt8) : List (List UInt8) := piecesF l.length l
/- The ends of pieces, the first of which begins at n. -/
def endsFrom (n : Nat) : List (List UInt8) → List Nat
  | [] => []
  | p :: r => (n + p.length) :: endsFrom (n + p.length) r
def cuts (l : List UInt8) : List Nat := endsFrom 0 (pieces l)

theorem win_length (l : List UInt8) (n : Nat) (h : n ≤ l.length) : (win l n).length = 8 := by
  simp [win, zs8, Nat.min_eq_left h]
  omega
theorem win_zero (l : List UInt8) : win l 0 = zs8 := by simp [win, zs8]
theorem win_succ (l : List UInt8) (n : Nat) (h : n < l.length) : win l (n + 1) = (win l n).drop 1 ++ [l[n]] := by
  have e : l.take (n + 1) = l.take n ++ [l[n]] := by rw [List.take_succ_eq_append_getElem h]
  unfold win
  rw [e, ← List.append_assoc, List.drop_append_of_le_length (by simp [zs8]; omega), List.drop_drop]
theorem win_late (l : List UInt8) (n : Nat) (h8 : 8 ≤ n) : win l n = (l.drop (n - 8)).take 8 := by
  have e := List.drop_append (l₁ := zs8) (l₂ := l.take n) (i := n)
  unfold win
  rw [e, List.drop_eq_nil_of_le (by simp [zs8]; omega), List.nil_append, List.drop_take]
  simp [zs8]
  congr 1
  omega
theorem win_take (l : List UInt8) (n m : Nat) (h : n ≤ m) : win (l.take m) n = win l n := by
  unfold win
  rw [List.take_take, Nat.min_eq_left h]
theorem endsAt_take (l : List UInt8) (n m : Nat) (h : n ≤ m) : endsAt (l.take m) n = endsAt l n := by
  unfold endsAt
  rw [win_take l n m h]

structure IsFirst (l : List UInt8) (n : Nat) : Prop where
  pos : 0 < n
  le : n ≤ l.length
  no : ∀ j, 0 < j → j < n → endsAt l j = false
  yes : endsAt l n = true ∨ n = l.length

theorem scan_is (l : List UInt8) : ∀ (k n : Nat), n + k = l.length → 0 < l.length → (∀ j, 0 < j → j ≤ n → endsAt l j = false) → (k = 0 → False) → IsFirst l (scan l n k)
  | 0, n, _, _, _, h0 => (h0 rfl).elim
  | k + 1, n, hk, hl, hno, _ => by
    rw [scan]
    by_cases h : endsAt l (n + 1) = true
    · rw [if_pos h]
      exact ⟨by omega, by omega, fun j h1 h2 => hno j h1 (by omega), .inl h⟩
    · rw [if_neg h]
      have h' : endsAt l (n + 1) = false := by simpa using h
      have hno' : ∀ j, 0 < j → j ≤ n + 1 → endsAt l j = false := fun j h1 h2 => by
        by_cases e : j = n + 1
        · rw [e]; exact h'
        · exact hno j h1 (by omega)
      cases k with
      | zero => exact ⟨by simp [scan], by simp [scan]; omega, fun j h1 h2 => hno' j h1 (by simp [scan] at h2; omega), .inr (by simp [scan]; omega)⟩
      | succ k => exact scan_is l (k + 1) (n + 1) (by omega) hl hno' (by omega)
theorem first_is (l : List UInt8) (h : l ≠ []) : IsFirst l (first l) := by
  have hl : 0 < l.length := List.length_pos_iff.2 h
  exact scan_is l l.length 0 (by omega) hl (fun j h1 h2 => by omega) (by omega)
theorem IsFirst.uniq {l : List UInt8} {n m : Nat} (h : IsFirst l n) (k : IsFirst l m) : n = m := by
  rcases Nat.lt_trichotomy n m with hlt | e | hlt
  · exfalso
    have := k.no n h.pos hlt
    rcases h.yes with y | y
    · rw [y] at this; cases this
    · have := k.le; omega
  · exact e
  · exfalso
    have := h.no m k.pos hlt
    rcases k.yes with y | y
    · rw [y] at this; cases this
    · have := h.le; omega
theorem IsFirst.eq {l : List UInt8} {n : Nat} (h : IsFirst l n) : first l = n := by
  refine (first_is l ?_).uniq h
  intro e
  have := h.le; have := h.pos; rw [e] at *; simp at *; omega
theorem first_nil : first [] = 0 := rfl
theorem first_le (l : List UInt8) : first l ≤ l.length := by
  by_cases h : l = []
  · subst h; exact Nat.le_refl _
  · exact (first_is l h).le
theorem first_pos (l : List UInt8) (h : l ≠ []) : 0 < first l := (first_is l h).pos

theorem piecesF_more : ∀ (k m : Nat) (l : List UInt8), l.length ≤ k → l.length ≤ m → piecesF k l = piecesF m l
  | 0, m, l, hk, _ => by
    obtain rfl : l = [] := List.eq_nil_of_length_eq_zero (by omega)
    cases m <;> rfl
  | k + 1, 0, l, _, hm => by
    obtain rfl : l = [] := List.eq_nil_of_length_eq_zero (by omega)
    rfl
  | k + 1, m + 1, [], _, _ => rfl
  | k + 1, m + 1, x :: l, hk, hm => by
    have hp := first_pos (x :: l) (by simp)
    have hd : ((x :: l).drop (first (x :: l))).length ≤ l.length := by simp; omega
    simp only [piecesF]
    rw [piecesF_more k m _ (by simp at hk; omega) (by simp at hm; omega)]
theorem pieces_nil : pieces [] = [] := rfl
theorem pieces_ne (l : List UInt8) (h : l ≠ []) : pieces l = l.take (first l) :: pieces (l.drop (first l)) := by
  cases l with
  | nil => exact (h rfl).elim
  | cons x l =>
    have hp := first_pos (x :: l) (by simp)
    show _ :: piecesF l.length _ = _
    rw [piecesF_more l.length ((x :: l).drop (first (x :: l))).length _ (by simp; omega) (Nat.le_refl _)]
    rfl
theorem pieces_rec {P : List UInt8 → Prop} (h0 : P []) (h1 : ∀ l, l ≠ [] → P (l.drop (first l)) → P l) : ∀ (l : List UInt8), P l := by
  have : ∀ (k : Nat) (l : List UInt8), l.length ≤ k → P l := by
    intro k
    induction k with
    | zero => intro l hl; obtain rfl : l = [] := List.eq_nil_of_length_eq_zero (by omega); exact h0
    | succ k ih =>
      intro l hl
      by_cases e : l = []
      · subst e; exact h0
      · have hp := first_pos l e
        exact h1 l e (ih _ (by simp; omega))
  exact fun l => this l.length l (Nat.le_refl _)

theorem pieces_flatten : ∀ (l : List UInt8), (pieces l).flatten = l := by
  refine pieces_rec (by rw [pieces_nil]; rfl) ?_
  intro l hl ih
  rw [pieces_ne l hl, List.flatten_cons, ih, List.take_append_drop]
theorem pieces_eq_nil (l : List UInt8) : pieces l = [] ↔ l = [] := by
  constructor
  · intro h
    by_cases e : l = []
    · exact e
    · rw [pieces_ne l e] at h; cases h
  · rintro rfl; rfl
theorem pieces_len_le : ∀ (l : List UInt8), (pieces l).length ≤ l.length := by
  refine pieces_rec (by rw [pieces_nil]; exact Nat.le_refl _) ?_
  intro l hl ih
  have hp := first_pos l hl
  have := first_le l
  rw [pieces_ne l hl, List.length_cons]
  simp at ih
  omega
theorem first_le64 (l : List UInt8) : first l ≤ 64 := by
  by_cases e : l = []
  · subst e; decide
  · have h := first_is l e
    by_cases h64 : first l ≤ 64
    · exact h64
    · have := h.no 64 (by omega) (by omega)
      simp [endsAt] at this
theorem first_ge16 (l : List UInt8) (h : first l < l.length) : 16 ≤ first l := by
  have e : l ≠ [] := by rintro rfl; simp at h
  rcases (first_is l e).yes with y | y
  · unfold endsAt at y
    simp at y
    omega
  · omega
theorem drop_ne_nil {l : List UInt8} {n : Nat} (h : l.drop n ≠ []) : n < l.length := by
  by_cases e : n < l.length
  · exact e
  · exact (h (List.drop_eq_nil_of_le (by omega))).elim
/- A piece: not empty, at most 64; at least 16 where another one follows. -/
theorem pieces_at : ∀ (l : List UInt8) (i : Nat) (h : i < (pieces l).length), 0 < ((pieces l)[i]).length ∧ ((pieces l)[i]).length ≤ 64 ∧ (i + 1 < (pieces l).length → 16 ≤ ((pieces l)[i]).length) := by
  refine pieces_rec (by intro i h; rw [pieces_nil] at h; simp at h) ?_
  intro l hl ih i h
  have e := pieces_ne l hl
  have hf := first_le l
  cases i with
  | zero =>
    have e0 : (pieces l)[0] = l.take (first l) := by simp [e]
    have e1 : (pieces l).length = (pieces (l.drop (first l))).length + 1 := by rw [e, List.length_cons]
    rw [e0, List.length_take, Nat.min_eq_left hf]
    refine ⟨first_pos l hl, first_le64 l, fun h1 => first_ge16 l (drop_ne_nil (fun e2 => ?_))⟩
    rw [e1, e2, pieces_nil] at h1
    simp at h1
  | succ i =>
    have h' : i < (pieces (l.drop (first l))).length := by rw [e, List.length_cons] at h; omega
    have e0 : (pieces l)[i + 1] = (pieces (l.drop (first l)))[i] := by simp [e]
    have e1 : (pieces l).length = (pieces (l.drop (first l))).length + 1 := by rw [e, List.length_cons]
    rw [e0, e1]
    have := ih i h'
    exact ⟨this.1, this.2.1, fun h1 => this.2.2 (by omega)⟩

/- What is behind a cut is cut as it is alone; what is ahead of it too. -/
def upto (ps : List (List UInt8)) (k : Nat) : Nat := (ps.take k).flatten.length
theorem pieces_behind : ∀ (l : List UInt8) (k : Nat), k ≤ (pieces l).length → pieces (l.drop (upto (pieces l) k)) = (pieces l).drop k := by
  refine pieces_rec (by intro k _; simp [pieces_nil, upto]) ?_
  intro l hl ih k hk
  have e := pieces_ne l hl
  have hf := first_le l
  cases k with
  | zero => simp [upto]
  | succ k =>
    have hk' : k ≤ (pieces (l.drop (first l))).length := by rw [e, List.length_cons] at hk; omega
    have e1 : upto (pieces l) (k + 1) = first l + upto (pieces (l.drop (first l))) k := by
      rw [upto, e, List.take_succ_cons, List.flatten_cons, List.length_append, List.length_take, Nat.min_eq_left hf]; rfl
    rw [e1, ← List.drop_drop, ih k hk', e, List.drop_succ_cons]
theorem first_take (l : List UInt8) (m : Nat) (hl : l ≠ []) (h : first l ≤ m) : first (l.take m) = first l := by
  have hi := first_is l hl
  have hp := hi.pos; have hle := hi.le
  apply IsFirst.eq
  refine ⟨hi.pos, by rw [List.length_take]; omega, fun j h1 h2 => by rw [endsAt_take l j m (by omega)]; exact hi.no j h1 h2, ?_⟩
  rcases hi.yes with y | y
  · left; rw [endsAt_take l _ m h]; exact y
  · right; rw [List.length_take]; omega
theorem pieces_ahead : ∀ (l : List UInt8) (k : Nat), k ≤ (pieces l).length → pieces (l.take (upto (pieces l) k)) = (pieces l).take k := by
  refine pieces_rec (by intro k _; simp [pieces_nil, upto]) ?_
  intro l hl ih k hk
  have e := pieces_ne l hl
  have hf := first_le l
  cases k with
  | zero => simp [upto, pieces_nil]
  | succ k =>
    have hk' : k ≤ (pieces (l.drop (first l))).length := by rw [e, List.length_cons] at hk; omega
    have e1 : upto (pieces l) (k + 1) = first l + upto (pieces (l.drop (first l))) k := by
      rw [upto, e, List.take_succ_cons, List.flatten_cons, List.length_append, List.length_take, Nat.min_eq_left hf]; rfl
    have hp := first_pos l hl
    have hne : l.take (upto (pieces l) (k + 1)) ≠ [] := by
      intro e2
      have := congrArg List.length e2
      rw [List.length_take, List.length_nil] at this
      omega
    rw [pieces_ne _ hne, first_take l _ hl (by omega), List.take_take, Nat.min_eq_left (by omega), List.drop_take, e1, Nat.add_sub_cancel_left, ih k hk', e, List.take_succ_cons]

theorem endsFrom_length : ∀ (ps : List (List UInt8)) (n : Nat), (endsFrom n ps).length = ps.length
  | [], _ => rfl
  | p :: r, n => by rw [endsFrom, List.length_cons, endsFrom_length r, List.length_cons]
theorem endsFrom_snoc : ∀ (ps : List (List UInt8)) (n : Nat) (p : List UInt8), endsFrom n (ps ++ [p]) = endsFrom n ps ++ [n + ps.flatten.length + p.length]
  | [], n, p => by simp [endsFrom]
  | q :: r, n, p => by
    rw [List.cons_append, endsFrom, endsFrom_snoc r, endsFrom, List.cons_append, List.flatten_cons, List.length_append]
    simp only [Nat.add_assoc]
theorem endsFrom_at : ∀ (ps : List (List UInt8)) (n i : Nat) (h : i < (endsFrom n ps).length), (endsFrom n ps)[i] = n + upto ps (i + 1)
  | [], _, _, h => by simp [endsFrom] at h
  | p :: r, n, 0, _ => by simp [endsFrom, upto]
  | p :: r, n, i + 1, h => by
    have h' : i < (endsFrom (n + p.length) r).length := by rw [endsFrom, List.length_cons] at h; omega
    have := endsFrom_at r (n + p.length) i h'
    simp only [endsFrom, List.getElem_cons_succ]
    rw [this, upto, upto, List.take_succ_cons, List.flatten_cons, List.length_append, Nat.add_assoc]
theorem cuts_length (l : List UInt8) : (cuts l).length = (pieces l).length := endsFrom_length _ _
theorem cuts_at (l : List UInt8) (i : Nat) (h : i < (cuts l).length) : (cuts l)[i] = upto (pieces l) (i + 1) := by
  have := endsFrom_at (pieces l) 0 i h
  rw [Nat.zero_add] at this
  exact this
theorem upto_le (l : List UInt8) (k : Nat) : upto (pieces l) k ≤ l.length := by
  have h1 := congrArg List.length (congrArg List.flatten (List.take_append_drop k (pieces l)))
  rw [List.flatten_append, List.length_append, pieces_flatten] at h1
  unfold upto
  omega
end Go.Proofs.YtcbcjefefmbccaaDoor
