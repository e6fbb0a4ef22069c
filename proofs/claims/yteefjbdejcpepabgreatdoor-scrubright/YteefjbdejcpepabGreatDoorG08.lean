/-
  Own text. Contracts of the library at this program's numbers, each one application of the shelf's own theorem: laysGg6, stringslite_Clone, strconv_Itoa, strings_Join, strings_Join_none, strings_Split, strings_CutPrefix, strings_Cut, Builder_String.
  Own text. Texts of IDs: print.Text and the document's IDText by contracts. Condition of print.Text: strconv's table of powers of ten lies as the program's text lays it.
  Own text. A right recipe as a text, pure, and the document's RecipeText by a contract.
  Own text. Pure: where a text's pieces end (the document's chapter 2): the window of the last eight bytes, the first piece, all pieces, the ends.
  Own text. The window's two methods by contracts: take (the bytes move by one, the new one stands last) and ends (the low four bits of the bytes' sum are all 1).
-/
import Derived.Shelf.Strings.Builder1
import Derived.Shelf.Strings.Builder2
import Derived.Shelf.Strings.OnBuilder
import Derived.Shelf.Small.Bits
import Derived.Shelf.Strings.BuilderF
import Derived.Shelf.Strings.BuilderK
import Derived.Shelf.Strconv.Itoa0
import Derived.Shelf.LaysM
import Derived.Shelf.Strconv.Clone
import Derived.Ground.GgsProg
import Derived.Shelf.GgSortFunc.Insertion
import Derived.Shelf.GgSortFunc.Small
import Derived.Shelf.GgSortFunc.InsertionK
import Derived.Shelf.GgSortFunc.SmallK
import Derived.Shelf.GgSortFunc.Tiny
import Derived.Shelf.GgSortFunc.Compose
import Derived.Shelf.GgSortFunc.LotD
import Derived.Shelf.SlSortFunc.Xorshift
import Derived.Shelf.SlSortFuncK.ComposeK
import Derived.Shelf.SlSortFuncK.SiftDownK
import Derived.Shelf.SlSortFuncK.HeapSortK
import Derived.Shelf.SlSortFuncK.PartialInsertionK
import Derived.Shelf.SlSortFuncK.LotDK
import Derived.Shelf.SlSortFuncK.PivotK
import Derived.Shelf.SlSortFuncK.PartitionK
import Derived.Shelf.SlSortFuncK.PdqK
import Derived.Shelf.SlSortFuncK.WholeK
import Derived.Ground.SlgmProg
import Derived.Shelf.SortM.Plain
import Derived.Shelf.SortM.SortNone
import Derived.Test.YteefjbdejcpepabGreatDoorProg
import Derived.Test.YteefjbdejcpepabGreatDoorG07
import Derived.Deep.RegionWith
import Derived.Lib.SmallJoins
import Derived.Lib.ItoaMem
import Derived.Test.YteefjbdejcpepabGreatDoorChecked
import Derived.Deep.QuietTactic
import Derived.BigQuiet
import Derived.WalkKit
import Derived.Laws.CopyOwn
import Derived.Deep.RegionLaw
namespace Go.Proofs
open Go.Shelf
def Tryz.lays169_ren : Go.Shelf.Ren := ⟨fun | 169 => 163 | n => n, fun | 70 => 225 | 9 => 9 | 0 => 0 | 72 => 227 | 37 => 209 | 127 => 210 | 3 => 3 | 5 => 5 | n => n, fun | n => n⟩
theorem Tryz.lays169 : Go.Proofs.Lays.n169 Tryz.prog Tryz.lays169_ren := {
  mixed := by kernel_rfl
  f169 := Tryz.func163.trans (congrArg some (by kernel_rfl))
  t0 := Tryz.underlying0
  a0 := Tryz.isAgg0
  z0 := Tryz.sizeOf0
  v0 := Tryz.zeroValue0
  t3 := Tryz.underlying3
  a3 := Tryz.isAgg3
  z3 := Tryz.sizeOf3
  v3 := Tryz.zeroValue3
  t9 := Tryz.underlying9
  a9 := Tryz.isAgg9
  z9 := Tryz.sizeOf9
  v9 := Tryz.zeroValue9
  t37 := Tryz.underlying209
  a37 := Tryz.isAgg209
  z37 := Tryz.sizeOf209
  v37 := Tryz.zeroValue209
  t70 := Tryz.underlying225
  a70 := Tryz.isAgg225
  z70 := Tryz.sizeOf225
  v70 := Tryz.zeroValue225
  t72 := Tryz.underlying227
  a72 := Tryz.isAgg227
  z72 := Tryz.sizeOf227
  v72 := Tryz.zeroValue227
  t127 := Tryz.underlying210
  a127 := Tryz.isAgg210
  z127 := Tryz.sizeOf210
  v127 := Tryz.zeroValue210 }
theorem Tryz.Builder_Extra_169 : Builder.Extra Tryz.prog Tryz.lays169_ren := {
  sizeBuilder := by kernel_rfl
  liesBuilder := by kernel_rfl
  t5 := Tryz.underlying5
  a5 := Tryz.isAgg5
  z5 := Tryz.sizeOf5
  v5 := Tryz.zeroValue5
  infoByte := by kernel_rfl
  cellsByte := by kernel_rfl
  sizeByte := by kernel_rfl
  neB5 := by decide }
open Go.RowKit in
theorem Tryz.Builder_String (B b : Nat) (l : List UInt8) (w : World) (h : Lib.IsBuilder 227 5 B b (Lib.byteCells l) w) (h0 : l ≠ []) :
    Calls Tryz.prog 163 #[.pointer (some ⟨b, 0, none⟩)] w fun e w' => e = .returned (.string ⟨l.toArray⟩) ∧ Below B w w' := Any.Builder_String Tryz.lays169 Tryz.Builder_Extra_169 B b l w h h0
def Tryz.lays156_ren : Go.Shelf.Ren := ⟨fun | 156 => 124 | 165 => 161 | 166 => 162 | 169 => 163 | 240 => 183 | 241 => 184 | 276 => 192 | 277 => 193 | n => n, fun | 31 => 73 | 9 => 9 | 3 => 3 | 4 => 4 | 0 => 0 | 20 => 20 | 72 => 227 | 76 => 69 | 70 => 225 | 37 => 209 | 75 => 42 | 127 => 210 | 164 => 183 | 5 => 5 | 80 => 230 | n => n, fun | n => n⟩
theorem Tryz.lays156 : Go.Proofs.Lays.n156 Tryz.prog Tryz.lays156_ren := {
  mixed := by kernel_rfl
  f156 := Tryz.func124.trans (congrArg some (by kernel_rfl))
  f165 := Tryz.func161.trans (congrArg some (by kernel_rfl))
  f166 := Tryz.func162.trans (congrArg some (by kernel_rfl))
  f169 := Tryz.func163.trans (congrArg some (by kernel_rfl))
  f240 := Tryz.func183.trans (congrArg some (by kernel_rfl))
  f241 := Tryz.func184.trans (congrArg some (by kernel_rfl))
  f276 := Tryz.func192.trans (congrArg some (by kernel_rfl))
  f277 := Tryz.func193.trans (congrArg some (by kernel_rfl))
  t0 := Tryz.underlying0
  a0 := Tryz.isAgg0
  z0 := Tryz.sizeOf0
  v0 := Tryz.zeroValue0
  t3 := Tryz.underlying3
  a3 := Tryz.isAgg3
  z3 := Tryz.sizeOf3
  v3 := Tryz.zeroValue3
  t4 := Tryz.underlying4
  a4 := Tryz.isAgg4
  z4 := Tryz.sizeOf4
  v4 := Tryz.zeroValue4
  t9 := Tryz.underlying9
  a9 := Tryz.isAgg9
  z9 := Tryz.sizeOf9
  v9 := Tryz.zeroValue9
  t20 := Tryz.underlying20
  a20 := Tryz.isAgg20
  z20 := Tryz.sizeOf20
  v20 := Tryz.zeroValue20
  t31 := Tryz.underlying73
  a31 := Tryz.isAgg73
  z31 := Tryz.sizeOf73
  v31 := Tryz.zeroValue73
  t37 := Tryz.underlying209
  a37 := Tryz.isAgg209
  z37 := Tryz.sizeOf209
  v37 := Tryz.zeroValue209
  t70 := Tryz.underlying225
  a70 := Tryz.isAgg225
  z70 := Tryz.sizeOf225
  v70 := Tryz.zeroValue225
  t72 := Tryz.underlying227
  a72 := Tryz.isAgg227
  z72 := Tryz.sizeOf227
  v72 := Tryz.zeroValue227
  t75 := Tryz.underlying42
  a75 := Tryz.isAgg42
  z75 := Tryz.sizeOf42
  v75 := Tryz.zeroValue42
  t76 := Tryz.underlying69
  a76 := Tryz.isAgg69
  z76 := Tryz.sizeOf69
  v76 := Tryz.zeroValue69
  t127 := Tryz.underlying210
  a127 := Tryz.isAgg210
  z127 := Tryz.sizeOf210
  v127 := Tryz.zeroValue210
  t164 := Tryz.underlying183
  a164 := Tryz.isAgg183
  z164 := Tryz.sizeOf183
  v164 := Tryz.zeroValue183 }
theorem Tryz.Builder_Extra_156 : Builder.Extra Tryz.prog Tryz.lays156_ren := {
  sizeBuilder := by kernel_rfl
  liesBuilder := by kernel_rfl
  t5 := Tryz.underlying5
  a5 := Tryz.isAgg5
  z5 := Tryz.sizeOf5
  v5 := Tryz.zeroValue5
  infoByte := by kernel_rfl
  cellsByte := by kernel_rfl
  sizeByte := by kernel_rfl
  neB5 := by decide }
open Go.RowKit in
theorem Tryz.strings_Join_none (a : Option Addr) (c : Nat) (sep : ByteArray) (w : World) :
    Calls Tryz.prog 124 #[.slice a 0 c, .string sep] w fun e w' => e = .returned (.string ⟨#[]⟩) ∧ w' = w := Any.strings_Join_none Tryz.lays156 Tryz.Builder_Extra_156 a c sep w
open Go.RowKit in
theorem Tryz.strings_Join (bk o c : Nat) (xs : List ByteArray) (sep : ByteArray) (w : World) (hcells : ∀ (j : Nat) x, xs[j]? = some x → w.cell? ⟨bk, o + j, none⟩ = some (.string x)) (hbk : bk < w.heap.size) (hN : xs.length ≤ 140737488355328) (hcap : xs.length ≤ c) (hlen : (Lib.join (xs.map (·.data.toList)) sep.data.toList).length ≤ 140737488355328) :
    Calls Tryz.prog 124 #[.slice (some ⟨bk, o, none⟩) xs.length c, .string sep] w fun e w' => e = .returned (.string ⟨(Lib.join (xs.map (·.data.toList)) sep.data.toList).toArray⟩) ∧ Below w.heap.size w w' := Any.strings_Join Tryz.lays156 Tryz.Builder_Extra_156 bk o c xs sep w hcells hbk hN hcap hlen
def Tryz.laysM316_ren : Go.Shelf.Ren := ⟨fun | 316 => 112 | n => n, fun | 9 => 9 | 3 => 3 | 4 => 4 | 37 => 209 | 0 => 0 | 127 => 210 | 5 => 5 | n => n, fun | n => n⟩
theorem Tryz.laysM316 : Go.Proofs.LaysM.n316 Tryz.prog Tryz.laysM316_ren := {
  mixed := by kernel_rfl
  f316 := Tryz.func112.trans (congrArg some (by kernel_rfl))
  t0 := Tryz.underlying0
  a0 := Tryz.isAgg0
  z0 := Tryz.sizeOf0
  v0 := Tryz.zeroValue0
  t3 := Tryz.underlying3
  a3 := Tryz.isAgg3
  z3 := Tryz.sizeOf3
  v3 := Tryz.zeroValue3
  t4 := Tryz.underlying4
  a4 := Tryz.isAgg4
  z4 := Tryz.sizeOf4
  v4 := Tryz.zeroValue4
  t9 := Tryz.underlying9
  a9 := Tryz.isAgg9
  z9 := Tryz.sizeOf9
  v9 := Tryz.zeroValue9
  t37 := Tryz.underlying209
  a37 := Tryz.isAgg209
  z37 := Tryz.sizeOf209
  v37 := Tryz.zeroValue209
  t127 := Tryz.underlying210
  a127 := Tryz.isAgg210
  z127 := Tryz.sizeOf210
  v127 := Tryz.zeroValue210
  t5 := Tryz.underlying5
  a5 := Tryz.isAgg5
  z5 := Tryz.sizeOf5
  v5 := Tryz.zeroValue5
  i0 := by kernel_rfl
  i3 := by kernel_rfl
  i4 := by kernel_rfl
  i5 := by kernel_rfl
  i9 := by kernel_rfl
  i37 := by kernel_rfl
  i127 := by kernel_rfl }
open Go.RowKit in
theorem Tryz.stringslite_Clone (s : ByteArray) (w : World) (hlim : s.size ≤ 281474976710656) :
    Calls Tryz.prog 112 #[.string s] w fun e w' => e = .returned (.string s) ∧ Below w.heap.size w w' := Any.stringslite_Clone Tryz.laysM316 s w hlim
def Tryz.laysGg6_ren : Go.Shelf.Ren := ⟨fun | 6 => 75 | 10 => 119 | 11 => 120 | 12 => 121 | 13 => 122 | 14 => 123 | 24 => 151 | 25 => 152 | 26 => 153 | 27 => 154 | 28 => 155 | 29 => 156 | 30 => 157 | 31 => 158 | 32 => 159 | 33 => 160 | 34 => 178 | 35 => 179 | 36 => 180 | 37 => 181 | 38 => 182 | 39 => 191 | n => n, fun | 20 => 20 | 26 => 137 | 35 => 186 | 0 => 0 | 37 => 188 | 3 => 3 | 41 => 191 | 44 => 194 | 49 => 23 | 51 => 217 | 4 => 4 | 54 => 220 | 53 => 219 | 58 => 163 | 5 => 5 | 9 => 9 | 60 => 254 | 64 => 258 | 66 => 264 | 67 => 86 | 17 => 17 | 32 => 183 | 33 => 184 | 82 => 282 | 12 => 12 | 75 => 277 | 76 => 199 | 77 => 278 | 78 => 210 | 79 => 279 | 80 => 280 | n => n, fun | n => n⟩
theorem Tryz.laysGg6 : Go.Proofs.LaysGg.n6 Tryz.prog Tryz.laysGg6_ren := {
  mixed := by kernel_rfl
  f6 := Tryz.func75.trans (congrArg some (by kernel_rfl))
  f10 := Tryz.func119.trans (congrArg some (by kernel_rfl))
  f11 := Tryz.func120.trans (congrArg some (by kernel_rfl))
  f12 := Tryz.func121.trans (congrArg some (by kernel_rfl))
  f13 := Tryz.func122.trans (congrArg some (by kernel_rfl))
  f14 := Tryz.func123.trans (congrArg some (by kernel_rfl))
  f24 := Tryz.func151.trans (congrArg some (by kernel_rfl))
  f25 := Tryz.func152.trans (congrArg some (by kernel_rfl))
  f26 := Tryz.func153.trans (congrArg some (by kernel_rfl))
  f27 := Tryz.func154.trans (congrArg some (by kernel_rfl))
  f28 := Tryz.func155.trans (congrArg some (by kernel_rfl))
  f29 := Tryz.func156.trans (congrArg some (by kernel_rfl))
  f30 := Tryz.func157.trans (congrArg some (by kernel_rfl))
  f31 := Tryz.func158.trans (congrArg some (by kernel_rfl))
  f32 := Tryz.func159.trans (congrArg some (by kernel_rfl))
  f33 := Tryz.func160.trans (congrArg some (by kernel_rfl))
  f34 := Tryz.func178.trans (congrArg some (by kernel_rfl))
  f35 := Tryz.func179.trans (congrArg some (by kernel_rfl))
  f36 := Tryz.func180.trans (congrArg some (by kernel_rfl))
  f37 := Tryz.func181.trans (congrArg some (by kernel_rfl))
  f38 := Tryz.func182.trans (congrArg some (by kernel_rfl))
  f39 := Tryz.func191.trans (congrArg some (by kernel_rfl))
  t0 := Tryz.underlying0
  a0 := Tryz.isAgg0
  z0 := Tryz.sizeOf0
  v0 := Tryz.zeroValue0
  i0 := by kernel_rfl
  t3 := Tryz.underlying3
  a3 := Tryz.isAgg3
  z3 := Tryz.sizeOf3
  v3 := Tryz.zeroValue3
  i3 := by kernel_rfl
  t4 := Tryz.underlying4
  a4 := Tryz.isAgg4
  z4 := Tryz.sizeOf4
  v4 := Tryz.zeroValue4
  i4 := by kernel_rfl
  t5 := Tryz.underlying5
  a5 := Tryz.isAgg5
  z5 := Tryz.sizeOf5
  v5 := Tryz.zeroValue5
  i5 := by kernel_rfl
  t9 := Tryz.underlying9
  a9 := Tryz.isAgg9
  z9 := Tryz.sizeOf9
  v9 := Tryz.zeroValue9
  i9 := by kernel_rfl
  t12 := Tryz.underlying12
  a12 := Tryz.isAgg12
  z12 := Tryz.sizeOf12
  v12 := Tryz.zeroValue12
  i12 := by kernel_rfl
  t17 := Tryz.underlying17
  a17 := Tryz.isAgg17
  z17 := Tryz.sizeOf17
  v17 := Tryz.zeroValue17
  i17 := by kernel_rfl
  t20 := Tryz.underlying20
  a20 := Tryz.isAgg20
  z20 := Tryz.sizeOf20
  v20 := Tryz.zeroValue20
  i20 := by kernel_rfl
  t26 := Tryz.underlying137
  a26 := Tryz.isAgg137
  z26 := Tryz.sizeOf137
  v26 := Tryz.zeroValue137
  i26 := by kernel_rfl
  t32 := Tryz.underlying183
  a32 := Tryz.isAgg183
  z32 := Tryz.sizeOf183
  v32 := Tryz.zeroValue183
  i32 := by kernel_rfl
  t33 := Tryz.underlying184
  a33 := Tryz.isAgg184
  z33 := Tryz.sizeOf184
  v33 := Tryz.zeroValue184
  i33 := by kernel_rfl
  t35 := Tryz.underlying186
  a35 := Tryz.isAgg186
  z35 := Tryz.sizeOf186
  v35 := Tryz.zeroValue186
  i35 := by kernel_rfl
  t37 := Tryz.underlying188
  a37 := Tryz.isAgg188
  z37 := Tryz.sizeOf188
  v37 := Tryz.zeroValue188
  i37 := by kernel_rfl
  t41 := Tryz.underlying191
  a41 := Tryz.isAgg191
  z41 := Tryz.sizeOf191
  v41 := Tryz.zeroValue191
  i41 := by kernel_rfl
  t44 := Tryz.underlying194
  a44 := Tryz.isAgg194
  z44 := Tryz.sizeOf194
  v44 := Tryz.zeroValue194
  i44 := by kernel_rfl
  t49 := Tryz.underlying23
  a49 := Tryz.isAgg23
  z49 := Tryz.sizeOf23
  v49 := Tryz.zeroValue23
  i49 := by kernel_rfl
  t51 := Tryz.underlying217
  a51 := Tryz.isAgg217
  z51 := Tryz.sizeOf217
  v51 := Tryz.zeroValue217
  i51 := by kernel_rfl
  t53 := Tryz.underlying219
  a53 := Tryz.isAgg219
  z53 := Tryz.sizeOf219
  v53 := Tryz.zeroValue219
  i53 := by kernel_rfl
  t54 := Tryz.underlying220
  a54 := Tryz.isAgg220
  z54 := Tryz.sizeOf220
  v54 := Tryz.zeroValue220
  i54 := by kernel_rfl
  t58 := Tryz.underlying163
  a58 := Tryz.isAgg163
  z58 := Tryz.sizeOf163
  v58 := Tryz.zeroValue163
  i58 := by kernel_rfl
  t60 := Tryz.underlying254
  a60 := Tryz.isAgg254
  z60 := Tryz.sizeOf254
  v60 := Tryz.zeroValue254
  i60 := by kernel_rfl
  t64 := Tryz.underlying258
  a64 := Tryz.isAgg258
  z64 := Tryz.sizeOf258
  v64 := Tryz.zeroValue258
  i64 := by kernel_rfl
  t66 := Tryz.underlying264
  a66 := Tryz.isAgg264
  z66 := Tryz.sizeOf264
  v66 := Tryz.zeroValue264
  i66 := by kernel_rfl
  t67 := Tryz.underlying86
  a67 := Tryz.isAgg86
  z67 := Tryz.sizeOf86
  v67 := Tryz.zeroValue86
  i67 := by kernel_rfl
  t75 := Tryz.underlying277
  a75 := Tryz.isAgg277
  z75 := Tryz.sizeOf277
  v75 := Tryz.zeroValue277
  i75 := by kernel_rfl
  t76 := Tryz.underlying199
  a76 := Tryz.isAgg199
  z76 := Tryz.sizeOf199
  v76 := Tryz.zeroValue199
  i76 := by kernel_rfl
  t77 := Tryz.underlying278
  a77 := Tryz.isAgg278
  z77 := Tryz.sizeOf278
  v77 := Tryz.zeroValue278
  i77 := by kernel_rfl
  t78 := Tryz.underlying210
  a78 := Tryz.isAgg210
  z78 := Tryz.sizeOf210
  v78 := Tryz.zeroValue210
  i78 := by kernel_rfl
  t79 := Tryz.underlying279
  a79 := Tryz.isAgg279
  z79 := Tryz.sizeOf279
  v79 := Tryz.zeroValue279
  i79 := by kernel_rfl
  t80 := Tryz.underlying280
  a80 := Tryz.isAgg280
  z80 := Tryz.sizeOf280
  v80 := Tryz.zeroValue280
  i80 := by kernel_rfl
  t82 := Tryz.underlying282
  a82 := Tryz.isAgg282
  z82 := Tryz.sizeOf282
  v82 := Tryz.zeroValue282
  i82 := by kernel_rfl }
end Go.Proofs
namespace Go.Proofs.YteefjbdejcpepabGreatDoor
open Go.RowKit

theorem bcell {B : Nat} {W w1 : World} (hb : Below B W w1) : (∀ b o, b < B → w1.cell? ⟨b, o, none⟩ = W.cell? ⟨b, o, none⟩) ∧ (∀ b o, b < B → w1.frozen? ⟨b, o, none⟩ = W.frozen? ⟨b, o, none⟩) :=
  ⟨fun b o h => hb.cell (p := ⟨b, o, none⟩) h, fun b o h => hb.frozen (p := ⟨b, o, none⟩) h⟩

theorem idText_str (n l : Nat) : (⟨(hexLast n 8).toArray⟩ : ByteArray) ++ ⟨#[45]⟩ ++ ⟨(Lib.decDigits l).toArray⟩ = ⟨(idText n l).toArray⟩ := by
  have h : (⟨#[45]⟩ : ByteArray) = ⟨[45].toArray⟩ := rfl
  rw [h, str_append, str_append]
  simp [idText]
theorem below_grow (w : World) (k : Nat) (os : Array Obj) : Below w.heap.size w (Go.Sort.grow (w.drewN k) os) :=
  ⟨rfl, rfl, rfl, by simp [Go.Sort.grow, World.drewN], fun j hj => by
    show ((w.drewN k).heap ++ os)[j]? = _
    have e : (w.drewN k).heap = w.heap := rfl
    rw [e, Array.getElem?_append_left hj]⟩
abbrev Pow10 (w : World) : Prop := Lib.TabIs Tryz.prog w "internal/strconv.uint64pow10" .u64 Lib.pow10Tab
end Go.Proofs.YteefjbdejcpepabGreatDoor
namespace Go.Proofs.YteefjbdejcpepabGreatDoor
open Go.RowKit

def idsText (ids : List (Nat × Int)) : List UInt8 := (ids.map fun x => 32 :: idText x.1 x.2.toNat).flatten
def rcpText (nm : List UInt8) (len : Int) (p : Nat) (ids : List (Nat × Int)) : List UInt8 := nm ++ [32] ++ Lib.decDigits len.toNat ++ [32] ++ hexLast p 8 ++ idsText ids
theorem idsText_snoc (ids : List (Nat × Int)) (k : Nat) (h : k < ids.length) : idsText (ids.take (k + 1)) = idsText (ids.take k) ++ [32] ++ idText ids[k].1 ids[k].2.toNat := by
  rw [List.take_succ_eq_append_getElem h, idsText, List.map_append, List.flatten_append]
  simp [idsText]
theorem bytes_append (a b : ByteArray) : (a ++ b).data.toList = a.data.toList ++ b.data.toList := by
  rw [ByteArray.data_append, Array.toList_append]
theorem sz_blank : (⟨#[32]⟩ : ByteArray).size = 1 := rfl
theorem add_eq (a b : ByteArray) (h : a.size + b.size ≤ 100000) : ∃ c : ByteArray, (∀ w : World, (Op.stringOp .add a b).run Tryz.prog w = .ok (.string c) w) ∧ c.data.toList = a.data.toList ++ b.data.toList ∧ c.size = a.size + b.size :=
  ⟨a ++ b, fun w => run_string_add_sum w a b (by omega), bytes_append a b, ByteArray.size_append⟩
theorem bytes_of (l : List UInt8) : (⟨l.toArray⟩ : ByteArray).data.toList = l := by simp
theorem bytes_eq {a : ByteArray} {l : List UInt8} (h : a.data.toList = l) : a = ⟨l.toArray⟩ := by
  apply ByteArray.ext
  apply Array.toList_inj.1
  rw [h]
theorem idText_len (n l : Nat) (h : l ≤ 9223372036854775807) : (idText n l).length ≤ 28 := by
  have := decDigits_le19 l h
  simp [idText, hexLast_length]
  omega

end Go.Proofs.YteefjbdejcpepabGreatDoor
namespace Go.Proofs.YteefjbdejcpepabGreatDoor

def zs8 : List UInt8 := List.replicate 8 0
/- The window behind n bytes: the last eight, zeros ahead of the first. -/
def win (l : List UInt8) (n : Nat) : List UInt8 := (zs8 ++ l.take n).drop n
def sumB (xs : List UInt8) : Nat := (xs.map UInt8.toNat).sum
def endsAt (l : List UInt8) (n : Nat) : Bool := n == 64 || (decide (16 ≤ n) && sumB (win l n) % 16 == 15)
def scan (l : List UInt8) : Nat → Nat → Nat
  | n, 0 => n
  | n, k + 1 => if endsAt l (n + 1) = true then n + 1 else scan l (n + 1) k
def first (l : List UInt8) : Nat := scan l 0 l.length
def piecesF : Nat → List UInt8 → List (List UInt8)
  | 0, _ => []
  | k + 1, l => match l with
    | [] => []
    | _ :: _ => l.take (first l) :: piecesF k (l.drop (first l))
def pieces (l : List UInt8) : List (List UInt8) := piecesF l.length l
/- The ends of pieces, the first of which begins at n. -/
def endsFrom (n : Nat) : List (List UInt8) → List Nat
  | [] => []
  | p :: r => (n + p.length) :: endsFrom (n + p.length) r
def cuts (l : List UInt8) : List Nat := endsFrom 0 (pieces l)

theorem win_length (l : List UInt8) (n : Nat) (h : n ≤ l.length) : (win l n).length = 8 := by
  simp [win, zs8, Nat.min_eq_left h]
  omega
theorem win_zero (l : List UInt8) : win l 0 = zs8 := by simp [win, zs8]
theorem win_succ (l : List UInt8) (n : Nat) (h : n < l.length) : win l (n + 1) = (win l n).drop 1 ++ [l[n]] := by
  have e : l.take (n + 1) = l.take n ++ [l[n]] := by rw [List.take_succ_eq_append_getElem h]
  unfold win
  rw [e, ← List.append_assoc, List.drop_append_of_le_length (by simp [zs8]; omega), List.drop_drop]
theorem win_late (l : List UInt8) (n : Nat) (h8 : 8 ≤ n) : win l n = (l.drop (n - 8)).take 8 := by
  have e := List.drop_append (l₁ := zs8) (l₂ := l.take n) (i := n)
  unfold win
  rw [e, List.drop_eq_nil_of_le (by simp [zs8]; omega), List.nil_append, List.drop_take]
  simp [zs8]
  congr 1
  omega
theorem win_take (l : List UInt8) (n m : Nat) (h : n ≤ m) : win (l.take m) n = win l n := by
  unfold win
  rw [List.take_take, Nat.min_eq_left h]
theorem endsAt_take (l : List UInt8) (n m : Nat) (h : n ≤ m) : endsAt (l.take m) n = endsAt l n := by
  unfold endsAt
  rw [win_take l n m h]

structure IsFirst (l : List UInt8) (n : Nat) : Prop where
  pos : 0 < n
  le : n ≤ l.length
  no : ∀ j, 0 < j → j < n → endsAt l j = false
  yes : endsAt l n = true ∨ n = l.length

theorem scan_is (l : List UInt8) : ∀ (k n : Nat), n + k = l.length → 0 < l.length → (∀ j, 0 < j → j ≤ n → endsAt l j = false) → (k = 0 → False) → IsFirst l (scan l n k)
  | 0, n, _, _, _, h0 => (h0 rfl).elim
  | k + 1, n, hk, hl, hno, _ => by
    rw [scan]
    by_cases h : endsAt l (n + 1) = true
    · rw [if_pos h]
      exact ⟨by omega, by omega, fun j h1 h2 => hno j h1 (by omega), .inl h⟩
    · rw [if_neg h]
      have h' : endsAt l (n + 1) = false := by simpa using h
      have hno' : ∀ j, 0 < j → j ≤ n + 1 → endsAt l j = false := fun j h1 h2 => by
        by_cases e : j = n + 1
        · rw [e]; exact h'
        · exact hno j h1 (by omega)
      cases k with
      | zero => exact ⟨by simp [scan], by simp [scan]; omega, fun j h1 h2 => hno' j h1 (by simp [scan] at h2; omega), .inr (by simp [scan]; omega)⟩
      | succ k => exact scan_is l (k + 1) (n + 1) (by omega) hl hno' (by omega)
theorem first_is (l : List UInt8) (h : l ≠ []) : IsFirst l (first l) := by
  have hl : 0 < l.length := List.length_pos_iff.2 h
  exact scan_is l l.length 0 (by omega) hl (fun j h1 h2 => by omega) (by omega)
theorem IsFirst.uniq {l : List UInt8} {n m : Nat} (h : IsFirst l n) (k : IsFirst l m) : n = m := by
  rcases Nat.lt_trichotomy n m with hlt | e | hlt
  · exfalso
    have := k.no n h.pos hlt
    rcases h.yes with y | y
    · rw [y] at this; cases this
    · have := k.le; omega
  · exact e
  · exfalso
    have := h.no m k.pos hlt
    rcases k.yes with y | y
    · rw [y] at this; cases this
    · have := h.le; omega
theorem IsFirst.eq {l : List UInt8} {n : Nat} (h : IsFirst l n) : first l = n := by
  refine (first_is l ?_).uniq h
  intro e
  have := h.le; have := h.pos; rw [e] at *; simp at *; omega
theorem first_nil : first [] = 0 := rfl
theorem first_le (l : List UInt8) : first l ≤ l.length := by
  by_cases h : l = []
  · subst h; exact Nat.le_refl _
  · exact (first_is l h).le
theorem first_pos (l : List UInt8) (h : l ≠ []) : 0 < first l := (first_is l h).pos

theorem piecesF_more : ∀ (k m : Nat) (l : List UInt8), l.length ≤ k → l.length ≤ m → piecesF k l = piecesF m l
  | 0, m, l, hk, _ => by
    obtain rfl : l = [] := List.eq_nil_of_length_eq_zero (by omega)
    cases m <;> rfl
  | k + 1, 0, l, _, hm => by
    obtain rfl : l = [] := List.eq_nil_of_length_eq_zero (by omega)
    rfl
  | k + 1, m + 1, [], _, _ => rfl
  | k + 1, m + 1, x :: l, hk, hm => by
    have hp := first_pos (x :: l) (by simp)
    have hd : ((x :: l).drop (first (x :: l))).length ≤ l.length := by simp; omega
    simp only [piecesF]
    rw [piecesF_more k m _ (by simp at hk; omega) (by simp at hm; omega)]
theorem pieces_nil : pieces [] = [] := rfl
theorem pieces_ne (l : List UInt8) (h : l ≠ []) : pieces l = l.take (first l) :: pieces (l.drop (first l)) := by
  cases l with
  | nil => exact (h rfl).elim
  | cons x l =>
    have hp := first_pos (x :: l) (by simp)
    show _ :: piecesF l.length _ = _
    rw [piecesF_more l.length ((x :: l).drop (first (x :: l))).length _ (by simp; omega) (Nat.le_refl _)]
    rfl
theorem pieces_rec {P : List UInt8 → Prop} (h0 : P []) (h1 : ∀ l, l ≠ [] → P (l.drop (first l)) → P l) : ∀ (l : List UInt8), P l := by
  have : ∀ (k : Nat) (l : List UInt8), l.length ≤ k → P l := by
    intro k
    induction k with
    | zero => intro l hl; obtain rfl : l = [] := List.eq_nil_of_length_eq_zero (by omega); exact h0
    | succ k ih =>
      intro l hl
      by_cases e : l = []
      · subst e; exact h0
      · have hp := first_pos l e
        exact h1 l e (ih _ (by simp; omega))
  exact fun l => this l.length l (Nat.le_refl _)

theorem pieces_flatten : ∀ (l : List UInt8), (pieces l).flatten = l := by
  refine pieces_rec (by rw [pieces_nil]; rfl) ?_
  intro l hl ih
  rw [pieces_ne l hl, List.flatten_cons, ih, List.take_append_drop]
theorem pieces_eq_nil (l : List UInt8) : pieces l = [] ↔ l = [] := by
  constructor
  · intro h
    by_cases e : l = []
    · exact e
    · rw [pieces_ne l e] at h; cases h
  · rintro rfl; rfl
theorem pieces_len_le : ∀ (l : List UInt8), (pieces l).length ≤ l.length := by
  refine pieces_rec (by rw [pieces_nil]; exact Nat.le_refl _) ?_
  intro l hl ih
  have hp := first_pos l hl
  have := first_le l
  rw [pieces_ne l hl, List.length_cons]
  simp at ih
  omega
theorem first_le64 (l : List UInt8) : first l ≤ 64 := by
  by_cases e : l = []
  · subst e; decide
  · have h := first_is l e
    by_cases h64 : first l ≤ 64
    · exact h64
    · have := h.no 64 (by omega) (by omega)
      simp [endsAt] at this
theorem first_ge16 (l : List UInt8) (h : first l < l.length) : 16 ≤ first l := by
  have e : l ≠ [] := by rintro rfl; simp at h
  rcases (first_is l e).yes with y | y
  · unfold endsAt at y
    simp at y
    omega
  · omega
theorem drop_ne_nil {l : List UInt8} {n : Nat} (h : l.drop n ≠ []) : n < l.length := by
  by_cases e : n < l.length
  · exact e
  · exact (h (List.drop_eq_nil_of_le (by omega))).elim
/- A piece: not empty, at most 64; at least 16 where another one follows. -/
theorem pieces_at : ∀ (l : List UInt8) (i : Nat) (h : i < (pieces l).length), 0 < ((pieces l)[i]).length ∧ ((pieces l)[i]).length ≤ 64 ∧ (i + 1 < (pieces l).length → 16 ≤ ((pieces l)[i]).length) := by
  refine pieces_rec (by intro i h; rw [pieces_nil] at h; simp at h) ?_
  intro l hl ih i h
  have e := pieces_ne l hl
  have hf := first_le l
  cases i with
  | zero =>
    have e0 : (pieces l)[0] = l.take (first l) := by simp [e]
    have e1 : (pieces l).length = (pieces (l.drop (first l))).length + 1 := by rw [e, List.length_cons]
    rw [e0, List.length_take, Nat.min_eq_left hf]
    refine ⟨first_pos l hl, first_le64 l, fun h1 => first_ge16 l (drop_ne_nil (fun e2 => ?_))⟩
    rw [e1, e2, pieces_nil] at h1
    simp at h1
  | succ i =>
    have h' : i < (pieces (l.drop (first l))).length := by rw [e, List.length_cons] at h; omega
    have e0 : (pieces l)[i + 1] = (pieces (l.drop (first l)))[i] := by simp [e]
    have e1 : (pieces l).length = (pieces (l.drop (first l))).length + 1 := by rw [e, List.length_cons]
    rw [e0, e1]
    have := ih i h'
    exact ⟨this.1, this.2.1, fun h1 => this.2.2 (by omega)⟩

/- What is behind a cut is cut as it is alone; what is ahead of it too. -/
def upto (ps : List (List UInt8)) (k : Nat) : Nat := (ps.take k).flatten.length
theorem pieces_behind : ∀ (l : List UInt8) (k : Nat), k ≤ (pieces l).length → pieces (l.drop (upto (pieces l) k)) = (pieces l).drop k := by
  refine pieces_rec (by intro k _; simp [pieces_nil, upto]) ?_
  intro l hl ih k hk
  have e := pieces_ne l hl
  have hf := first_le l
  cases k with
  | zero => simp [upto]
  | succ k =>
    have hk' : k ≤ (pieces (l.drop (first l))).length := by rw [e, List.length_cons] at hk; omega
    have e1 : upto (pieces l) (k + 1) = first l + upto (pieces (l.drop (first l))) k := by
      rw [upto, e, List.take_succ_cons, List.flatten_cons, List.length_append, List.length_take, Nat.min_eq_left hf]; rfl
    rw [e1, ← List.drop_drop, ih k hk', e, List.drop_succ_cons]
theorem first_take (l : List UInt8) (m : Nat) (hl : l ≠ []) (h : first l ≤ m) : first (l.take m) = first l := by
  have hi := first_is l hl
  have hp := hi.pos; have hle := hi.le
  apply IsFirst.eq
  refine ⟨hi.pos, by rw [List.length_take]; omega, fun j h1 h2 => by rw [endsAt_take l j m (by omega)]; exact hi.no j h1 h2, ?_⟩
  rcases hi.yes with y | y
  · left; rw [endsAt_take l _ m h]; exact y
  · right; rw [List.length_take]; omega
theorem pieces_ahead : ∀ (l : List UInt8) (k : Nat), k ≤ (pieces l).length → pieces (l.take (upto (pieces l) k)) = (pieces l).take k := by
  refine pieces_rec (by intro k _; simp [pieces_nil, upto]) ?_
  intro l hl ih k hk
  have e := pieces_ne l hl
  have hf := first_le l
  cases k with
  | zero => simp [upto, pieces_nil]
  | succ k =>
    have hk' : k ≤ (pieces (l.drop (first l))).length := by rw [e, List.length_cons] at hk; omega
    have e1 : upto (pieces l) (k + 1) = first l + upto (pieces (l.drop (first l))) k := by
      rw [upto, e, List.take_succ_cons, List.flatten_cons, List.length_append, List.length_take, Nat.min_eq_left hf]; rfl
    have hp := first_pos l hl
    have hne : l.take (upto (pieces l) (k + 1)) ≠ [] := by
      intro e2
      have := congrArg List.length e2
      rw [List.length_take, List.length_nil] at this
      omega
    rw [pieces_ne _ hne, first_take l _ hl (by omega), List.take_take, Nat.min_eq_left (by omega), List.drop_take, e1, Nat.add_sub_cancel_left, ih k hk', e, List.take_succ_cons]

theorem endsFrom_length : ∀ (ps : List (List UInt8)) (n : Nat), (endsFrom n ps).length = ps.length
  | [], _ => rfl
  | p :: r, n => by rw [endsFrom, List.length_cons, endsFrom_length r, List.length_cons]
theorem endsFrom_snoc : ∀ (ps : List (List UInt8)) (n : Nat) (p : List UInt8), endsFrom n (ps ++ [p]) = endsFrom n ps ++ [n + ps.flatten.length + p.length]
  | [], n, p => by simp [endsFrom]
  | q :: r, n, p => by
    rw [List.cons_append, endsFrom, endsFrom_snoc r, endsFrom, List.cons_append, List.flatten_cons, List.length_append]
    simp only [Nat.add_assoc]
theorem endsFrom_at : ∀ (ps : List (List UInt8)) (n i : Nat) (h : i < (endsFrom n ps).length), (endsFrom n ps)[i] = n + upto ps (i + 1)
  | [], _, _, h => by simp [endsFrom] at h
  | p :: r, n, 0, _ => by simp [endsFrom, upto]
  | p :: r, n, i + 1, h => by
    have h' : i < (endsFrom (n + p.length) r).length := by rw [endsFrom, List.length_cons] at h; omega
    have := endsFrom_at r (n + p.length) i h'
    simp only [endsFrom, List.getElem_cons_succ]
    rw [this, upto, upto, List.take_succ_cons, List.flatten_cons, List.length_append, Nat.add_assoc]
theorem cuts_length (l : List UInt8) : (cuts l).length = (pieces l).length := endsFrom_length _ _
theorem cuts_at (l : List UInt8) (i : Nat) (h : i < (cuts l).length) : (cuts l)[i] = upto (pieces l) (i + 1) := by
  have := endsFrom_at (pieces l) 0 i h
  rw [Nat.zero_add] at this
  exact this
theorem upto_le (l : List UInt8) (k : Nat) : upto (pieces l) k ≤ l.length := by
  have h1 := congrArg List.length (congrArg List.flatten (List.take_append_drop k (pieces l)))
  rw [List.flatten_append, List.length_append, pieces_flatten] at h1
  unfold upto
  omega
end Go.Proofs.YteefjbdejcpepabGreatDoor
namespace Go.Proofs.YteefjbdejcpepabGreatDoor
open Go.RowKit

abbrev u8V (c : UInt8) : Value := .int .u8 c.toNat
/- Block b is a window that holds xs. -/
def WinAt (w : World) (b : Nat) (xs : List UInt8) : Prop := w.heap[b]? = some (.cells (xs.map u8V).toArray 244 (0, 0))
theorem WinAt.cell {w : World} {b : Nat} {xs : List UInt8} (h : WinAt w b xs) {i : Nat} (hi : i < xs.length) : w.cell? ⟨b, i, none⟩ = some (u8V xs[i]) := by
  simp [World.cell?, show w.heap[b]? = _ from h, hi]
theorem WinAt.frozen {w : World} {b : Nat} {xs : List UInt8} (h : WinAt w b xs) (i : Nat) : w.frozen? ⟨b, i, none⟩ = false := by
  simp [World.frozen?, show w.heap[b]? = _ from h]
theorem WinAt.set {w : World} {b : Nat} {xs : List UInt8} (h : WinAt w b xs) (i : Nat) (c : UInt8) : WinAt (w.setCell ⟨b, i, none⟩ (u8V c)) b (xs.set i c) := by
  obtain ⟨hlt, hk⟩ := Array.getElem?_eq_some_iff.1 h
  show (w.heap.modify b _)[b]? = _
  rw [Array.getElem?_eq_getElem (by rw [Array.size_modify]; exact hlt), Array.getElem_modify_self, hk]
  simp [List.map_set]
theorem set_last (l : List UInt8) (x c : UInt8) (h : l.length = 7) : (l ++ [x]).set 7 c = l ++ [c] := by
  rw [List.set_append_right _ _ (by omega), h]
  rfl
theorem infoByte : (Tryz.prog.info? 5).map (·.size) = some 1 := by kernel_rfl

set_option maxRecDepth 100000 in
set_option maxHeartbeats 2000000 in
theorem take_any (b : Nat) (c : UInt8) (xs : List UInt8) (hx : xs.length = 8) (w : World) (hw : WinAt w b xs) :
    Calls Tryz.prog 167 #[.pointer (some ⟨b, 0, none⟩), u8V c] w fun e w' => (∃ v, e = .returned v) ∧ WinAt w' b (xs.drop 1 ++ [c]) ∧ Below b w w' := by
  have H : Hid (w.drew.heap[b]? = some (.cells (xs.map u8V).toArray 244 (0, 0))) := hw
  have HX : Hid (xs.length = 8) := hx
  have HN : Hid (((xs.drop 1).map u8V).length = Nat.min 7 8) := by show _ = _; simp; omega
  have HS : Hid (∀ j v, ((xs.drop 1).map u8V)[j]? = some v → w.drew.cell? ((⟨b, 1, none⟩ : Addr).add j) = some v) := by
    intro j v h
    have hj : j + 1 < xs.length := by
      have := (List.getElem?_eq_some_iff.1 h).1
      simp at this
      omega
    have e1 := WinAt.cell (w := w.drew) hw hj
    rw [List.getElem?_map, List.getElem?_drop, Nat.add_comm 1 j, List.getElem?_eq_getElem hj] at h
    simp at h
    subst h
    have e2 : (⟨b, 1, none⟩ : Addr).add j = ⟨b, j + 1, none⟩ := by unfold Addr.add; split <;> simp_all [Nat.add_comm]
    rw [e2]
    exact e1
  have H1 : Hid (∀ v ∈ (xs.drop 1).map u8V, v.oneCell' = true) := by
    intro v h
    simp only [List.mem_map] at h
    obtain ⟨u, _, rfl⟩ := h
    rfl
  have HF : Hid (0 + ((xs.drop 1).map u8V).length ≤ (xs.map u8V).length) := by show _ ≤ _; simp
  clear hw hx
  go_enter Tryz.func167, Tryz.ntmps167
  go_wp2
  go_region_law (refine step_copy_splice rfl (.tmp 6) (.tmp 9) 209 209 rfl 5 Tryz.underlying209 infoByte (some ⟨b, 0, none⟩) (some ⟨b, 1, none⟩) 8 8 7 7 (by simp [Act.eval, Act.put]) (by simp [Act.eval, Act.put]) b 0 (xs.map u8V) 244 H.out ((xs.drop 1).map u8V) HN.out (fun _ => ⟨rfl, _, rfl, HS.out⟩) HF.out H1.out b w (Below.refl b w).drew (Nat.le_refl _) ?_; intro w4 hg4 hb4)
  obtain ⟨ys, hys, hw4, hset⟩ : ∃ ys : List UInt8, ys.length = 8 ∧ WinAt w4 b ys ∧ ys.set 7 c = xs.drop 1 ++ [c] := by
    have hx := HX.out
    refine ⟨xs.drop 1 ++ [xs[7]'(by omega)], by simp; omega, ?_, set_last _ _ _ (by simp; omega)⟩
    have := hg4.out
    show w4.heap[b]? = _
    rw [this]
    congr 3
    rw [splice]
    simp [hx]
    rw [List.drop_eq_getElem_cons (by simp; omega)]
    simp [hx]
  obtain ⟨U, hc4⟩ : ∃ U, w4.cell? ⟨b, 7, none⟩ = some (.int .u8 U) := ⟨_, hw4.cell (i := 7) (by omega)⟩
  have hf4 := hw4.frozen 7
  have HW : Hid (WinAt w4 b ys) := hw4
  have HT : Hid (ys.set 7 c = xs.drop 1 ++ [c]) := hset
  clear hw4 hg4 hset
  go_wp2
  go_end0
  refine ⟨⟨_, rfl⟩, ?_, hb4.setCell (p := ⟨b, 7, none⟩) (Nat.le_refl _) _⟩
  have := HW.out.set 7 c
  rwa [HT.out] at this

theorem sumB_snoc (xs : List UInt8) (j : Nat) (h : j < xs.length) : sumB (xs.take (j + 1)) = sumB (xs.take j) + xs[j].toNat := by
  rw [List.take_succ_eq_append_getElem h, sumB, List.map_append, List.sum_append]
  simp [sumB]
set_option maxRecDepth 100000 in
set_option maxHeartbeats 2000000 in
theorem ends_any (b : Nat) (xs : List UInt8) (hx : xs.length = 8) (w : World) (hw : WinAt w b xs) :
    Calls Tryz.prog 168 #[.pointer (some ⟨b, 0, none⟩)] w fun e w' => e = .returned (.bool (sumB xs % 16 == 15)) ∧ w' = w := by
  have HW : Hid (WinAt w b xs) := hw
  clear hw
  go_enter Tryz.func168, Tryz.ntmps168
  go_wp2
  go_loopw [3, 7] (fun v i wr => ∃ (j : Nat), j ≤ 8 ∧ i = .int .i64 j ∧ v = .int .u8 ((sumB (xs.take j) % 256 : Nat) : Int) ∧ wr = w) (fun _ i _ => 8 - (intOf i).toNat)
  case atStart => exact ⟨0, Nat.zero_le _, rfl, rfl, rfl⟩
  case round =>
    obtain ⟨j, hj, rfl, rfl, rfl⟩ := hrel
    by_cases hlt : j < 8
    · have hc := HW.out.cell (i := j) (by omega)
      go_wp2
      go_roundw
      case rel => exact ⟨j + 1, by omega, by go_num, by rw [sumB_snoc xs j (by omega)]; congr 1; omega, trivial⟩
      case measure => simp [intOf]; omega
    · go_wp2
      go_ret
      obtain rfl : j = 8 := by omega
      rw [List.take_of_length_le (by omega)]
      refine ⟨?_, rfl⟩
      show Ending.returned (.bool _) = _
      congr 2
      rw [Bool.eq_iff_iff]
      simp
      omega
end Go.Proofs.YteefjbdejcpepabGreatDoor
