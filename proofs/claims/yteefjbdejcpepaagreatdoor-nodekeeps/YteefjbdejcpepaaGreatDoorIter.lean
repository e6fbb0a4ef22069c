/-
  Own text. slices.Sorted(maps.Keys(m)) at this program's numbers: applications of the shelf's own theorems.
-/
import Derived.Shelf.SlIter.Nil
import Derived.Shelf.SortM.Plain
import Derived.Shelf.SortM.SortNone
import Derived.Ground.GgzProg
import Derived.Ground.SlgmProg
import Derived.Test.YteefjbdejcpepaaGreatDoorProg
namespace Go.Proofs
open Go.RowKit Go.Maps Go.Sort Go.Shelf
def Tryz.keysM_ren : Go.Shelf.Ren := ⟨fun | 7 => 97 | 10 => 126 | n => n, fun | 23 => 142 | 26 => 9 | 3 => 26 | 28 => 96 | 0 => 0 | 27 => 95 | 33 => 59 | 4 => 4 | n => n, fun n => n⟩
theorem Tryz.keysM : Go.Proofs.SlLaysZ.n7 Go.Proofs.Tryz.prog Go.Proofs.Tryz.keysM_ren := {
  mixed := by kernel_rfl
  f7 := Exists.intro "maps.Keys[map[string]cornbin/api.Recipe,string,cornbin/api.Recipe]" ⟨of_decide_eq_true (by kernel_rfl), Tryz.func97.trans (congrArg some (by kernel_rfl))⟩
  f10 := Exists.intro "maps.Keys[map[string]cornbin/api.Recipe,string,cornbin/api.Recipe]$1" ⟨of_decide_eq_true (by kernel_rfl), Tryz.func126.trans (congrArg some (by kernel_rfl))⟩
  t0 := Tryz.underlying0
  a0 := Tryz.isAgg0
  z0 := Tryz.sizeOf0
  v0 := Tryz.zeroValue0
  t4 := Tryz.underlying4
  a4 := Tryz.isAgg4
  z4 := Tryz.sizeOf4
  v4 := Tryz.zeroValue4
  t23 := Tryz.underlying142
  a23 := Tryz.isAgg142
  z23 := Tryz.sizeOf142
  v23 := Tryz.zeroValue142
  t26 := Tryz.underlying9
  a26 := Tryz.isAgg9
  z26 := Tryz.sizeOf9
  v26 := Tryz.zeroValue9
  t27 := Tryz.underlying95
  a27 := Tryz.isAgg95
  z27 := Tryz.sizeOf95
  v27 := Tryz.zeroValue95
  t28 := Tryz.underlying96
  a28 := Tryz.isAgg96
  z28 := Tryz.sizeOf96
  v28 := Tryz.zeroValue96
  t33 := Tryz.underlying59
  a33 := Tryz.isAgg59
  z33 := Tryz.sizeOf59
  v33 := Tryz.zeroValue59 }
def Tryz.sortedM_ren : Go.Shelf.Ren := ⟨fun | 6 => 96 | 8 => 54 | 9 => 125 | 11 => 99 | 13 => 119 | 12 => 164 | 23 => 153 | 24 => 154 | 14 => 183 | 15 => 184 | 16 => 185 | 17 => 186 | 18 => 187 | 19 => 188 | 20 => 189 | 21 => 190 | 22 => 191 | 25 => 203 | 26 => 204 | 27 => 205 | 28 => 206 | 29 => 207 | 30 => 208 | 31 => 213 | n => n, fun | 26 => 9 | 28 => 96 | 24 => 31 | 0 => 0 | 3 => 3 | 37 => 158 | 48 => 23 | 50 => 210 | 4 => 4 | 40 => 250 | 39 => 249 | 45 => 159 | 5 => 5 | 9 => 9 | 51 => 263 | 55 => 245 | 57 => 272 | 58 => 111 | 33 => 59 | n => n, fun n => n⟩
theorem Tryz.sortedM : Go.Proofs.SlLaysZ.n6 Go.Proofs.Tryz.prog Go.Proofs.Tryz.sortedM_ren := {
  mixed := by kernel_rfl
  f6 := Exists.intro "slices.Sorted[string]" ⟨of_decide_eq_true (by kernel_rfl), Tryz.func96.trans (congrArg some (by kernel_rfl))⟩
  f8 := Exists.intro "slices.Collect[string]" ⟨of_decide_eq_true (by kernel_rfl), Tryz.func54.trans (congrArg some (by kernel_rfl))⟩
  f11 := Exists.intro "slices.AppendSeq[[]string,string]" ⟨of_decide_eq_true (by kernel_rfl), Tryz.func99.trans (congrArg some (by kernel_rfl))⟩
  t0 := Tryz.underlying0
  a0 := Tryz.isAgg0
  z0 := Tryz.sizeOf0
  v0 := Tryz.zeroValue0
  t24 := Tryz.underlying31
  a24 := Tryz.isAgg31
  z24 := Tryz.sizeOf31
  v24 := Tryz.zeroValue31
  t26 := Tryz.underlying9
  a26 := Tryz.isAgg9
  z26 := Tryz.sizeOf9
  v26 := Tryz.zeroValue9
  t28 := Tryz.underlying96
  a28 := Tryz.isAgg96
  z28 := Tryz.sizeOf96
  v28 := Tryz.zeroValue96
  i26 := by kernel_rfl }
def Tryz.sortM_ren : Go.Shelf.Ren := ⟨fun | 6 => 125 | 8 => 119 | 9 => 164 | 19 => 153 | 20 => 154 | 21 => 183 | 22 => 184 | 23 => 185 | 24 => 186 | 25 => 187 | 26 => 188 | 27 => 189 | 28 => 190 | 29 => 191 | 36 => 203 | 31 => 204 | 32 => 205 | 37 => 206 | 38 => 207 | 39 => 208 | 41 => 213 | n => n, fun | 27 => 31 | 29 => 9 | 3 => 3 | 32 => 158 | 26 => 31 | 0 => 0 | 44 => 23 | 46 => 210 | 4 => 4 | 36 => 250 | 35 => 249 | 41 => 159 | 5 => 5 | 9 => 9 | 53 => 263 | 57 => 245 | 63 => 272 | 64 => 111 | n => n, fun n => n⟩
theorem Tryz.sortM : Go.Proofs.SlLaysM.n6 Go.Proofs.Tryz.prog Go.Proofs.Tryz.sortM_ren := {
  mixed := by kernel_rfl
  f6 := Exists.intro "slices.Sort[[]string,string]" ⟨of_decide_eq_true (by kernel_rfl), Tryz.func125.trans (congrArg some (by kernel_rfl))⟩
  f8 := Tryz.func119.trans (congrArg some (by kernel_rfl))
  f9 := Exists.intro "slices.pdqsortOrdered[string]" ⟨of_decide_eq_true (by kernel_rfl), Tryz.func164.trans (congrArg some (by kernel_rfl))⟩
  f19 := Tryz.func153.trans (congrArg some (by kernel_rfl))
  f20 := Tryz.func154.trans (congrArg some (by kernel_rfl))
  f21 := Exists.intro "slices.insertionSortOrdered[string]" ⟨of_decide_eq_true (by kernel_rfl), Tryz.func183.trans (congrArg some (by kernel_rfl))⟩
  f22 := Exists.intro "slices.heapSortOrdered[string]" ⟨of_decide_eq_true (by kernel_rfl), Tryz.func184.trans (congrArg some (by kernel_rfl))⟩
  f23 := Exists.intro "slices.breakPatternsOrdered[string]" ⟨of_decide_eq_true (by kernel_rfl), Tryz.func185.trans (congrArg some (by kernel_rfl))⟩
  f24 := Exists.intro "slices.choosePivotOrdered[string]" ⟨of_decide_eq_true (by kernel_rfl), Tryz.func186.trans (congrArg some (by kernel_rfl))⟩
  f25 := Exists.intro "slices.reverseRangeOrdered[string]" ⟨of_decide_eq_true (by kernel_rfl), Tryz.func187.trans (congrArg some (by kernel_rfl))⟩
  f26 := Exists.intro "slices.partialInsertionSortOrdered[string]" ⟨of_decide_eq_true (by kernel_rfl), Tryz.func188.trans (congrArg some (by kernel_rfl))⟩
  f27 := Exists.intro "cmp.Less[string]" ⟨of_decide_eq_true (by kernel_rfl), Tryz.func189.trans (congrArg some (by kernel_rfl))⟩
  f28 := Exists.intro "slices.partitionEqualOrdered[string]" ⟨of_decide_eq_true (by kernel_rfl), Tryz.func190.trans (congrArg some (by kernel_rfl))⟩
  f29 := Exists.intro "slices.partitionOrdered[string]" ⟨of_decide_eq_true (by kernel_rfl), Tryz.func191.trans (congrArg some (by kernel_rfl))⟩
  f31 := Tryz.func204.trans (congrArg some (by kernel_rfl))
  f32 := Tryz.func205.trans (congrArg some (by kernel_rfl))
  f36 := Exists.intro "slices.siftDownOrdered[string]" ⟨of_decide_eq_true (by kernel_rfl), Tryz.func203.trans (congrArg some (by kernel_rfl))⟩
  f37 := Exists.intro "slices.medianAdjacentOrdered[string]" ⟨of_decide_eq_true (by kernel_rfl), Tryz.func206.trans (congrArg some (by kernel_rfl))⟩
  f38 := Exists.intro "slices.medianOrdered[string]" ⟨of_decide_eq_true (by kernel_rfl), Tryz.func207.trans (congrArg some (by kernel_rfl))⟩
  f39 := Exists.intro "cmp.isNaN[string]" ⟨of_decide_eq_true (by kernel_rfl), Tryz.func208.trans (congrArg some (by kernel_rfl))⟩
  f41 := Exists.intro "slices.order2Ordered[string]" ⟨of_decide_eq_true (by kernel_rfl), Tryz.func213.trans (congrArg some (by kernel_rfl))⟩
  t0 := Tryz.underlying0
  a0 := Tryz.isAgg0
  z0 := Tryz.sizeOf0
  v0 := Tryz.zeroValue0
  t3 := Tryz.underlying3
  a3 := Tryz.isAgg3
  z3 := Tryz.sizeOf3
  v3 := Tryz.zeroValue3
  t4 := Tryz.underlying4
  a4 := Tryz.isAgg4
  z4 := Tryz.sizeOf4
  v4 := Tryz.zeroValue4
  t5 := Tryz.underlying5
  a5 := Tryz.isAgg5
  z5 := Tryz.sizeOf5
  v5 := Tryz.zeroValue5
  t9 := Tryz.underlying9
  a9 := Tryz.isAgg9
  z9 := Tryz.sizeOf9
  v9 := Tryz.zeroValue9
  t26 := Tryz.underlying31
  a26 := Tryz.isAgg31
  z26 := Tryz.sizeOf31
  v26 := Tryz.zeroValue31
  t27 := Tryz.underlying31
  a27 := Tryz.isAgg31
  z27 := Tryz.sizeOf31
  v27 := Tryz.zeroValue31
  t29 := Tryz.underlying9
  a29 := Tryz.isAgg9
  z29 := Tryz.sizeOf9
  v29 := Tryz.zeroValue9
  t32 := Tryz.underlying158
  a32 := Tryz.isAgg158
  z32 := Tryz.sizeOf158
  v32 := Tryz.zeroValue158
  t35 := Tryz.underlying249
  a35 := Tryz.isAgg249
  z35 := Tryz.sizeOf249
  v35 := Tryz.zeroValue249
  t36 := Tryz.underlying250
  a36 := Tryz.isAgg250
  z36 := Tryz.sizeOf250
  v36 := Tryz.zeroValue250
  t41 := Tryz.underlying159
  a41 := Tryz.isAgg159
  z41 := Tryz.sizeOf159
  v41 := Tryz.zeroValue159
  t44 := Tryz.underlying23
  a44 := Tryz.isAgg23
  z44 := Tryz.sizeOf23
  v44 := Tryz.zeroValue23
  t46 := Tryz.underlying210
  a46 := Tryz.isAgg210
  z46 := Tryz.sizeOf210
  v46 := Tryz.zeroValue210
  t53 := Tryz.underlying263
  a53 := Tryz.isAgg263
  z53 := Tryz.sizeOf263
  v53 := Tryz.zeroValue263
  t57 := Tryz.underlying245
  a57 := Tryz.isAgg245
  z57 := Tryz.sizeOf245
  v57 := Tryz.zeroValue245
  t63 := Tryz.underlying272
  a63 := Tryz.isAgg272
  z63 := Tryz.sizeOf272
  v63 := Tryz.zeroValue272
  t64 := Tryz.underlying111
  a64 := Tryz.isAgg111
  z64 := Tryz.sizeOf111
  v64 := Tryz.zeroValue111 }
theorem Tryz.sortsM (m : Nat) : AnyZ.SortsIn Tryz.prog Tryz.sortedM_ren Fence.wide m :=
  ⟨fun blk off cap ss W hH hblk hsz => callsIn_wide.2 (AnyM.slices_Sort_string Tryz.sortM blk off cap ss W hH hblk hsz),
   fun p cap W => callsIn_wide.2 (AnyM.slices_Sort_string_none Tryz.sortM p cap W)⟩

theorem Tryz.maps_KeysM (mb : Option Nat) (W : World) : CallsIn Fence.wide 5 Tryz.prog 97 #[.map mb] W fun e w' => e = .returned (.func (.func 126) #[] #[.pointer (some ⟨W.heap.size, 0, none⟩)]) ∧ w' = W.alloc (.cells #[.map mb] 142) :=
  AnyZ.keys_in Tryz.keysM Fence.wide 5 trivial rfl mb W

set_option maxHeartbeats 1000000 in
theorem Tryz.sortedKeysM {H : Type} (b nn : Nat) (D0 : DataW H) (R : Value → Option (DataW H × List MemPlace)) (w : World) (hown : w.ownsMap Tryz.prog 9 R b nn D0) (hmax : Maps.size D0 ≤ maxLen) (hbytes : Maps.size D0 * 16 ≤ 140737488355328) :
    CallsIn Fence.wide 5 Tryz.prog 96 #[.func (.func 126) #[] #[.pointer (some ⟨w.heap.size, 0, none⟩)]] (w.alloc (.cells #[.map (some b)] 142)) fun e w' => ∃ (v : Value) (ss : List (List UInt8)), e = .returned v ∧ ss.Perm (strKeys D0) ∧
      w'.ownsRow (w.alloc (.cells #[.map (some b)] 142)).heap.size 9 1 v ss.length ((ss.mergeSort (fun x y => decide (x ≤ y))).map encStr) ∧ (v = .slice none 0 0 ↔ ss = []) ∧ Below (w.alloc (.cells #[.map (some b)] 142)).heap.size (w.alloc (.cells #[.map (some b)] 142)) w' := by
  have hbl := hown.lt
  have hseq : SeqGives Fence.wide 2 Tryz.prog 126 #[.pointer (some ⟨w.heap.size, 0, none⟩)] encStr (fun ss => ss.Perm (strKeys D0)) (Maps.size D0) (w.alloc (.cells #[.map (some b)] 142)) :=
    AnyZ.keys_gives (ρ := Tryz.keysM_ren) { Tryz.keysM with } Fence.wide _ trivial rfl (by omega) w.heap.size b nn D0 _ (by simp) (by simp) (by
      obtain ⟨es, clock, hb, Ft, hs, hD⟩ := hown
      exact ⟨es, clock, (Below.heap_alloc _ _ b hbl).trans hb, Ft, hs, hD⟩)
  exact AnyZ.sorted_in Tryz.sortedM Fence.wide 5 trivial trivial trivial trivial rfl (by omega) (Tryz.sortsM _) (enters_of Tryz.func125 (by kernel_rfl) rfl) 126 #[.pointer (some ⟨w.heap.size, 0, none⟩)] trivial (enters_of Tryz.func126 (by kernel_rfl) rfl) _ _ hmax hbytes _ hseq

set_option maxHeartbeats 1000000 in
theorem Tryz.sortedKeysNilM (w : World) :
    CallsIn Fence.wide 5 Tryz.prog 96 #[.func (.func 126) #[] #[.pointer (some ⟨w.heap.size, 0, none⟩)]] (w.alloc (.cells #[.map none] 142)) fun e w' => ∃ (v : Value) (ss : List (List UInt8)), e = .returned v ∧ ss = [] ∧
      w'.ownsRow (w.alloc (.cells #[.map none] 142)).heap.size 9 1 v ss.length ((ss.mergeSort (fun x y => decide (x ≤ y))).map encStr) ∧ (v = .slice none 0 0 ↔ ss = []) ∧ Below (w.alloc (.cells #[.map none] 142)).heap.size (w.alloc (.cells #[.map none] 142)) w' := by
  have hseq : SeqGives Fence.wide 2 Tryz.prog 126 #[.pointer (some ⟨w.heap.size, 0, none⟩)] encStr (fun ss : List (List UInt8) => ss = []) 0 (w.alloc (.cells #[.map none] 142)) :=
    AnyZ.keys_gives_nil (ρ := Tryz.keysM_ren) { Tryz.keysM with } Fence.wide _ trivial rfl w.heap.size _ (by simp) (by simp)
  exact AnyZ.sorted_in Tryz.sortedM Fence.wide 5 trivial trivial trivial trivial rfl (by omega) (Tryz.sortsM _) (enters_of Tryz.func125 (by kernel_rfl) rfl) 126 #[.pointer (some ⟨w.heap.size, 0, none⟩)] trivial (enters_of Tryz.func126 (by kernel_rfl) rfl) _ 0 (Nat.zero_le _) (by omega) _ hseq
end Go.Proofs
