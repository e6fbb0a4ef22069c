/-
  Own text. slices.Sorted(maps.Keys(m)) at this program's numbers: applications of the shelf's own theorems.
  Own text. (*node.Node).Names by a contract: its files' names, sorted.
  Own text. Names in their order: a row of names merged is the names, rising.
  Own text. scrub.filesOf by a contract: the recipes of a node's files, by names.
  Own text. A range over an iterator that walks a map, where a round lays a block for its variable: a law (range_walk); a map's walk behind a fence (wpIn_range_kit, wpIn_next_kit).
-/
import Derived.Shelf.SlIter.Nil
import Derived.Shelf.SortM.Plain
import Derived.Shelf.SortM.SortNone
import Derived.Ground.GgzProg
import Derived.Ground.SlgmProg
import Derived.Test.YtcbcjefefmbccabGreatDoorProg
import Derived.Test.YtcbcjefefmbccabGreatDoorS08
import Derived.Test.YtcbcjefefmbccabGreatDoorChecked
import Derived.WalkKit
import Derived.Test.YtcbcjefefmbccabGreatDoorS24
import Derived.Test.YtcbcjefefmbccabGreatDoorS19
import Derived.Test.YtcbcjefefmbccabGreatDoorS11
import Derived.Test.YtcbcjefefmbccabGreatDoorS02
import Derived.RangeFuncOwn
import Derived.RangeFuncSeq
import Derived.Sort.MapsRangeIn
namespace Go.Proofs
open Go.RowKit Go.Maps Go.Sort Go.Shelf
def Tryz.keysM_ren : Go.Shelf.Ren := ⟨fun | 7 => 82 | 10 => 140 | n => n, fun | 23 => 99 | 26 => 9 | 3 => 40 | 28 => 141 | 0 => 0 | 27 => 140 | 33 => 201 | 4 => 4 | n => n, fun n => n⟩
theorem Tryz.keysM : Go.Proofs.SlLaysZ.n7 Go.Proofs.Tryz.prog Go.Proofs.Tryz.keysM_ren := {
  mixed := by kernel_rfl
  f7 := Exists.intro "maps.Keys[map[string]cornbin/api.Recipe,string,cornbin/api.Recipe]" ⟨of_decide_eq_true (by kernel_rfl), Tryz.func82.trans (congrArg some (by kernel_rfl))⟩
  f10 := Exists.intro "maps.Keys[map[string]cornbin/api.Recipe,string,cornbin/api.Recipe]$1" ⟨of_decide_eq_true (by kernel_rfl), Tryz.func140.trans (congrArg some (by kernel_rfl))⟩
  t0 := Tryz.underlying0
  a0 := Tryz.isAgg0
  z0 := Tryz.sizeOf0
  v0 := Tryz.zeroValue0
  t4 := Tryz.underlying4
  a4 := Tryz.isAgg4
  z4 := Tryz.sizeOf4
  v4 := Tryz.zeroValue4
  t23 := Tryz.underlying99
  a23 := Tryz.isAgg99
  z23 := Tryz.sizeOf99
  v23 := Tryz.zeroValue99
  t26 := Tryz.underlying9
  a26 := Tryz.isAgg9
  z26 := Tryz.sizeOf9
  v26 := Tryz.zeroValue9
  t27 := Tryz.underlying140
  a27 := Tryz.isAgg140
  z27 := Tryz.sizeOf140
  v27 := Tryz.zeroValue140
  t28 := Tryz.underlying141
  a28 := Tryz.isAgg141
  z28 := Tryz.sizeOf141
  v28 := Tryz.zeroValue141
  t33 := Tryz.underlying201
  a33 := Tryz.isAgg201
  z33 := Tryz.sizeOf201
  v33 := Tryz.zeroValue201 }
def Tryz.sortedM_ren : Go.Shelf.Ren := ⟨fun | 6 => 81 | 8 => 134 | 9 => 139 | 11 => 178 | 13 => 146 | 12 => 182 | 23 => 192 | 24 => 193 | 14 => 222 | 15 => 223 | 16 => 224 | 17 => 225 | 18 => 226 | 19 => 227 | 20 => 228 | 21 => 229 | 22 => 230 | 25 => 245 | 26 => 246 | 27 => 247 | 28 => 248 | 29 => 249 | 30 => 250 | 31 => 261 | n => n, fun | 26 => 9 | 28 => 141 | 24 => 73 | 0 => 0 | 3 => 3 | 37 => 220 | 48 => 23 | 50 => 263 | 4 => 4 | 40 => 301 | 39 => 300 | 45 => 193 | 5 => 5 | 9 => 9 | 51 => 321 | 55 => 311 | 57 => 335 | 58 => 103 | 33 => 201 | n => n, fun n => n⟩
theorem Tryz.sortedM : Go.Proofs.SlLaysZ.n6 Go.Proofs.Tryz.prog Go.Proofs.Tryz.sortedM_ren := {
  mixed := by kernel_rfl
  f6 := Exists.intro "slices.Sorted[string]" ⟨of_decide_eq_true (by kernel_rfl), Tryz.func81.trans (congrArg some (by kernel_rfl))⟩
  f8 := Exists.intro "slices.Collect[string]" ⟨of_decide_eq_true (by kernel_rfl), Tryz.func134.trans (congrArg some (by kernel_rfl))⟩
  f11 := Exists.intro "slices.AppendSeq[[]string,string]" ⟨of_decide_eq_true (by kernel_rfl), Tryz.func178.trans (congrArg some (by kernel_rfl))⟩
  t0 := Tryz.underlying0
  a0 := Tryz.isAgg0
  z0 := Tryz.sizeOf0
  v0 := Tryz.zeroValue0
  t24 := Tryz.underlying73
  a24 := Tryz.isAgg73
  z24 := Tryz.sizeOf73
  v24 := Tryz.zeroValue73
  t26 := Tryz.underlying9
  a26 := Tryz.isAgg9
  z26 := Tryz.sizeOf9
  v26 := Tryz.zeroValue9
  t28 := Tryz.underlying141
  a28 := Tryz.isAgg141
  z28 := Tryz.sizeOf141
  v28 := Tryz.zeroValue141
  i26 := by kernel_rfl }
def Tryz.sortM_ren : Go.Shelf.Ren := ⟨fun | 6 => 139 | 8 => 146 | 9 => 182 | 19 => 192 | 20 => 193 | 21 => 222 | 22 => 223 | 23 => 224 | 24 => 225 | 25 => 226 | 26 => 227 | 27 => 228 | 28 => 229 | 29 => 230 | 36 => 245 | 31 => 246 | 32 => 247 | 37 => 248 | 38 => 249 | 39 => 250 | 41 => 261 | n => n, fun | 27 => 73 | 29 => 9 | 3 => 3 | 32 => 220 | 26 => 73 | 0 => 0 | 44 => 23 | 46 => 263 | 4 => 4 | 36 => 301 | 35 => 300 | 41 => 193 | 5 => 5 | 9 => 9 | 53 => 321 | 57 => 311 | 63 => 335 | 64 => 103 | n => n, fun n => n⟩
theorem Tryz.sortM : Go.Proofs.SlLaysM.n6 Go.Proofs.Tryz.prog Go.Proofs.Tryz.sortM_ren := {
  mixed := by kernel_rfl
  f6 := Exists.intro "slices.Sort[[]string,string]" ⟨of_decide_eq_true (by kernel_rfl), Tryz.func139.trans (congrArg some (by kernel_rfl))⟩
  f8 := Tryz.func146.trans (congrArg some (by kernel_rfl))
  f9 := Exists.intro "slices.pdqsortOrdered[string]" ⟨of_decide_eq_true (by kernel_rfl), Tryz.func182.trans (congrArg some (by kernel_rfl))⟩
  f19 := Tryz.func192.trans (congrArg some (by kernel_rfl))
  f20 := Tryz.func193.trans (congrArg some (by kernel_rfl))
  f21 := Exists.intro "slices.insertionSortOrdered[string]" ⟨of_decide_eq_true (by kernel_rfl), Tryz.func222.trans (congrArg some (by kernel_rfl))⟩
  f22 := Exists.intro "slices.heapSortOrdered[string]" ⟨of_decide_eq_true (by kernel_rfl), Tryz.func223.trans (congrArg some (by kernel_rfl))⟩
  f23 := Exists.intro "slices.breakPatternsOrdered[string]" ⟨of_decide_eq_true (by kernel_rfl), Tryz.func224.trans (congrArg some (by kernel_rfl))⟩
  f24 := Exists.intro "slices.choosePivotOrdered[string]" ⟨of_decide_eq_true (by kernel_rfl), Tryz.func225.trans (congrArg some (by kernel_rfl))⟩
  f25 := Exists.intro "slices.reverseRangeOrdered[string]" ⟨of_decide_eq_true (by kernel_rfl), Tryz.func226.trans (congrArg some (by kernel_rfl))⟩
  f26 := Exists.intro "slices.partialInsertionSortOrdered[string]" ⟨of_decide_eq_true (by kernel_rfl), Tryz.func227.trans (congrArg some (by kernel_rfl))⟩
  f27 := Exists.intro "cmp.Less[string]" ⟨of_decide_eq_true (by kernel_rfl), Tryz.func228.trans (congrArg some (by kernel_rfl))⟩
  f28 := Exists.intro "slices.partitionEqualOrdered[string]" ⟨of_decide_eq_true (by kernel_rfl), Tryz.func229.trans (congrArg some (by kernel_rfl))⟩
  f29 := Exists.intro "slices.partitionOrdered[string]" ⟨of_decide_eq_true (by kernel_rfl), Tryz.func230.trans (congrArg some (by kernel_rfl))⟩
  f31 := Tryz.func246.trans (congrArg some (by kernel_rfl))
  f32 := Tryz.func247.trans (congrArg some (by kernel_rfl))
  f36 := Exists.intro "slices.siftDownOrdered[string]" ⟨of_decide_eq_true (by kernel_rfl), Tryz.func245.trans (congrArg some (by kernel_rfl))⟩
  f37 := Exists.intro "slices.medianAdjacentOrdered[string]" ⟨of_decide_eq_true (by kernel_rfl), Tryz.func248.trans (congrArg some (by kernel_rfl))⟩
  f38 := Exists.intro "slices.medianOrdered[string]" ⟨of_decide_eq_true (by kernel_rfl), Tryz.func249.trans (congrArg some (by kernel_rfl))⟩
  f39 := Exists.intro "cmp.isNaN[string]" ⟨of_decide_eq_true (by kernel_rfl), Tryz.func250.trans (congrArg some (by kernel_rfl))⟩
  f41 := Exists.intro "slices.order2Ordered[string]" ⟨of_decide_eq_true (by kernel_rfl), Tryz.func261.trans (congrArg some (by kernel_rfl))⟩
  t0 := Tryz.underlying0
  a0 := Tryz.isAgg0
  z0 := Tryz.sizeOf0
  v0 := Tryz.zeroValue0
  t3 := Tryz.underlying3
  a3 := Tryz.isAgg3
  z3 := Tryz.sizeOf3
  v3 := Tryz.zeroValue3
  t4 := Tryz.underlying4
  a4 := Tryz.isAgg4
  z4 := Tryz.sizeOf4
  v4 := Tryz.zeroValue4
  t5 := Tryz.underlying5
  a5 := Tryz.isAgg5
  z5 := Tryz.sizeOf5
  v5 := Tryz.zeroValue5
  t9 := Tryz.underlying9
  a9 := Tryz.isAgg9
  z9 := Tryz.sizeOf9
  v9 := Tryz.zeroValue9
  t26 := Tryz.underlying73
  a26 := Tryz.isAgg73
  z26 := Tryz.sizeOf73
  v26 := Tryz.zeroValue73
  t27 := Tryz.underlying73
  a27 := Tryz.isAgg73
  z27 := Tryz.sizeOf73
  v27 := Tryz.zeroValue73
  t29 := Tryz.underlying9
  a29 := Tryz.isAgg9
  z29 := Tryz.sizeOf9
  v29 := Tryz.zeroValue9
  t32 := Tryz.underlying220
  a32 := Tryz.isAgg220
  z32 := Tryz.sizeOf220
  v32 := Tryz.zeroValue220
  t35 := Tryz.underlying300
  a35 := Tryz.isAgg300
  z35 := Tryz.sizeOf300
  v35 := Tryz.zeroValue300
  t36 := Tryz.underlying301
  a36 := Tryz.isAgg301
  z36 := Tryz.sizeOf301
  v36 := Tryz.zeroValue301
  t41 := Tryz.underlying193
  a41 := Tryz.isAgg193
  z41 := Tryz.sizeOf193
  v41 := Tryz.zeroValue193
  t44 := Tryz.underlying23
  a44 := Tryz.isAgg23
  z44 := Tryz.sizeOf23
  v44 := Tryz.zeroValue23
  t46 := Tryz.underlying263
  a46 := Tryz.isAgg263
  z46 := Tryz.sizeOf263
  v46 := Tryz.zeroValue263
  t53 := Tryz.underlying321
  a53 := Tryz.isAgg321
  z53 := Tryz.sizeOf321
  v53 := Tryz.zeroValue321
  t57 := Tryz.underlying311
  a57 := Tryz.isAgg311
  z57 := Tryz.sizeOf311
  v57 := Tryz.zeroValue311
  t63 := Tryz.underlying335
  a63 := Tryz.isAgg335
  z63 := Tryz.sizeOf335
  v63 := Tryz.zeroValue335
  t64 := Tryz.underlying103
  a64 := Tryz.isAgg103
  z64 := Tryz.sizeOf103
  v64 := Tryz.zeroValue103 }
theorem Tryz.sortsM (m : Nat) : AnyZ.SortsIn Tryz.prog Tryz.sortedM_ren Fence.wide m :=
  ⟨fun blk off cap ss W hH hblk hsz => callsIn_wide.2 (AnyM.slices_Sort_string Tryz.sortM blk off cap ss W hH hblk hsz),
   fun p cap W => callsIn_wide.2 (AnyM.slices_Sort_string_none Tryz.sortM p cap W)⟩

theorem Tryz.maps_KeysM (mb : Option Nat) (W : World) : CallsIn Fence.wide 5 Tryz.prog 82 #[.map mb] W fun e w' => e = .returned (.func (.func 140) #[] #[.pointer (some ⟨W.heap.size, 0, none⟩)]) ∧ w' = W.alloc (.cells #[.map mb] 99) :=
  AnyZ.keys_in Tryz.keysM Fence.wide 5 trivial rfl mb W

set_option maxHeartbeats 1000000 in
theorem Tryz.sortedKeysM {H : Type} (b nn : Nat) (D0 : DataW H) (R : Value → Option (DataW H × List MemPlace)) (w : World) (hown : w.ownsMap Tryz.prog 9 R b nn D0) (hmax : Maps.size D0 ≤ maxLen) (hbytes : Maps.size D0 * 16 ≤ 140737488355328) :
    CallsIn Fence.wide 5 Tryz.prog 81 #[.func (.func 140) #[] #[.pointer (some ⟨w.heap.size, 0, none⟩)]] (w.alloc (.cells #[.map (some b)] 99)) fun e w' => ∃ (v : Value) (ss : List (List UInt8)), e = .returned v ∧ ss.Perm (strKeys D0) ∧
      w'.ownsRow (w.alloc (.cells #[.map (some b)] 99)).heap.size 9 1 v ss.length ((ss.mergeSort (fun x y => decide (x ≤ y))).map encStr) ∧ (v = .slice none 0 0 ↔ ss = []) ∧ Below (w.alloc (.cells #[.map (some b)] 99)).heap.size (w.alloc (.cells #[.map (some b)] 99)) w' := by
  have hbl := hown.lt
  have hseq : SeqGives Fence.wide 2 Tryz.prog 140 #[.pointer (some ⟨w.heap.size, 0, none⟩)] encStr (fun ss => ss.Perm (strKeys D0)) (Maps.size D0) (w.alloc (.cells #[.map (some b)] 99)) :=
    AnyZ.keys_gives (ρ := Tryz.keysM_ren) { Tryz.keysM with } Fence.wide _ trivial rfl (by omega) w.heap.size b nn D0 _ (by simp) (by simp) (by
      obtain ⟨es, clock, hb, Ft, hs, hD⟩ := hown
      exact ⟨es, clock, (Below.heap_alloc _ _ b hbl).trans hb, Ft, hs, hD⟩)
  exact AnyZ.sorted_in Tryz.sortedM Fence.wide 5 trivial trivial trivial trivial rfl (by omega) (Tryz.sortsM _) (enters_of Tryz.func139 (by kernel_rfl) rfl) 140 #[.pointer (some ⟨w.heap.size, 0, none⟩)] trivial (enters_of Tryz.func140 (by kernel_rfl) rfl) _ _ hmax hbytes _ hseq

end Go.Proofs
namespace Go.Proofs.YtcbcjefefmbccabGreatDoor
open Go.RowKit Go.Maps Go.Sort Go.Shelf

theorem strKl (x : List UInt8) (hx : WfNm x) : strRcps.kl x = .string x := by
  show (keyOf Tryz.prog 9 (.string ⟨x.toArray⟩)).getD (.bool false) = _
  rw [strKey_eq]
  unfold mapKey
  rw [Tryz.underlying9]
  have h1 : x.toArray.size = x.length := List.size_toArray
  have : (⟨x.toArray⟩ : ByteArray).size ≤ maxLen := by show x.toArray.size ≤ maxLen; rw [h1]; exact hx
  simp only [this, if_true]
  rfl
set_option maxRecDepth 100000 in
set_option maxHeartbeats 2000000 in
theorem nodeNames_any (p : Addr) (F : Nat → Prop) (st : NSt) (w : World) (hn : st.files.length ≤ 1000) (hP : PNode w p F st) :
    Calls Tryz.prog 31 #[.pointer (some p)] w fun e w' => ∃ (v : Value) (ss : List (List UInt8)), e = .returned v ∧ ss.Perm (st.files.map (·.1)) ∧
      w'.ownsRow w.heap.size 9 1 v ss.length ((ss.mergeSort (fun x y => decide (x ≤ y))).map encStr) ∧ Below w.heap.size w w' := by
  obtain ⟨N, mf, mb, vi, pi, Fi, rfl, h, _⟩ := hP
  have q0 := h.blk.cell (i := 0) rfl
  obtain ⟨ds, hown, hp⟩ := h.files.own
  have hsz : Maps.size (DataW.map ds) = st.files.length := by
    show ds.length = _
    rw [hp.length_eq, List.length_map, List.length_map]
  have hkeys : (strKeys (DataW.map ds)).Perm (st.files.map (·.1)) := by
    have h1 : (ds.map fun p => strOf p.1).Perm (((st.files.map fun f => (f.1, rwOf f (vi f.1))).map strRcps.ent).map fun p => strOf p.1) := hp.map _
    have h2 : (((st.files.map fun f => (f.1, rwOf f (vi f.1))).map strRcps.ent).map fun p => strOf p.1) = st.files.map (·.1) := by
      rw [List.map_map, List.map_map]
      refine List.map_congr_left fun f hf => ?_
      show strOf (strRcps.kl f.1) = f.1
      rw [strKl _ (h.files.wf _ (List.mem_map.2 ⟨f, hf, rfl⟩))]
      rfl
    rw [h2] at h1
    exact h1
  have hmax : Maps.size (DataW.map ds) ≤ maxLen := by rw [hsz]; unfold maxLen; omega
  have hbytes : Maps.size (DataW.map ds) * 16 ≤ 140737488355328 := by rw [hsz]; omega
  refine (callsIn_wide (n := 6)).1 ?_
  have hfK : Fence.wide.fn 82 := trivial
  have hfS : Fence.wide.fn 81 := trivial
  refine callsIn_of_wp Tryz.func31 rfl trivial ?_ rfl
  simp only [Tryz.ntmps31, List.size_toArray, List.length_cons, List.length_nil, Nat.reduceAdd, Nat.reduceSub, Array.replicate_succ, Array.replicate_zero, List.push_toArray, List.append_toArray, List.nil_append, List.cons_append]
  gi_wp2_with (first
    | (gi_at_call 82; refine (Tryz.maps_KeysM _ _).mono ?_; rintro e w' ⟨rfl, rfl⟩)
    | (gi_at_call 81; refine (Tryz.sortedKeysM mf _ (DataW.map ds) _ w hown hmax hbytes).mono ?_; rintro e w' ⟨v, ss, rfl, hS, hrow, hnil, hb⟩))
  go_ret
  exact ⟨v, ss, rfl, hS.trans hkeys, ownsRow_base_a hrow (by simp), ((Below.refl _ w).alloc (Nat.le_refl _) _).trans (hb.mono (by simp))⟩
end Go.Proofs.YtcbcjefefmbccabGreatDoor
namespace Go.Proofs.YtcbcjefefmbccabGreatDoor

theorem sorted_names {ss ns : List (List UInt8)} (hp : ss.Perm ns) (hd : ns.Pairwise (fun a b => a ≠ b)) : (ss.mergeSort (fun x y => decide (x ≤ y))).Perm ns ∧ (ss.mergeSort (fun x y => decide (x ≤ y))).Pairwise (fun a b => a < b) := by
  have h1 : (ss.mergeSort (fun x y => decide (x ≤ y))).Perm ns := (List.mergeSort_perm _ _).trans hp
  have tr : ∀ a b c : List UInt8, decide (a ≤ b) = true → decide (b ≤ c) = true → decide (a ≤ c) = true := fun a b c h1 h2 => by simp only [decide_eq_true_eq] at *; exact List.le_trans h1 h2
  have ttl : ∀ a b : List UInt8, (decide (a ≤ b) || decide (b ≤ a)) = true := fun a b => by simp only [Bool.or_eq_true, decide_eq_true_eq]; exact List.le_total a b
  have h2 := List.pairwise_mergeSort tr ttl ss
  have h3 := (h1.pairwise_iff (fun {_ _} hne => Ne.symm hne)).2 hd
  refine ⟨h1, (h2.and h3).imp fun {a b} h => ?_⟩
  obtain ⟨hle, hne⟩ := h
  simp only [decide_eq_true_eq] at hle
  exact (List.le_iff_lt_or_eq.1 hle).resolve_right hne
end Go.Proofs.YtcbcjefefmbccabGreatDoor
namespace Go.Proofs.YtcbcjefefmbccabGreatDoor
open Go.RowKit Go.Maps Go.Sort Go.Shelf

abbrev RP := NFile × Value
def rcpCells : List RP → List Value
  | [] => []
  | q :: r => .string ⟨q.1.1.toArray⟩ :: .int .i64 (q.1.2.length : Int) :: .int .u32 ((pmore 2166136261 q.1.2 : Nat) : Int) :: q.2 :: rcpCells r
theorem rcpCells_append : ∀ (a b : List RP), rcpCells (a ++ b) = rcpCells a ++ rcpCells b
  | [], _ => rfl
  | x :: r, b => by rw [List.cons_append, rcpCells, rcpCells_append r b, rcpCells]; rfl
theorem rcpCells_at : ∀ (a : List RP) (i : Nat) (h : i < a.length), (rcpCells a)[i * 4]? = some (.string ⟨a[i].1.1.toArray⟩) ∧ (rcpCells a)[i * 4 + 1]? = some (.int .i64 (a[i].1.2.length : Int)) ∧ (rcpCells a)[i * 4 + 2]? = some (.int .u32 ((pmore 2166136261 a[i].1.2 : Nat) : Int)) ∧ (rcpCells a)[i * 4 + 3]? = some a[i].2
  | x :: r, 0, _ => ⟨rfl, rfl, rfl, rfl⟩
  | x :: r, i + 1, h => by
    have := rcpCells_at r i (by simpa using h)
    rw [rcpCells, show (i + 1) * 4 = i * 4 + 1 + 1 + 1 + 1 by omega]
    simpa using this
theorem infoRcp : (Tryz.prog.info? 40).map (fun i => (i.zero, i.size, i.bytes)) = some (some (rcpV ⟨#[]⟩ 0 0 (.slice none 0 0)), 4, 56) := by kernel_rfl
/- Rows of recipes as they grow. -/
structure FlsSt (w W : World) (v : Value) (ps : List RP) : Prop where
  row : W.ownsRow w.heap.size 40 4 v ps.length (rcpCells ps)
  ids : ∀ q ∈ ps, IdsAt W q.2 (idsOf q.1.2)
  off : ∀ q ∈ ps, idsOf q.1.2 ≠ [] → ∀ j, q.2.ownBlock = some j → v.ownBlock ≠ some j
theorem FlsSt.nil (w W : World) : FlsSt w W (.slice none 0 0) [] := ⟨World.ownsRow_nil _ _ _ _, fun q hq => by simp at hq, fun q hq => by simp at hq⟩
theorem FlsSt.next {w W W' : World} {v : Value} {ps : List RP} (h : FlsSt w W v ps) (hb : Below W.heap.size W W') : FlsSt w W' v ps :=
  ⟨row_below h.row hb, fun q hq => (h.ids q hq).below hb, h.off⟩
theorem FlsSt.app {w W W' : World} {v v' : Value} {ps : List RP} {q : RP} (h : FlsSt w W v ps) (hq : IdsAt W q.2 (idsOf q.1.2)) (hn : idsOf q.1.2 ≠ [] → ∀ j, q.2.ownBlock = some j → v.ownBlock ≠ some j) (hg : W.grownBy W' v.ownBlock) (hr : W'.ownsRow w.heap.size 40 4 v' (ps.length + 1) (rcpCells (ps ++ [q]))) (hv : v'.ownBlock = v.ownBlock ∨ v'.ownBlock = some W.heap.size) : FlsSt w W' v' (ps ++ [q]) := by
  have ho := off_of_rowgrown hg
  have hall : ∀ x ∈ ps ++ [q], IdsAt W x.2 (idsOf x.1.2) ∧ (idsOf x.1.2 ≠ [] → ∀ j, x.2.ownBlock = some j → v.ownBlock ≠ some j) := fun x hx => by
    rcases List.mem_append.1 hx with hx | hx
    · exact ⟨h.ids x hx, h.off x hx⟩
    · rw [List.mem_singleton.1 hx]
      exact ⟨hq, hn⟩
  refine ⟨by rw [List.length_append]; exact hr, fun x hx => (hall x hx).1.off ho (fun hne j hj e => (hall x hx).2 hne j hj e), fun x hx hne j hj e => ?_⟩
  rcases hv with hv | hv
  · exact (hall x hx).2 hne j hj (hv ▸ e)
  · have := (hall x hx).1.lt hne hj
    rw [hv] at e
    have := Option.some.inj e
    omega
theorem FlsSt.at {w W : World} {v : Value} {ps : List RP} (h : FlsSt w W v ps) : RcpsAt W v (ps.map fun q => rcpOf q.1) := by
  rcases h.row.2 with ⟨rfl, e⟩ | ⟨g, cap, cur, hv, _, hb, _⟩
  · have : ps = [] := List.length_eq_zero_iff.1 e
    subst this
    exact ⟨none, 0, rfl, fun i hi => by simp at hi⟩
  · refine ⟨some ⟨g, 0, none⟩, cap, by rw [hv, List.length_map], fun i hi => ?_⟩
    have hi' : i < ps.length := by simpa using hi
    obtain ⟨a0, a1, a2, a3⟩ := rcpCells_at ps i hi'
    have c0 := h.row.cells (g := g) (by rw [hv]; rfl) (i * 4) _ a0
    have c1 := h.row.cells (g := g) (by rw [hv]; rfl) (i * 4 + 1) _ a1
    have c2 := h.row.cells (g := g) (by rw [hv]; rfl) (i * 4 + 2) _ a2
    have c3 := h.row.cells (g := g) (by rw [hv]; rfl) (i * 4 + 3) _ a3
    simp only [add_plain] at c0 c1 c2 c3
    refine ⟨g, 0, ps[i].2, rfl, ?_⟩
    simp only [List.getElem_map, Nat.zero_add]
    exact ⟨lt_of_block hb, c0, c1, c2, c3, h.ids _ (List.getElem_mem hi')⟩
theorem files_named {st : NSt} (hap : st.files.Pairwise (fun f g => f.1 ≠ g.1)) {NS : List (List UInt8)} (hp : NS.Perm (st.files.map (·.1))) : (NS.map fun n => (n, (nFile st.files n).getD [])).Perm st.files := by
  refine (hp.map _).trans ?_
  rw [List.map_map]
  have : st.files.map ((fun n => (n, (nFile st.files n).getD [])) ∘ (·.1)) = st.files := by
    conv => rhs; rw [← List.map_id st.files]
    refine List.map_congr_left fun f hf => ?_
    simp only [Function.comp, id]
    rw [nFile_of_mem hap (show (f.1, f.2) ∈ st.files from hf)]
    rfl
  rw [this]
set_option maxRecDepth 100000 in
set_option maxHeartbeats 8000000 in
theorem filesOf_any (a : Nat → Addr) (p : Addr) (F : Nat → Prop) (st : NSt) (w : World) (hfl : ∀ f ∈ st.files, f.2.length ≤ 4000 ∧ isName f.1 = true) (hn : st.files.length ≤ 30) (hE : ErrE [4] w a) (hP : PNode w p F st) :
    Calls Tryz.prog 70 #[.pointer (some p)] w fun e w' => ∃ (v : Value) (fl : List NFile), e = .returned v ∧ fl.Perm st.files ∧ fl.Pairwise (fun f g => f.1 < g.1) ∧ RcpsAt w' v (fl.map rcpOf) ∧ Below w.heap.size w w' := by
  have hap : st.files.Pairwise (fun f g => f.1 ≠ g.1) := by
    obtain ⟨N, mf, mb, vi, pi, Fi, _, h, _⟩ := hP
    have := h.files.apart
    rw [List.pairwise_map] at this
    exact this
  have HAP := hideN hap
  have HP := hideN hP
  have HFL := hideN hfl
  have HEE : Hid (∀ W, Below w.heap.size w W → ErrE [4] W a) := fun W hb => hE.below hb (Nat.le_refl _)
  obtain ⟨iR, hiR, zR0, zR1, zR2⟩ := info_parts infoRcp
  have HNM := hideN (nodeNames_any p F st w (by omega) hP)
  clear hP hfl hE hap
  go_enter Tryz.func70, Tryz.ntmps70
  go_wp2_with fail
  refine HNM.out.mono ?_
  rintro e w1 ⟨vn, ss, rfl, hss, hrow, hb1⟩
  obtain ⟨hs1, hs2⟩ := sorted_names hss (by rw [List.pairwise_map]; exact HAP.out)
  obtain ⟨NS, hNS⟩ : ∃ NS, ss.mergeSort (fun x y => decide (x ≤ y)) = NS := ⟨_, rfl⟩
  rw [hNS] at hs1 hs2 hrow
  have hlen : ss.length = NS.length := by rw [← hNS, List.length_mergeSort]
  rw [hlen] at hrow
  have HS1 := hideN hs1
  have HS2 := hideN hs2
  have HB1 := hideN hb1
  have HPE := hideN (files_named HAP.out hs1)
  have hnl : (NS.length : Int) ≤ 30 := by have := hs1.length_eq; rw [List.length_map] at this; omega
  have HCN : Hid (NS ≠ [] → ∃ g, (∃ c, vn = .slice (some ⟨g, 0, none⟩) NS.length c) ∧ g < w1.heap.size ∧ ∀ i (hi : i < NS.length), w1.cell? ⟨g, i, none⟩ = some (.string ⟨NS[i].toArray⟩)) := fun hne => by
    rcases hrow.2 with ⟨_, hz⟩ | ⟨g, cap, cur, hv, _, hb, _⟩
    · exact absurd (List.length_eq_zero_iff.1 hz) hne
    · refine ⟨g, ⟨cap, hv⟩, lt_of_block hb, fun i hi => ?_⟩
      have c1 := hrow.cells (g := g) (by rw [hv]; rfl) i (encStr NS[i]) (by simp [hi])
      simp only [add_plain] at c1
      exact c1
  obtain ⟨pn, cn, hvn⟩ := row_shapeK hrow
  subst hvn
  clear hss hs1 hs2 hNS hlen hrow hb1 HNM
  go_wp2_with fail
  go_loopw [3, 11] (fun v iv wr => ∃ (k : Nat) (ps : List RP), k ≤ NS.length ∧ iv = .int .i64 k ∧ Hid (ps.map (·.1) = (NS.take k).map (fun n => (n, (nFile st.files n).getD []))) ∧ Hid (FlsSt w1 wr v ps) ∧ Hid (Below w1.heap.size w1 wr)) (fun _ iv _ => NS.length - (intOf iv).toNat)
  case atStart => exact ⟨0, [], Nat.zero_le _, rfl, rfl, FlsSt.nil _ _, Below.refl _ _⟩
  case round =>
    obtain ⟨k, ps, hk, rfl, HPS, HFS, HB⟩ := hrel
    have HPL : Hid (ps.length = k) := by
      show _ = _
      have := congrArg List.length HPS.out
      rw [List.length_map, List.length_map, List.length_take] at this
      omega
    by_cases hlt : k < NS.length
    · have hlt' : (k : Int) < (NS.length : Int) := by omega
      have hk0 : (0 : Int) ≤ (k : Int) := by omega
      obtain ⟨g, ⟨cg, hvg⟩, hgl, hcell⟩ := HCN.out (fun e => by rw [e] at hlt; simp at hlt)
      obtain ⟨rfl, rfl⟩ : pn = some ⟨g, 0, none⟩ ∧ cn = cg := by simpa using hvg
      have d0 := (HB.out.cell (p := ⟨g, k, none⟩) hgl).trans (hcell k hlt)
      have HTK := hideN (List.take_succ_eq_append_getElem hlt)
      have hxm : NS[k] ∈ st.files.map (·.1) := HS1.out.mem_iff.1 (List.getElem_mem hlt)
      obtain ⟨x, hx⟩ : ∃ x, NS[k] = x := ⟨_, rfl⟩
      rw [hx] at d0 HTK hxm
      obtain ⟨⟨f1, s⟩, hf, rfl⟩ := List.mem_map.1 hxm
      simp only at d0 HTK
      have hnf := nFile_of_mem HAP.out hf
      obtain ⟨hs4, hnm⟩ := HFL.out _ hf
      simp only at hs4 hnm
      have hnl12 := isName_len hnm
      obtain ⟨X, hX⟩ : ∃ X : ByteArray, (⟨f1.toArray⟩ : ByteArray) = X := ⟨_, rfl⟩
      have hXd : X.data.toList = f1 := by rw [← hX]
      have hXs : X.size ≤ 50000 := by
        have : X.data.toList.length = X.size := by rw [Array.length_toList]; rfl
        rw [hXd] at this
        omega
      have HREC := hideN (nodeRecipe_any a X p F st wr hXs (fun f hf => by have h1 := pieces_len_le f.2; have h2 := (HFL.out f hf).1; unfold idsOf; rw [List.length_map]; omega) (HEE.out _ (HB1.out.trans (HB.out.mono HB1.out.size))) ((HP.out.below HB1.out).below HB.out))
      rw [hXd, hnf] at HREC
      unfold RecPost at HREC
      simp only at HREC
      rw [hX] at d0
      have HX := hideN hX
      have HNF := hideN hnf
      obtain ⟨PP, hPP⟩ : ∃ PP, pmore 2166136261 s = PP := ⟨_, rfl⟩
      obtain ⟨LL, hLL⟩ : ∃ LL, (s.length : Int) = LL := ⟨_, rfl⟩
      have HPP := hideN hPP
      have HLL := hideN hLL
      rw [hPP, hLL] at HREC
      have HRN : Hid (Calls Tryz.prog 12 #[.pointer (some p), .string X] wr fun e w' => ∃ (q : Option Addr) (c : Nat), e = .returned (.tuple #[.agg #[.string X, .int .i64 LL, .int .u32 (PP : Nat), .slice q (idsOf s).length c], .nilIface]) ∧ IdsIn wr.heap.size w' (.slice q (idsOf s).length c) (idsOf s) ∧ Below wr.heap.size wr w') := HREC.out.mono fun e w' ⟨⟨v, he, hi⟩, hbw⟩ => by
        obtain ⟨q, c, hq, hc⟩ := hi
        subst hq
        exact ⟨q, c, he, ⟨q, c, rfl, hc⟩, hbw⟩
      obtain ⟨idl, hidl⟩ : ∃ idl, (idsOf s).length = idl := ⟨_, rfl⟩
      have HIDL := hideN hidl
      rw [hidl] at HRN
      have HRW : Hid (∀ j, u3.ownBlock = some j → j < wr.heap.size) := fun j hj => row_lt HFS.out.row hj
      clear hvg hgl hcell hxm hx hf hnf hs4 hnm hnl12 hX hXd hXs hPP hLL hidl HREC
      go_wp2_with fail
      refine HRN.out.mono ?_
      rintro e w4 ⟨q4, c4, rfl, hi4, hb4⟩
      have hal5 := (Below.refl w4.heap.size w4).alloc (Nat.le_refl _) (.cells #[.string X, .int .i64 LL, .int .u32 (PP : Nat), .slice q4 idl c4] 40)
      have HR5 := hideN (Blk.new w4 #[.string X, .int .i64 LL, .int .u32 (PP : Nat), .slice q4 idl c4] 40)
      have HFS5 := hideN ((HFS.out.next hb4).next hal5)
      have HI5 := hideN ((hi4.below hal5).at)
      have HIB : Hid (idsOf s ≠ [] → ∀ j, (Value.slice q4 idl c4).ownBlock = some j → wr.heap.size ≤ j) := fun hne j hj => by
        obtain ⟨p', c', hv', hc'⟩ := hi4
        obtain ⟨b', o', hp', hle, _⟩ := hc' 0 (List.length_pos_iff.2 hne)
        have : q4 = p' := by have := hv'; simp at this; exact this.1
        subst this hp'
        have : b' = j := by simpa [Value.ownBlock] using hj
        omega
      have HB5 : Hid (Below w1.heap.size w1 _) := hideN ((HB.out.trans (hb4.mono HB.out.size)).trans (hal5.mono (Nat.le_trans HB.out.size hb4.size)))
      obtain ⟨W5, hW5⟩ : ∃ W5, w4.alloc (.cells #[.string X, .int .i64 LL, .int .u32 (PP : Nat), .slice q4 idl c4] 40) = W5 := ⟨_, rfl⟩
      rw [hW5] at HR5 HFS5 HI5 HB5
      have hs5 : W5.heap.size = w4.heap.size + 1 := by rw [← hW5]; simp
      have r0 := HR5.out.cell (i := 0) rfl
      have r1 := HR5.out.cell (i := 1) rfl
      have r2 := HR5.out.cell (i := 2) rfl
      have r3 := HR5.out.cell (i := 3) rfl
      have HS5 := hideN hs5
      have HW5 := hideN hW5
      rw [← hW5] at r0 r1 r2 r3
      have HPLN : Hid (ps.length ≤ 30) := by show _ ≤ _; rw [HPL.out]; omega
      have HOWN5 : Hid ((w4.alloc (.cells #[.string X, .int .i64 LL, .int .u32 (PP : Nat), .slice q4 idl c4] 40)).ownsRow w1.heap.size 40 4 u3 ps.length (rcpCells ps)) := by rw [hW5]; exact HFS5.out.row
      clear hal5 hb4 hi4 hW5 hs5 HRN
      go_wp2_with (at_builtin; refine wpList_append_own_at _ rfl (.tmp 21) (.tmp 23) 31 rfl w1.heap.size 40 iR (rcpV ⟨#[]⟩ 0 0 (.slice none 0 0)) 4 56 Tryz.underlying31 hiR zR0 zR1 zR2 rfl (by decide) _ _ _ rfl (HOWN5.out.alloc _) ⟨w4.heap.size + 1, 0, none⟩ 1 1 [.string X, .int .i64 LL, .int .u32 (PP : Nat), .slice q4 idl c4] rfl rfl ?c1 ?c2 ?c3 ?c4 ?c5 ?_)
      case c1 =>
        intro j u hj
        rw [add_plain]
        exact new_cell _ #[.string X, .int .i64 LL, .int .u32 (PP : Nat), .slice q4 idl c4] _ (by rw [← hj]; simp) (by simp)
      case c2 => intro u hu; simp at hu; rcases hu with rfl | rfl | rfl | rfl <;> rfl
      case c3 => have := HPLN.out; unfold maxLen; omega
      case c4 => have := HPLN.out; omega
      case c5 => have h1 := HB5.out.size; have h2 := HS5.out; simp; omega
      intro v6 w6 hown6 hg6 _ hv6
      rw [HW5.out] at hg6
      have hal6 := (Below.refl W5.heap.size W5).alloc (Nat.le_refl _) (.cells #[.string X, .int .i64 LL, .int .u32 (PP : Nat), .slice q4 idl c4] 40)
      have HFS6 : Hid (FlsSt w1 w6 v6 (ps ++ [((f1, s), .slice q4 idl c4)])) := (HFS5.out.next hal6).app (q := ((f1, s), .slice q4 idl c4)) (HI5.out.below hal6) (fun hne j hj e => by
        have h1 := HIB.out hne j hj
        have h2 := HRW.out j e
        omega) hg6 (by
        rw [rcpCells_append]
        have : rcpCells [((f1, s), Value.slice q4 idl c4)] = [.string X, .int .i64 LL, .int .u32 (PP : Nat), .slice q4 idl c4] := by rw [rcpCells, rcpCells]; simp only; rw [HX.out, HLL.out, HPP.out]
        rw [this]
        exact hown6) (by
        rcases hv6 with h | h
        · exact .inl h
        · exact .inr (by rw [h]; simp [HS5.out]))
      have HB6 : Hid (Below w1.heap.size w1 w6) := (HB5.out.trans (hal6.mono HB5.out.size)).trans ⟨hg6.os, hg6.tape, hg6.output, hg6.size, fun j hj => hg6.block j (by have := HB5.out.size; simp; omega) (fun e => by have := row_ge HFS5.out.row e.symm; omega)⟩
      have HPS6 : Hid ((ps ++ [((f1, s), Value.slice q4 idl c4)]).map (·.1) = (NS.take (k + 1)).map (fun n => (n, (nFile st.files n).getD []))) := by
        show _ = _
        rw [List.map_append, HPS.out, HTK.out, List.map_append]
        congr 1
        simp only [List.map_cons, List.map_nil]
        rw [HNF.out]
        rfl
      clear hown6 hg6 hv6 hal6 r0 r1 r2 r3 d0
      go_wp2_with fail
      go_roundw
      case rel => exact ⟨k + 1, _, hlt, by go_num, HPS6.out, HFS6.out, HB6.out⟩
      case measure => simp [intOf]; omega
    · have hge : (NS.length : Int) ≤ (k : Int) := by omega
      have hke : NS.take k = NS := List.take_of_length_le (by omega)
      rw [hke] at HPS
      clear hke
      go_wp2_with fail
      go_ret
      refine ⟨_, NS.map (fun n => (n, (nFile st.files n).getD [])), rfl, HPE.out, ?_, ?_, HB1.out.trans (HB.out.mono HB1.out.size)⟩
      · rw [List.pairwise_map]
        exact HS2.out
      · rw [← HPS.out, List.map_map]
        exact HFS.out.at
end Go.Proofs.YtcbcjefefmbccabGreatDoor
namespace Go.Proofs.YtcbcjefefmbccabGreatDoor
open Go.RowKit Go.Maps

def AbidesAt {β : Type} (B : Nat) (J : β → World → Prop) : Prop :=
  ∀ s W W' row, J s W → W.grownBy W' row → (∀ r, row = some r → B ≤ r ∧ ∃ o : Obj, W.heap[r]? = some o ∧ o.isWalk = true) → J s W'
def SeqW {α : Type} (F : Fence) (n : Nat) (P : Program) (g : Nat) (lb : Array Value) (encs : α → Array Value) (S : List α → Prop) (N : Nat) (w : World) : Prop :=
  ∀ (l : Nat) (J : List α → World → Prop) (W : World), Below w.heap.size w W → AbidesAt W.heap.size J →
    (∀ pre x W1, J pre W1 → pre.length < N → YieldAt F (n - 1) P l (encs x) W1 fun e W' => e = .returned (.bool true) ∧ J (pre ++ [x]) W' ∧ KeepsWalks W1 W') →
    J [] W → CallsIn F n P g (#[.func (.yield l) #[] #[]] ++ lb) W fun e W' => (∃ v, e = .returned v) ∧ ∃ xs, S xs ∧ J xs W'
theorem range_walk {α : Type} {F : Fence} {n : Nat} {P : Program} {g : Operand} {ps : Array Tmp} {assign body : Code} {Q : Exit → Act → World → Prop} {a : Act} {w : World}
    (hro : F.round = none) (h1 : 1 ≤ n) {gf : Nat} {lb : Array Value} (hg : a.eval g = .func (.func gf) #[] lb) (hFg : F.fn gf) (eg : ∀ args w, (callFunc gf args).run P w = .ok (.enter gf args) w)
    {encs : α → Array Value} {S : List α → Prop} {N : Nat} {w0 : World} (hseq : SeqW F (n - 1) P gf lb encs S N w0)
    (hb0 : Below w0.heap.size w0 w) (hps : ∀ x, (encs x).size = ps.size)
    (I : List α → World → Prop) (hI : AbidesAt w.heap.size I) (hIp : ∀ pre A l o o', w.heap.size ≤ l → I pre A → A.heap[l]? = some o → o.isCells = false → I pre (A.putObj l o')) (h0 : I [] w)
    (Ax : α → Act → World → Prop) (hAx : ∀ x a' A l o, (∃ r, A.heap[l]? = some (.loop r)) → Ax x a' A → Ax x a' (A.putObj l o))
    (hassign : ∀ (l : Nat) (pre : List α) (x : α) (W : World) (K : Act → World → Prop), I pre W → (∀ a' W', KeepsOthers W W' → I pre W' → Ax x a' W' → K a' W') →
      assign.wpIn (F.inRound l) (n - 1 - 1) P (Exit.then K (fun _ _ _ => False)) { tmps := (ps.zip (encs x)).foldl (fun t (p, v) => t.setIfInBounds p v) a.tmps, defers := [] } W)
    (hbody : ∀ (l : Nat) (pre : List α) (x : α) (a' : Act) (W : World), I pre W → Ax x a' W → pre.length < N → body.wpIn (F.inRound l) (n - 1 - 1) P (fun e _ W' => e = .normal ∧ KeepsOthers W W' ∧ I (pre ++ [x]) W') a' W)
    (hdone : ∀ (D : Nat) (xs : List α) (W : World), w.heap.size ≤ D → S xs → I xs W → W.heap[D]? = some (.deferred (some [])) → Q .normal { a with defers := { target := .collected D, args := #[] } :: a.defers } W) :
    (Code.rangeFunc g ps assign body).wpIn F n P Q a w := by
  refine wpIn_rangeFunc ?_
  intro fn hfn
  rw [hro]
  obtain ⟨lp, hlp⟩ : ∃ lp : LoopState → Loop, lp = fun st => { state := st, pending := none, fn, tmps := a.tmps, params := ps, assign, body, defers := w.heap.size } := ⟨_, rfl⟩
  obtain ⟨V, hV⟩ : ∃ V, (w.alloc (.deferred (some []))).alloc (.loop (lp .ready)) = V := ⟨_, rfl⟩
  have hVs : V.heap.size = w.heap.size + 2 := by rw [← hV]; simp
  have hVl : V.heap[w.heap.size + 1]? = some (.loop (lp .ready)) := by
    rw [← hV]
    have := World.alloc_heap_new (w.alloc (.deferred (some []))) (.loop (lp .ready))
    rwa [World.size_alloc] at this
  have hVd : V.heap[w.heap.size]? = some (.deferred (some [])) := by
    rw [← hV]
    exact (Below.heap_alloc _ _ _ (by simp)).trans (World.alloc_heap_new w _)
  have hVb : Below w.heap.size w V := by rw [← hV]; exact ((Below.refl _ w).alloc (Nat.le_refl _) _).alloc (by simp) _
  have hVI : I [] V := hI [] w V none h0 ⟨hVb.os, hVb.tape, hVb.output, hVb.size, fun k hk _ => hVb.block k hk⟩ (fun r e => by cases e)
  refine ⟨w.heap.size + 1, [{ target := .collected w.heap.size, args := #[] }], V, { target := .fn (.func gf) lb, args := #[.func (.yield (w.heap.size + 1)) #[] #[]] }, V, gf,
    #[.func (.yield (w.heap.size + 1)) #[] #[]] ++ lb, V, ?_, ?_, ?_, ?_, fun _ => h1, ?_⟩
  · rw [← hV, hlp]
    exact run_enterLoop_outer _ _ _ _ _
  · simp only [resolve, hg]
    simp [go_sem]
  · intro f' hf'
    simp [Target.leads] at hf'
    subst hf'
    exact hFg
  · simp [invoke, go_sem, eg]
  refine (hseq (w.heap.size + 1) (fun pre W => I pre W ∧ W.heap[w.heap.size + 1]? = some (.loop (lp .ready)) ∧ W.heap[w.heap.size]? = some (.deferred (some []))) V (hb0.trans (hVb.mono hb0.size))
    (fun s A B row h hg hrow => ⟨hI s A B row h.1 hg (fun r e => ⟨by have := (hrow r e).1; omega, (hrow r e).2⟩), (grownBy_keeps hg (fun r e => (hrow r e).2) h.2.1 rfl).trans h.2.1, (grownBy_keeps hg (fun r e => (hrow r e).2) h.2.2 rfl).trans h.2.2⟩) ?_ ⟨hVI, hVl, hVd⟩).mono ?_
  · rintro pre x W ⟨hi, hl, hd⟩ hlen
    have hlt : w.heap.size + 1 < W.heap.size := (Array.getElem?_eq_some_iff.1 hl).1
    have hy := run_yield (P := P) (args := encs x) hl (by rw [hlp]; exact hps x)
    rw [hlp] at hy
    refine ⟨fn, _, assign, body, hy, roundIn_of_wpIn hfn (hassign _ pre x W _ hi ?_)⟩
    clear hy
    intro a' Wa hka hia hax
    have hla := hka.same _ _ hl rfl
    have hda := hka.same _ _ hd rfl
    have hlta : w.heap.size + 1 < Wa.heap.size := (Array.getElem?_eq_some_iff.1 hla).1
    refine ⟨_, run_beginRound hla (by rw [hlp]), ?_⟩
    refine wpIn_mono (hbody _ pre x a' _ (hIp _ _ _ _ _ (by omega) hia hla rfl) (hAx x a' Wa _ _ ⟨_, hla⟩ hax) hlen) ?_
    rintro e a3 W3 ⟨rfl, hkb, hi3⟩
    have hlb := hkb.same _ _ (World.putObj_heap_same hlta) rfl
    have hdb := hkb.same _ _ ((World.putObj_heap_other (w := Wa) (r := w.heap.size + 1) (k := w.heap.size) (by omega)).trans hda) rfl
    have hr := run_endRound (P := P) none hlb
    have hlt3 : w.heap.size + 1 < W3.heap.size := (Array.getElem?_eq_some_iff.1 hlb).1
    refine ⟨_, _, hr, rfl, ⟨hIp _ _ _ _ _ (by omega) hi3 hlb rfl, ?_, (World.putObj_heap_other (by omega)).trans hdb⟩, ?_⟩
    · rw [World.putObj_heap_same hlt3, hlp]
      rfl
    · refine ⟨?_, fun b o hb hw => ?_⟩
      · have h1 := hka.size
        have h2 := hkb.size
        simp at h2 ⊢
        omega
      · have hbl : b ≠ w.heap.size + 1 := fun e => by
          subst e
          rw [hl] at hb
          cases hb
          cases hw
        have hnc : o.isCells = false := by
          cases o <;> first | rfl | cases hw
        exact (World.putObj_heap_other hbl).trans (hkb.same _ _ ((World.putObj_heap_other hbl).trans (hka.same _ _ hb hnc)) hnc)
  · rintro e W2 ⟨⟨v, rfl⟩, xs, hS, hi, hl, hd⟩
    have he := run_endLoop (P := P) hl (by rw [hlp]; simp)
    rw [hlp] at he
    exact ⟨none, _, he, hdone _ xs _ (Nat.le_refl _) hS (hIp _ _ _ _ _ (by omega) hi hl rfl) ((World.putObj_heap_other (by omega)).trans hd)⟩

section
variable {F : Fence} {nF : Nat} {P : Program} {k : TypeId} {κ β : Type}
variable {ops : Array Oper} {rest : List Oper} {o : Oper} {a : Act} {Q : Exit → Act → World → Prop}
theorem wpIn_range_kit [DecidableEq κ] (M : MapKit P k κ β) (w : World) (hg : o.guard = none) (m : Operand) (t : TypeId) (hop : o.op = Op.range t m) (e : TypeId) (ht : P.underlying t = some (.map k e)) (b : Nat) (l : List (κ × β)) (hm : a.eval m = .map (some b)) (h : M.Of w b l)
    (hK : ∀ w', M.Rng w' b w.heap.size l (fun x => decide (x ∈ l.map (·.1))) l.length → w.grownBy w' none → w'.heap.size = w.heap.size + 1 → wpListIn F nF P ops Q rest (a.put o.dst (.pointer (some ⟨w.heap.size, 0, none⟩))) w') :
    wpListIn F nF P ops Q (o :: rest) a w := by
  obtain ⟨ds, ho, hp⟩ := h.own
  refine wpListIn_range_own w hg m t hop k e M.K ht M.R b ds.length (.map ds) hm ho fun w' hr hgr hs => hK w' ⟨⟨ds, ds.length, Maps.has (DataW.map ds), ?_, hp, fun x hx => ?_⟩, h.wf⟩ hgr hs
  · have e : Maps.size (DataW.map ds) = l.length := by show ds.length = _; rw [hp.length_eq, List.length_map]
    rw [← e]
    exact hr
  · rw [Bool.eq_iff_iff, Maps.has_eq, List.any_eq_true, decide_eq_true_eq]
    constructor
    · rintro ⟨p, hm, hs⟩
      obtain ⟨y, hy, rfl⟩ := List.mem_map.1 (hp.mem_iff.1 hm)
      have hxy : y.1 = x := M.kl_inj (h.wf y hy) hx (WideAt.sameKey_eq hs)
      exact List.mem_map.2 ⟨y, hy, hxy⟩
    · intro hm
      obtain ⟨y, hy, rfl⟩ := List.mem_map.1 hm
      exact ⟨M.ent y, hp.mem_iff.2 (List.mem_map.2 ⟨y, hy, rfl⟩), WideAt.sameKey_self (M.isKey hx)⟩
theorem wpIn_next_kit [DecidableEq κ] (M : MapKit P k κ β) (w : World) (hg : o.guard = none) (it : Operand) (hop : o.op = Op.next it false) (b r : Nat) (l : List (κ × β)) (left : κ → Bool) (cnt : Nat) (hit : a.eval it = .pointer (some ⟨r, 0, none⟩)) (h : M.Rng w b r l left cnt)
    (hDone : (∀ h ∈ l, left h.1 = false) → wpListIn F nF P ops Q rest (a.put o.dst (.tuple #[.bool false])) w)
    (hMore : ∀ (x : κ) (c : β) (w' : World) (cnt' : Nat), (x, c) ∈ l → left x = true → M.Rng w' b r l (fun y => left y && !decide (y = x)) cnt' → cnt' < cnt → w.grownBy w' (some r) → w'.heap.size = w.heap.size →
      (Instr.entry (.pointer (some ⟨r, 0, none⟩))).run P w' = .ok (.tuple #[M.mkK x, M.mkV c]) w' → wpListIn F nF P ops Q rest (a.put o.dst (.tuple #[.bool true, M.mkK x, M.mkV c])) w') :
    wpListIn F nF P ops Q (o :: rest) a w := by
  obtain ⟨ds, n, lf, hr, hp, hl⟩ := h.at'
  refine wpListIn_next_ranges w hg it hop k M.K M.R M.mkK M.mkV (fun key kl hk => ?_) (fun v y hv => ?_) b r n (.map ds) lf cnt hit hr (fun _ h0 => hDone (fun y hy => by rw [← hl _ (h.wf y hy)]; exact h0 _)) ?_
  · obtain ⟨x, _, rfl⟩ := M.inv key kl hk
    exact ⟨x, rfl⟩
  · obtain ⟨c, rfl, _⟩ := M.R_inv hv
    exact ⟨c, rfl⟩
  · intro x c kl y w' cnt' hkey hlk hv hat hrg hlt hgr hsz hen
    obtain ⟨x', hx', e⟩ := M.inv _ _ hkey
    obtain rfl := M.inj _ _ e
    have ekl : kl = M.kl x := Option.some.inj (hkey.symm.trans (M.key_kl hx'))
    subst ekl
    have ey : y = (.held (M.mkV c), []) := by rw [M.R_mk] at hv; exact (Option.some.inj hv).symm
    have hm : (x, c) ∈ l := by
      have hh := Maps.has_true_of_atKey (fun z => hat z)
      rw [Maps.has_eq, List.any_eq_true] at hh
      obtain ⟨p, hpm, hs⟩ := hh
      obtain ⟨q, hq, rfl⟩ := List.mem_map.1 (hp.mem_iff.1 hpm)
      have hqx : q.1 = x := M.kl_inj (h.wf q hq) hx' (WideAt.sameKey_eq hs)
      obtain ⟨es, e, hap, _⟩ := hr.owns.entries M.K
      cases e
      have h2 := WideAt.atKey_mem (DataW.nil) (M.isKey (h.wf q hq)) hap hpm
      have h3 := hat DataW.nil
      rw [← hqx, h2, ey] at h3
      have h4 : M.mkV q.2 = M.mkV c := DataW.held.inj h3
      have h5 : q.2 = c := by have := M.un q.2; rw [h4, M.un] at this; exact (Option.some.inj this).symm
      rw [← hqx, ← h5]
      exact hq
    refine hMore x c w' cnt' hm (by rw [← hl x hx']; exact hlk) ⟨⟨ds, n, _, hrg, hp, fun z hz => ?_⟩, h.wf⟩ hlt hgr hsz hen
    rw [hl z hz, M.same hz hx']
theorem MapKit.Rng.of_walks {M : MapKit P k κ β} {w w' : World} {b r : Nat} {l : List (κ × β)} {left : κ → Bool} {cnt : Nat} (h : M.Rng w b r l left cnt) (hk : KeepsWalks w w') : M.Rng w' b r l left cnt := by
  obtain ⟨ds, n, lf, h1, hp, hl⟩ := h.at'
  exact ⟨⟨ds, n, lf, h1.of_walks hk, hp, hl⟩, h.wf⟩
theorem MapKit.Rng.iter_walk {M : MapKit P k κ β} {w : World} {b r : Nat} {l : List (κ × β)} {left : κ → Bool} {cnt : Nat} (h : M.Rng w b r l left cnt) : ∃ o : Obj, w.heap[r]? = some o ∧ o.isWalk = true := by
  obtain ⟨ds, n, lf, h1, hp, hl⟩ := h.at'
  exact h1.iter_walk
end
end Go.Proofs.YtcbcjefefmbccabGreatDoor
