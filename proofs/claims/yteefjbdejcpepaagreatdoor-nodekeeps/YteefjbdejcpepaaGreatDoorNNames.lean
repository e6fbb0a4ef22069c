/-
  Own text. (*node.Node).Names by a contract: its files' names, sorted.
-/
import Derived.Test.YteefjbdejcpepaaGreatDoorNodeMem
import Derived.Test.YteefjbdejcpepaaGreatDoorIter
namespace Go.Proofs.YteefjbdejcpepaaGreatDoor
open Go.RowKit Go.Maps Go.Sort Go.Shelf

theorem strKl (x : List UInt8) (hx : WfNm x) : strRcps.kl x = .string x := by
  show (keyOf Tryz.prog 9 (.string ⟨x.toArray⟩)).getD (.bool false) = _
  rw [strKey_eq]
  unfold mapKey
  rw [Tryz.underlying9]
  have h1 : x.toArray.size = x.length := List.size_toArray
  have : (⟨x.toArray⟩ : ByteArray).size ≤ maxLen := by show x.toArray.size ≤ maxLen; rw [h1]; exact hx
  simp only [this, if_true]
  rfl
set_option maxRecDepth 100000 in
set_option maxHeartbeats 2000000 in
theorem nodeNames_any (p : Addr) (F : Nat → Prop) (st : NSt) (w : World) (hn : st.files.length ≤ 1000) (hP : PNode w p F st) :
    Calls Tryz.prog 52 #[.pointer (some p)] w fun e w' => ∃ (v : Value) (ss : List (List UInt8)), e = .returned v ∧ ss.Perm (st.files.map (·.1)) ∧
      w'.ownsRow w.heap.size 9 1 v ss.length ((ss.mergeSort (fun x y => decide (x ≤ y))).map encStr) ∧ Below w.heap.size w w' := by
  obtain ⟨N, mf, mb, vi, pi, Fi, rfl, h, _⟩ := hP
  have q0 := h.blk.cell (i := 0) rfl
  obtain ⟨ds, hown, hp⟩ := h.files.own
  have hsz : Maps.size (DataW.map ds) = st.files.length := by
    show ds.length = _
    rw [hp.length_eq, List.length_map, List.length_map]
  have hkeys : (strKeys (DataW.map ds)).Perm (st.files.map (·.1)) := by
    have h1 : (ds.map fun p => strOf p.1).Perm (((st.files.map fun f => (f.1, rwOf f (vi f.1))).map strRcps.ent).map fun p => strOf p.1) := hp.map _
    have h2 : (((st.files.map fun f => (f.1, rwOf f (vi f.1))).map strRcps.ent).map fun p => strOf p.1) = st.files.map (·.1) := by
      rw [List.map_map, List.map_map]
      refine List.map_congr_left fun f hf => ?_
      show strOf (strRcps.kl f.1) = f.1
      rw [strKl _ (h.files.wf _ (List.mem_map.2 ⟨f, hf, rfl⟩))]
      rfl
    rw [h2] at h1
    exact h1
  have hmax : Maps.size (DataW.map ds) ≤ maxLen := by rw [hsz]; unfold maxLen; omega
  have hbytes : Maps.size (DataW.map ds) * 16 ≤ 140737488355328 := by rw [hsz]; omega
  refine (callsIn_wide (n := 6)).1 ?_
  have hfK : Fence.wide.fn 97 := trivial
  have hfS : Fence.wide.fn 96 := trivial
  refine callsIn_of_wp Tryz.func52 rfl trivial ?_ rfl
  simp only [Tryz.ntmps52, List.size_toArray, List.length_cons, List.length_nil, Nat.reduceAdd, Nat.reduceSub, Array.replicate_succ, Array.replicate_zero, List.push_toArray, List.append_toArray, List.nil_append, List.cons_append]
  gi_wp2_with (first
    | (gi_at_call 97; refine (Tryz.maps_KeysM _ _).mono ?_; rintro e w' ⟨rfl, rfl⟩)
    | (gi_at_call 96; refine (Tryz.sortedKeysM mf _ (DataW.map ds) _ w hown hmax hbytes).mono ?_; rintro e w' ⟨v, ss, rfl, hS, hrow, hnil, hb⟩))
  go_ret
  exact ⟨v, ss, rfl, hS.trans hkeys, ownsRow_base_a hrow (by simp), ((Below.refl _ w).alloc (Nat.le_refl _) _).trans (hb.mono (by simp))⟩
end Go.Proofs.YteefjbdejcpepaaGreatDoor
