/-
  Own text. (*once.Table).Clients and Copy, and the document's Clients, by contracts.
-/
import Derived.Test.YtjngnnbondejaabDoorOnceP
import Derived.Test.YtjngnnbondejaabDoorOnceDm
import Derived.Test.YtjngnnbondejaabDoorIter
import Derived.Test.YtjngnnbondejaabDoorSortedNm
import Derived.Shelf.SlMaps.Clone
import Derived.Test.YtjngnnbondejaabDoorCutSame
namespace Go.Proofs.YtjngnnbondejaabDoor
open Go.RowKit Go.Maps Go.Sort Go.Shelf

theorem strLl (x : List UInt8) (hx : WfNm x) : strLast.kl x = .string x := strLit x hx
theorem clients_sorted {ss : List (List UInt8)} {l : OL} (hp : ss.Perm (l.map (·.1))) (hs : l.Pairwise (fun a b => ltN a.1 b.1 = true)) : ss.mergeSort (fun x y => decide (x ≤ y)) = l.map (·.1) := by
  have h0 : (l.map (·.1)).Pairwise (fun a b : List UInt8 => a < b) := List.pairwise_map.2 (hs.imp fun {_ _} h => by simpa [ltN] using h)
  have h1 := sorted_names hp (h0.imp fun {a b} h e => by subst e; exact List.lt_irrefl _ h)
  exact h1.1.eq_of_pairwise (fun a b _ _ h1 h2 => (List.lt_irrefl a (List.lt_trans h1 h2)).elim) h1.2 h0
set_option maxRecDepth 100000 in
set_option maxHeartbeats 2000000 in
theorem onceClients_any (T m : Nat) (l : OL) (w : World) (hn : l.length ≤ 1000) (hs : l.Pairwise (fun a b => ltN a.1 b.1 = true)) (h : OTab w T m l) :
    Calls Tryd.prog 27 #[.pointer (some ⟨T, 0, none⟩)] w fun e w' => ∃ v : Value, e = .returned v ∧ w'.ownsRow w.heap.size 9 1 v l.length (l.map fun q => txV q.1) ∧ Below w.heap.size w w' := by
  have q0 := h.blk.cell (i := 0) rfl
  obtain ⟨ds, hown, hp⟩ := h.map.own
  have hsz : Maps.size (DataW.map ds) = l.length := by
    show ds.length = _
    rw [hp.length_eq, List.length_map]
  have hkeys : (strKeys (DataW.map ds)).Perm (l.map (·.1)) := by
    have h1 : (ds.map fun p => strOf p.1).Perm ((l.map strLast.ent).map fun p => strOf p.1) := hp.map _
    have h2 : ((l.map strLast.ent).map fun p => strOf p.1) = l.map (·.1) := by
      rw [List.map_map]
      refine List.map_congr_left fun f hf => ?_
      show strOf (strLast.kl f.1) = f.1
      rw [strLl _ (h.map.wf _ hf)]
      rfl
    rw [h2] at h1
    exact h1
  have hmax : Maps.size (DataW.map ds) ≤ maxLen := by rw [hsz]; unfold maxLen; omega
  have hbytes : Maps.size (DataW.map ds) * 16 ≤ 140737488355328 := by rw [hsz]; omega
  have HS : Hid (l.Pairwise (fun a b => ltN a.1 b.1 = true)) := hs
  refine (callsIn_wide (n := 6)).1 ?_
  have hfK : Fence.wide.fn 53 := trivial
  have hfS : Fence.wide.fn 52 := trivial
  clear hs
  refine callsIn_of_wp Tryd.func27 rfl trivial ?_ rfl
  simp only [Tryd.ntmps27, List.size_toArray, List.length_cons, List.length_nil, Nat.reduceAdd, Nat.reduceSub, Array.replicate_succ, Array.replicate_zero, List.push_toArray, List.append_toArray, List.nil_append, List.cons_append]
  gi_wp2_with (first
    | (gi_at_call 53; refine (Tryd.maps_KeysM _ _).mono ?_; rintro e w' ⟨rfl, rfl⟩)
    | (gi_at_call 52; refine (Tryd.sortedKeysM m _ (DataW.map ds) _ w hown hmax hbytes).mono ?_; rintro e w' ⟨v, ss, rfl, hS, hrow, hnil, hb⟩))
  go_ret
  have hmm := clients_sorted (hS.trans hkeys) HS.out
  have hln : ss.length = l.length := by rw [(hS.trans hkeys).length_eq, List.length_map]
  rw [hmm, List.map_map, hln] at hrow
  exact ⟨v, rfl, ownsRow_base_a hrow (by simp), ((Below.refl _ w).alloc (Nat.le_refl _) _).trans (hb.mono (by simp))⟩
set_option maxRecDepth 100000 in
set_option maxHeartbeats 4000000 in
theorem cloneLast_any (b : Nat) (l : OL) (w : World) (h : strLast.Of w b l) :
    Calls Tryd.prog 56 #[.map (some b)] w fun e w' => e = .returned (.map (some w.heap.size)) ∧ strLast.Of w' w.heap.size l ∧ Below w.heap.size w w' := by
  obtain ⟨es, clock, hb⟩ := h.isMap
  have hq := fun w => run_eql_map_nil_sl (P := Tryd.prog) w 82 _ _ (some b) Tryd.underlying82
  go_enter Tryd.func56, Tryd.ntmps56
  go_wp2_with fail
  rw [run_callFunc_extern Tryd.func74 (by kernel_rfl) (by kernel_rfl) (by kernel_rfl) (e := Extern.MapsClone.clone) (by kernel_rfl), run_maps_clone_sl w 82 hb]
  simp only [Result.andThen]
  rw [Oper.upon_value]
  go_wp2_with fail
  rw [run_typeAssert_map_sl _ 82 20 _ _ _ Tryd.underlying82]
  simp only [Result.andThen]
  rw [Oper.upon_value]
  go_wp2_with fail
  go_ret
  exact ⟨rfl, h.moved ((World.alloc_heap_new w _).trans hb.symm), (Below.refl _ w).alloc (Nat.le_refl _) _⟩
set_option maxRecDepth 100000 in
set_option maxHeartbeats 4000000 in
theorem onceCopy_any (T m : Nat) (l : OL) (w : World) (h : OTab w T m l) :
    Calls Tryd.prog 30 #[.pointer (some ⟨T, 0, none⟩)] w fun e w' => ∃ T' m', e = .returned (.pointer (some ⟨T', 0, none⟩)) ∧ OTab w' T' m' l ∧ Below w.heap.size w w' := by
  have q0 := h.blk.cell (i := 0) rfl
  have HCL := hideN (cloneLast_any m _ w h.map)
  clear h
  go_enter Tryd.func30, Tryd.ntmps30
  go_wp2_with fail
  refine HCL.out.mono ?_
  rintro e w1 ⟨rfl, hf1, hb1⟩
  have hb2 := (Below.refl w1.heap.size w1).alloc (Nat.le_refl _) (.cells #[.map (some w.heap.size)] 84)
  have hB2 := Blk.new w1 #[.map (some w.heap.size)] 84
  have HF := hideN (ofL_below hf1 hb2)
  have HLT := hideN hf1.lt
  have HB : Hid (Below w.heap.size w _) := hideN (hb1.trans (hb2.mono hb1.size))
  have HN := hideN hB2
  clear hf1 hb1 hb2 hB2
  go_wp2_with fail
  go_ret
  exact ⟨_, _, rfl, ⟨HN.out, HF.out, fun e => by have := HLT.out; omega⟩, HB.out⟩
set_option maxRecDepth 100000 in
set_option maxHeartbeats 4000000 in
theorem rClients_any (M : Nat) (v : Value) (l : OL) (w : World) (hn : l.length ≤ 1000) (h : RTab w M v l) :
    Calls Tryd.prog 32 #[.pointer (some ⟨M, 0, none⟩)] w fun e w' => ∃ v, e = .returned v ∧ w'.ownsRow w.heap.size 9 1 v l.length (l.map fun q => txV q.1) ∧ Below w.heap.size w w' := by
  obtain ⟨iS, hiS, zS0, zS1, zS2⟩ := info_parts infoStrK
  obtain ⟨pf, cf, rfl, _⟩ := h.at
  have HH := hideN h
  have HN := hideN hn
  have hl2 : (l.length : Int) ≤ 1000 := by omega
  clear h hn
  go_enter Tryd.func32, Tryd.ntmps32
  go_wp2_with fail
  go_loopw [3, 4] (fun u i wr => ∃ j : Nat, j ≤ l.length ∧ i = .int .i64 j ∧ Hid (Below w.heap.size w wr) ∧ Hid (wr.ownsRow w.heap.size 9 1 u j ((l.take j).map fun q => txV q.1))) (fun _ i _ => l.length - (intOf i).toNat)
  case atStart => exact ⟨0, Nat.zero_le _, rfl, Below.refl _ _, World.ownsRow_nil _ _ _ _⟩
  case round =>
    obtain ⟨j, hj, rfl, HB, HO⟩ := hrel
    have hS := HH.out.below HB.out
    have q0 := hS.blk.cell (i := 0) rfl
    by_cases hlt : j < l.length
    · have hlt' : (j : Int) < (l.length : Int) := by omega
      have hj0 : (0 : Int) ≤ (j : Int) := by omega
      obtain ⟨pf', cf', hvf', hcell⟩ := hS.at
      obtain ⟨rfl, rfl⟩ : pf = pf' ∧ cf = cf' := by simpa using hvf'
      obtain ⟨b, rfl, ⟨hb, hc⟩, a0, a12⟩ := hcell j hlt
      obtain ⟨X, hX⟩ : ∃ X : ByteArray, (⟨l[j].1.toArray⟩ : ByteArray) = X := ⟨_, rfl⟩
      have HX : Hid (txV l[j].1 = .string X) := by show _ = _; rw [← hX]
      change wr.cell? ⟨b, j * 3, none⟩ = some (.string ⟨l[j].1.toArray⟩) at a0
      rw [hX] at a0
      have HJ := hideN hlt
      have HTK := hideN (take_map_snoc (fun q : List UInt8 × (Int × List UInt8) => txV q.1) l j hlt)
      clear hS hvf' hcell hX a12
      go_wp2_with (at_builtin; refine wpList_append_own _ rfl (.tmp 14) (.tmp 23) 56 rfl w.heap.size 9 iS (.string ⟨#[]⟩) 1 16 Tryd.underlying56 hiS zS0 zS1 zS2 rfl (by decide) u3 j _ rfl (HO.out.alloc _) ⟨wr.heap.size, 0, none⟩ 1 1 [.string X] rfl rfl (cell_one_atK rfl) (by intro u hu; simp at hu; subst hu; rfl) (by have := HN.out; have := HJ.out; unfold maxLen; omega) (by have := HN.out; have := HJ.out; omega) (by have := HB.out.size; simp; omega) ?_; intro v5 w5 ho5 hg5 _; have hB5 : Below w.heap.size w w5 := (HB.out.alloc HB.out.size _).grown hg5 (by have := HB.out.size; simp; omega) (fun k hk => (HO.out.lt k hk).1); have HO5 := hideN ho5; have HB5 := hideN hB5; clear hg5 ho5 hB5)
      go_roundw
      case rel => exact ⟨j + 1, hlt, by go_num, HB5.out, by rw [HTK.out, HX.out]; exact HO5.out⟩
      case measure => simp [intOf]; omega
    · have hge : (l.length : Int) ≤ (j : Int) := by omega
      obtain rfl : j = l.length := by omega
      rw [List.take_length] at HO
      clear hS hlt
      go_wp2_with fail
      go_ret
      exact ⟨_, rfl, HO.out, HB.out⟩
end Go.Proofs.YtjngnnbondejaabDoor
