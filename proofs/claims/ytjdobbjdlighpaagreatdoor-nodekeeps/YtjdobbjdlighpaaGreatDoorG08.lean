/-
  Own text. The program's bin by contracts: Put, with isPiece, newPiece, strings.Clone.
  Own text. node.copyOf and (*node.Node).keep by contracts: files are put into a node, and the bin of a rep.
  Own text. (*node.Node).Recipe by a contract.
-/
import Derived.Test.YtjdobbjdlighpaaGreatDoorG07
import Derived.Test.YtjdobbjdlighpaaGreatDoorG05
import Derived.Test.YtjdobbjdlighpaaGreatDoorG02
namespace Go.Proofs.YtjdobbjdlighpaaGreatDoor
open Go.RowKit Go.Maps

def isPc (n : Nat) : Bool := decide (1 ≤ n ∧ n ≤ 64)
set_option maxRecDepth 100000 in
set_option maxHeartbeats 4000000 in
theorem isPiece_any (s : ByteArray) (w : World) (hs : s.size ≤ 50000) : Calls Tryz.prog 85 #[.string s] w fun e w' => e = .returned (.bool (isPc s.size)) ∧ w' = w := by
  by_cases h0 : s = ⟨#[]⟩
  · subst h0
    go_enter Tryz.func85, Tryz.ntmps85
    go_wp2_with fail
    go_ret
    exact ⟨rfl, rfl⟩
  · have hn : s.size ≠ 0 := fun e => h0 (by
      have : s.data = #[] := Array.eq_empty_of_size_eq_zero e
      cases s
      simp_all)
    have hne : ¬ s.toList = [] := fun e => by
      rw [ByteArray.toList_eq] at e
      apply hn
      have : s.data.toList.length = 0 := by rw [e]; rfl
      simpa using this
    by_cases h64 : s.size ≤ 64
    · have h64' : (s.size : Int) ≤ 64 := by omega
      have hp : Hid (isPc s.size = true) := decide_eq_true ⟨by omega, h64⟩
      go_enter Tryz.func85, Tryz.ntmps85
      go_wp2_with fail
      go_ret
      refine ⟨?_, rfl⟩
      rw [hp.out]
      show Ending.returned (Value.bool (!s.toList.isEmpty)) = _
      rw [List.isEmpty_eq_false_iff.2 hne]
      rfl
    · have h64' : ¬ (s.size : Int) ≤ 64 := by omega
      have hp : Hid (isPc s.size = false) := decide_eq_false (fun h => h64 h.2)
      go_enter Tryz.func85, Tryz.ntmps85
      go_wp2_with fail
      go_ret
      exact ⟨by rw [hp.out]; rfl, rfl⟩
set_option maxRecDepth 100000 in
theorem cloneText_any (s : ByteArray) (w : World) (hs : s.size ≤ 50000) : Calls Tryz.prog 116 #[.string s] w fun e w' => e = .returned (.string s) ∧ Below w.heap.size w w' := by
  go_enter Tryz.func116, Tryz.ntmps116
  go_wp2_with (go_at_call 145; refine (Tryz.stringslite_Clone s _ (by omega)).mono ?_; rintro e w1 ⟨rfl, hb1⟩)
  go_ret
  exact ⟨rfl, hb1⟩
set_option maxRecDepth 100000 in
set_option maxHeartbeats 4000000 in
theorem newPiece_any (s : ByteArray) (u : Int) (w : World) (hs : s.size ≤ 50000) : Calls Tryz.prog 86 #[.string s, .int .i64 u] w fun e w' => e = .returned (.agg #[.string s, .int .i64 u]) ∧ Below w.heap.size w w' := by
  have hal := (Below.refl w.heap.size w).alloc (Nat.le_refl _) (.cells #[.string ⟨#[]⟩, .int .i64 0] 137)
  have hB := Blk.new w #[.string ⟨#[]⟩, .int .i64 0] 137
  go_enter Tryz.func86, Tryz.ntmps86
  go_wp2_with (go_at_call 116; refine (cloneText_any s _ hs).mono ?_; rintro e w1 ⟨rfl, hb1⟩; have hB1 := hB.next hb1; have c0 := hB1.cell (i := 0) rfl; have c1 := hB1.cell (i := 1) rfl; have f0 := hB1.frozen 0; have f1 := hB1.frozen 1)
  have hS := (hB1.set 0 (.string s)).set 1 (.int .i64 u)
  have d0 := hS.cell (i := 0) rfl
  have d1 := hS.cell (i := 1) rfl
  have hb2 : Below w.heap.size w ((w1.setCell ⟨w.heap.size, 0, none⟩ (.string s)).setCell ⟨w.heap.size, 1, none⟩ (.int .i64 u)) := ((hal.trans (hb1.mono hal.size)).setCell (p := ⟨w.heap.size, 0, none⟩) (Nat.le_refl _) _).setCell (p := ⟨w.heap.size, 1, none⟩) (Nat.le_refl _) _
  generalize ((w1.setCell ⟨w.heap.size, 0, none⟩ (.string s)).setCell ⟨w.heap.size, 1, none⟩ (.int .i64 u)) = W at *
  exact bodyPost_ret (v := .agg #[.string s, .int .i64 u]) (by simp [results, Tryz.results86, go_sem, d0, d1]) rfl ⟨rfl, hb2⟩

def PPost (a : Nat → Addr) (w : World) (p : Addr) (F : Nat → Prop) (r : ((Nat × Int) × Bool × Int) × List Hd) (e : Ending) (w' : World) : Prop :=
  ∃ ev F', e = .returned (.tuple #[idV (r.1.1.1 : Nat) r.1.1.2, .bool r.1.2.1, ev]) ∧ ErrIn w.heap.size w' a ev (r.1.2.2, -1) ∧ PBin0 w' p F' r.2 ∧ (∀ k, F' k → F k ∨ w.heap.size ≤ k) ∧ Off F w w'

theorem hIns_perm (l : List Hd) (h : Hd) : (hIns l h).Perm (h :: l) := by
  unfold hIns
  refine List.perm_middle.trans ?_
  rw [List.take_append_drop]

set_option maxRecDepth 100000 in
set_option maxHeartbeats 4000000 in
theorem pPut_bound {a : Nat → Addr} (s : ByteArray) (p : Addr) (F : Nat → Prop) (l : List Hd) (w : World) (hs : s.size ≤ 50000) (hE : ErrE [1, 6, 9] w a) (hP : PBin0 w p F l) (hn : ¬ (1 ≤ s.size ∧ s.size ≤ 64)) :
    Calls Tryz.prog 39 #[.pointer (some p), .string s] w (PPost a w p F (hPut l s.data.toList)) := by
  obtain ⟨B, b, rfl, hB, hM, hne, rfl⟩ := hP
  have hBl := hB.lt
  have hbl := hM.lt
  have hal := (Below.refl w.heap.size w).alloc (Nat.le_refl _) (.cells #[.int .u32 0, .int .i64 0] 40)
  have hR := Blk.new w #[.int .u32 0, .int .i64 0] 40
  have HG : Hid (∀ W', Below w.heap.size w W' → ∀ i, ([1, 6, 9] : List Nat).contains i = true → W'.cell? ⟨errG i, 0, none⟩ = some (sentV a i)) := fun W' hb i hi => (hE.below hb (Nat.le_refl _)).glob i hi
  have HB0 : Hid (∀ W, Below w.heap.size w W → PBin0 W ⟨B, 0, none⟩ (fun k => k = B ∨ k = b) l) := fun W h => PBin0.off ⟨B, b, rfl, hB, hM, hne, rfl⟩ (Off.of_below (F := fun _ => False) h) (fun _ _ h => h)
  have hsl : s.data.toList.length = s.size := by rw [Array.length_toList]; rfl
  have e2 : Hid (hPut l s.data.toList = (((0, 0), false, 2), l)) := by
    show _ = _
    unfold hPut
    rw [if_pos (by rw [hsl]; omega)]
  have HPC : Hid (isPc s.size = false) := decide_eq_false hn
  have g1 : (w.alloc (.cells #[.int .u32 0, .int .i64 0] 40)).cell? ⟨1, 0, none⟩ = some (sentV a 1) := HG.out _ hal 1 (by decide)
  have z0 := hR.cell (i := 0) rfl
  have z1 := hR.cell (i := 1) rfl
  have f0 := hR.frozen 0
  have f1 := hR.frozen 1
  have hip := isPiece_any s (w.alloc (.cells #[.int .u32 0, .int .i64 0] 40)) hs
  rw [HPC.out] at hip
  go_enter Tryz.func39, Tryz.ntmps39
  go_wp2_with (go_at_call 85; refine hip.mono ?_; rintro e w' ⟨rfl, rfl⟩)
  go_region
  all_goals
    have hb := below_drew hal
    go_wp2_with fail
    exact bodyPost_ret (v := .tuple #[idV 0 0, .bool false, sentV a 1]) (by simp [results, Tryz.results39, go_sem, z0, z1]) rfl ⟨_, _, by rw [e2.out]; rfl, by rw [e2.out]; exact errIn_sent _ _ a 1 (by decide) rfl, by rw [e2.out]; exact HB0.out _ hb, fun k hk => .inl hk, Off.of_below hb⟩

set_option maxRecDepth 100000 in
set_option maxHeartbeats 4000000 in
theorem pPut_full {a : Nat → Addr} (s : ByteArray) (p : Addr) (F : Nat → Prop) (l : List Hd) (w : World) (hs : s.size ≤ 50000) (hE : ErrE [1, 6, 9] w a) (hP : PBin0 w p F l) (hs1 : 1 ≤ s.size) (hs2 : s.size ≤ 64) (hf : hFind l (idOfL s.data.toList) = none) (hfull : 250 ≤ l.length) :
    Calls Tryz.prog 39 #[.pointer (some p), .string s] w (PPost a w p F (hPut l s.data.toList)) := by
  obtain ⟨B, b, rfl, hB, hM, hne, rfl⟩ := hP
  have hBl := hB.lt
  have hbl := hM.lt
  have hal := (Below.refl w.heap.size w).alloc (Nat.le_refl _) (.cells #[.int .u32 0, .int .i64 0] 40)
  have hR := Blk.new w #[.int .u32 0, .int .i64 0] 40
  have HG : Hid (∀ W', Below w.heap.size w W' → ∀ i, ([1, 6, 9] : List Nat).contains i = true → W'.cell? ⟨errG i, 0, none⟩ = some (sentV a i)) := fun W' hb i hi => (hE.below hb (Nat.le_refl _)).glob i hi
  have HB0 : Hid (∀ W, Below w.heap.size w W → PBin0 W ⟨B, 0, none⟩ (fun k => k = B ∨ k = b) l) := fun W h => PBin0.off ⟨B, b, rfl, hB, hM, hne, rfl⟩ (Off.of_below (F := fun _ => False) h) (fun _ _ h => h)
  have hsl : s.data.toList.length = s.size := by rw [Array.length_toList]; rfl
  have e2 : Hid (hPut l s.data.toList = (((0, 0), false, 7), l)) := by
    show _ = _
    unfold hPut
    rw [if_neg (by rw [hsl]; omega), hf]
    simp only [if_pos hfull]
  have HPC : Hid (isPc s.size = true) := decide_eq_true ⟨hs1, hs2⟩
  have hip := isPiece_any s (w.alloc (.cells #[.int .u32 0, .int .i64 0] 40)) hs
  rw [HPC.out] at hip
  have hid := id_any s (w.alloc (.cells #[.int .u32 0, .int .i64 0] 40)) (by unfold maxLen; omega)
  obtain ⟨P, hP⟩ : ∃ P, pmore 2166136261 s.data.toList = P := ⟨_, rfl⟩
  have HX : Hid (idOfL s.data.toList = (P, (s.size : Int))) := by show _ = _; unfold idOfL; rw [hP, hsl]
  have hxw : WfID (P, (s.size : Int)) := ⟨by rw [← hP]; exact pmore_lt _ (by decide) _, by show (-9223372036854775808 : Int) ≤ s.size; omega, by show (s.size : Int) ≤ 9223372036854775807; omega⟩
  rw [hP] at hid
  rw [HX.out] at hf
  clear hP
  have hl : ∀ W : World, idPieces.Of W b l → (Instr.lookup 133 (.map (some b)) (idV (P : Nat) (s.size : Int)) true).run Tryz.prog W = .ok (.tuple #[pieceV (0, []), .bool false]) W := fun W h => h.look_none Tryz.underlying133 (pieceZero W) hxw (hFind_not hf)
  go_enter Tryz.func39, Tryz.ntmps39
  go_wp2_with (first
    | (go_at_call 85; refine hip.mono ?_; rintro e w' ⟨rfl, rfl⟩)
    | (go_at_call 17; refine hid.mono ?_; rintro e w1 ⟨rfl, hb1⟩))
  have hal1 : Below w.heap.size w w1 := hal.trans (hb1.mono hal.size)
  have halI := (Below.refl _ w1).alloc (Nat.le_refl _) (.cells #[.int .u32 (P : Nat), .int .i64 (s.size : Int)] 40)
  have hI := Blk.new w1 #[.int .u32 (P : Nat), .int .i64 (s.size : Int)] 40
  have hR1 := (hR.next hb1).next halI
  have hB1 := hB.next (hal1.trans (halI.mono hal1.size))
  have hM1 := of_below hM (hal1.trans (halI.mono hal1.size))
  have hbW := hal1.trans (halI.mono hal1.size)
  have hRI : w.heap.size < w1.heap.size := Nat.lt_of_lt_of_le hR.lt hb1.size
  generalize hW : w1.alloc (.cells #[.int .u32 (P : Nat), .int .i64 (s.size : Int)] 40) = W at *
  have hal2 := (Below.refl W.heap.size W).alloc (Nat.le_refl _) (.cells #[.string ⟨#[]⟩, .int .i64 0] 137)
  have hI2 := hI.next hal2
  have hB2 := hB1.next hal2
  have hM2 := of_below hM1 hal2
  have hP2 := Blk.new W #[.string ⟨#[]⟩, .int .i64 0] 137
  have x0 := hI.cell (i := 0) rfl
  have x1 := hI.cell (i := 1) rfl
  have q0 := hB1.cell (i := 0) rfl
  have y0 := hI2.cell (i := 0) rfl
  have y1 := hI2.cell (i := 1) rfl
  have r0 := hB2.cell (i := 0) rfl
  have p0 := hP2.cell (i := 0) rfl
  have p1 := hP2.cell (i := 1) rfl
  have f0 := hP2.frozen 0
  have f1 := hP2.frozen 1
  have l1 := hl W.drew (of_drew hM1)
  have l2 := hl (W.alloc (.cells #[.string ⟨#[]⟩, .int .i64 0] 137)).drew (of_drew hM2)
  go_region
  all_goals
    have hal3 := (Below.refl W.heap.size W).alloc (Nat.le_refl _) (.cells #[.string ⟨#[]⟩, .int .i64 0] 137)
    have hM3 := of_drew (of_below hM1 hal3)
    have hb3 := below_drew (hbW.trans (hal3.mono hbW.size))
    have hPd : Blk (W.alloc (.cells #[.string ⟨#[]⟩, .int .i64 0] 137)).drew W.heap.size #[.string ⟨#[]⟩, .int .i64 0] 137 := Blk.new W _ _
    have hId : Blk (W.alloc (.cells #[.string ⟨#[]⟩, .int .i64 0] 137)).drew w1.heap.size #[.int .u32 (P : Nat), .int .i64 (s.size : Int)] 40 := hI.next (below_drew hal3)
    have hRd : Blk (W.alloc (.cells #[.string ⟨#[]⟩, .int .i64 0] 137)).drew w.heap.size #[.int .u32 0, .int .i64 0] 40 := hR1.next (below_drew hal3)
    have hBd : Blk (W.alloc (.cells #[.string ⟨#[]⟩, .int .i64 0] 137)).drew B #[.map (some b)] 135 := hB1.next (below_drew hal3)
    generalize (W.alloc (.cells #[.string ⟨#[]⟩, .int .i64 0] 137)).drew = W3 at *
    have hIW : w1.heap.size < W.heap.size := hI.lt
    have t0 := hPd.cell (i := 0) rfl
    have t1 := hPd.cell (i := 1) rfl
    have ft0 := hPd.frozen 0
    have ft1 := hPd.frozen 1
    have z0 := hRd.cell (i := 0) rfl
    have z1 := hRd.cell (i := 1) rfl
    have fz0 := hRd.frozen 0
    have fz1 := hRd.frozen 1
    have v0 := hBd.cell (i := 0) rfl
    clear hl l1 l2 hP2 hal2 hI2 hB2 hM2 x0 x1 q0 y0 y1 r0 p0 p1 f0 f1 hip hid
    have g6 : W3.cell? ⟨4, 0, none⟩ = some (sentV a 6) := HG.out _ hb3 6 (by decide)
    have hfull' : (250 : Int) ≤ (l.length : Int) := by omega
    go_wp2_with (first
      | (at_len; refine wp_len_kit idPieces _ rfl _ 133 rfl 137 Tryz.underlying133 b l rfl hM3 ?_)
      | go_in)
    have hgl : 4 < w.heap.size := lt_of_cell (hE.glob 6 (by decide))
    have gx : (W3.setCell ⟨w.heap.size, 0, none⟩ (.int .u32 0)).cell? ⟨4, 0, none⟩ = some (sentV a 6) := cell_kept g6 (grown_set (grown_refl W3 (some w.heap.size)) 0 _) (lt_of_cell g6) (fun e => by have := Option.some.inj e; simp only at this; omega)
    have hRs := (hRd.set 0 (.int .u32 0)).set 1 (.int .i64 0)
    have s0 := hRs.cell (i := 0) rfl
    have s1 := hRs.cell (i := 1) rfl
    have hb4 := below_drew ((hb3.setCell (p := ⟨w.heap.size, 0, none⟩) (Nat.le_refl _) (.int .u32 0)).setCell (p := ⟨w.heap.size, 1, none⟩) (Nat.le_refl _) (.int .i64 0))
    clear hgl
    go_region
    all_goals
      go_wp2_with fail
      first
        | exact bodyPost_ret (v := .tuple #[idV 0 0, .bool false, sentV a 6]) (by simp [results, Tryz.results39, go_sem, s0, s1]) rfl ⟨_, _, by rw [e2.out]; rfl, by rw [e2.out]; exact errIn_sent _ _ a 6 (by decide) rfl, by rw [e2.out]; exact HB0.out _ hb4, fun k hk => .inl hk, Off.of_below hb4⟩
        | exact bodyPost_ret (v := .tuple #[idV 0 0, .bool false, sentV a 6]) (by simp [results, Tryz.results39, go_sem, z0, z1]) rfl ⟨_, _, by rw [e2.out]; rfl, by rw [e2.out]; exact errIn_sent _ _ a 6 (by decide) rfl, by rw [e2.out]; exact HB0.out _ (below_drew hb3), fun k hk => .inl hk, Off.of_below (below_drew hb3)⟩

set_option maxRecDepth 100000 in
set_option maxHeartbeats 4000000 in
theorem pPut_clash {a : Nat → Addr} (s : ByteArray) (p : Addr) (F : Nat → Prop) (l : List Hd) (w : World) (hs : s.size ≤ 50000) (hE : ErrE [1, 6, 9] w a) (hP : PBin0 w p F l) (hs1 : 1 ≤ s.size) (hs2 : s.size ≤ 64) (k : Nat) (u : Int) (t : List UInt8) (hf : hFind l (idOfL s.data.toList) = some k) (hk : k < l.length) (hkt : l[k].2 = (u, t)) (ht : t ≠ s.data.toList) :
    Calls Tryz.prog 39 #[.pointer (some p), .string s] w (PPost a w p F (hPut l s.data.toList)) := by
  obtain ⟨B, b, rfl, hB, hM, hne, rfl⟩ := hP
  have hBl := hB.lt
  have hbl := hM.lt
  have hal := (Below.refl w.heap.size w).alloc (Nat.le_refl _) (.cells #[.int .u32 0, .int .i64 0] 40)
  have hR := Blk.new w #[.int .u32 0, .int .i64 0] 40
  have HG : Hid (∀ W', Below w.heap.size w W' → ∀ i, ([1, 6, 9] : List Nat).contains i = true → W'.cell? ⟨errG i, 0, none⟩ = some (sentV a i)) := fun W' hb i hi => (hE.below hb (Nat.le_refl _)).glob i hi
  have HB0 : Hid (∀ W, Below w.heap.size w W → PBin0 W ⟨B, 0, none⟩ (fun k => k = B ∨ k = b) l) := fun W h => PBin0.off ⟨B, b, rfl, hB, hM, hne, rfl⟩ (Off.of_below (F := fun _ => False) h) (fun _ _ h => h)
  have hsl : s.data.toList.length = s.size := by rw [Array.length_toList]; rfl
  have e2 : Hid (hPut l s.data.toList = (((0, 0), false, 10), l)) := by
    show _ = _
    unfold hPut
    rw [if_neg (by rw [hsl]; omega), hf]
    simp only [List.getElem?_eq_getElem hk, Option.map_some, hkt]
    rw [if_neg (fun e => ht (Option.some.inj e))]
  have hm : (idOfL s.data.toList, (u, t)) ∈ l := by rw [← hkt]; exact (hFind_mem_at hf).2
  have hteq : (t == s.toList) = false := by
    rw [ByteArray.toList_eq, beq_eq_false_iff_ne]
    exact ht
  have hteq2 : ¬ t = s.toList := by
    rw [ByteArray.toList_eq]
    exact ht
  have HPC : Hid (isPc s.size = true) := decide_eq_true ⟨hs1, hs2⟩
  have hip := isPiece_any s (w.alloc (.cells #[.int .u32 0, .int .i64 0] 40)) hs
  rw [HPC.out] at hip
  have hid := id_any s (w.alloc (.cells #[.int .u32 0, .int .i64 0] 40)) (by unfold maxLen; omega)
  obtain ⟨P, hP⟩ : ∃ P, pmore 2166136261 s.data.toList = P := ⟨_, rfl⟩
  have HX : Hid (idOfL s.data.toList = (P, (s.size : Int))) := by show _ = _; unfold idOfL; rw [hP, hsl]
  have hxw : WfID (P, (s.size : Int)) := ⟨by rw [← hP]; exact pmore_lt _ (by decide) _, by show (-9223372036854775808 : Int) ≤ s.size; omega, by show (s.size : Int) ≤ 9223372036854775807; omega⟩
  rw [hP] at hid
  rw [HX.out] at hf hm
  clear hP
  have hl : ∀ W : World, idPieces.Of W b l → (Instr.lookup 133 (.map (some b)) (idV (P : Nat) (s.size : Int)) true).run Tryz.prog W = .ok (.tuple #[pieceV (u, t), .bool true]) W := fun W h => h.look_some Tryz.underlying133 (pieceZero W) hm
  go_enter Tryz.func39, Tryz.ntmps39
  go_wp2_with (first
    | (go_at_call 85; refine hip.mono ?_; rintro e w' ⟨rfl, rfl⟩)
    | (go_at_call 17; refine hid.mono ?_; rintro e w1 ⟨rfl, hb1⟩))
  have hal1 : Below w.heap.size w w1 := hal.trans (hb1.mono hal.size)
  have halI := (Below.refl _ w1).alloc (Nat.le_refl _) (.cells #[.int .u32 (P : Nat), .int .i64 (s.size : Int)] 40)
  have hI := Blk.new w1 #[.int .u32 (P : Nat), .int .i64 (s.size : Int)] 40
  have hR1 := (hR.next hb1).next halI
  have hB1 := hB.next (hal1.trans (halI.mono hal1.size))
  have hM1 := of_below hM (hal1.trans (halI.mono hal1.size))
  have hbW := hal1.trans (halI.mono hal1.size)
  have hRI : w.heap.size < w1.heap.size := Nat.lt_of_lt_of_le hR.lt hb1.size
  generalize hW : w1.alloc (.cells #[.int .u32 (P : Nat), .int .i64 (s.size : Int)] 40) = W at *
  have hal2 := (Below.refl W.heap.size W).alloc (Nat.le_refl _) (.cells #[.string ⟨#[]⟩, .int .i64 0] 137)
  have hI2 := hI.next hal2
  have hB2 := hB1.next hal2
  have hM2 := of_below hM1 hal2
  have hP2 := Blk.new W #[.string ⟨#[]⟩, .int .i64 0] 137
  have x0 := hI.cell (i := 0) rfl
  have x1 := hI.cell (i := 1) rfl
  have q0 := hB1.cell (i := 0) rfl
  have y0 := hI2.cell (i := 0) rfl
  have y1 := hI2.cell (i := 1) rfl
  have r0 := hB2.cell (i := 0) rfl
  have p0 := hP2.cell (i := 0) rfl
  have p1 := hP2.cell (i := 1) rfl
  have f0 := hP2.frozen 0
  have f1 := hP2.frozen 1
  have l1 := hl W.drew (of_drew hM1)
  have l2 := hl (W.alloc (.cells #[.string ⟨#[]⟩, .int .i64 0] 137)).drew (of_drew hM2)
  go_region
  all_goals
    have hal3 := (Below.refl W.heap.size W).alloc (Nat.le_refl _) (.cells #[.string ⟨t.toArray⟩, .int .i64 u] 137)
    have hM3 := of_drew (of_below hM1 hal3)
    have hb3 := below_drew (hbW.trans (hal3.mono hbW.size))
    have hPd : Blk (W.alloc (.cells #[.string ⟨t.toArray⟩, .int .i64 u] 137)).drew W.heap.size #[.string ⟨t.toArray⟩, .int .i64 u] 137 := Blk.new W _ _
    have hId : Blk (W.alloc (.cells #[.string ⟨t.toArray⟩, .int .i64 u] 137)).drew w1.heap.size #[.int .u32 (P : Nat), .int .i64 (s.size : Int)] 40 := hI.next (below_drew hal3)
    have hRd : Blk (W.alloc (.cells #[.string ⟨t.toArray⟩, .int .i64 u] 137)).drew w.heap.size #[.int .u32 0, .int .i64 0] 40 := hR1.next (below_drew hal3)
    have hBd : Blk (W.alloc (.cells #[.string ⟨t.toArray⟩, .int .i64 u] 137)).drew B #[.map (some b)] 135 := hB1.next (below_drew hal3)
    generalize (W.alloc (.cells #[.string ⟨t.toArray⟩, .int .i64 u] 137)).drew = W3 at *
    have hIW : w1.heap.size < W.heap.size := hI.lt
    have t0 := hPd.cell (i := 0) rfl
    have t1 := hPd.cell (i := 1) rfl
    have ft0 := hPd.frozen 0
    have ft1 := hPd.frozen 1
    have z0 := hRd.cell (i := 0) rfl
    have z1 := hRd.cell (i := 1) rfl
    have fz0 := hRd.frozen 0
    have fz1 := hRd.frozen 1
    have v0 := hBd.cell (i := 0) rfl
    clear hl l1 l2 hP2 hal2 hI2 hB2 hM2 x0 x1 q0 y0 y1 r0 p0 p1 f0 f1 hip hid
    have g9 : W3.cell? ⟨6, 0, none⟩ = some (sentV a 9) := HG.out _ hb3 9 (by decide)
    go_wp2_with fail
    have hgl : 6 < w.heap.size := lt_of_cell (hE.glob 9 (by decide))
    have gx : (W3.setCell ⟨w.heap.size, 0, none⟩ (.int .u32 0)).cell? ⟨6, 0, none⟩ = some (sentV a 9) := cell_kept g9 (grown_set (grown_refl W3 (some w.heap.size)) 0 _) (lt_of_cell g9) (fun e => by have := Option.some.inj e; simp only at this; omega)
    have hRs := (hRd.set 0 (.int .u32 0)).set 1 (.int .i64 0)
    have s0 := hRs.cell (i := 0) rfl
    have s1 := hRs.cell (i := 1) rfl
    have hb4 := below_drew ((hb3.setCell (p := ⟨w.heap.size, 0, none⟩) (Nat.le_refl _) (.int .u32 0)).setCell (p := ⟨w.heap.size, 1, none⟩) (Nat.le_refl _) (.int .i64 0))
    clear hgl
    go_region
    all_goals
      go_wp2_with fail
      first
        | exact bodyPost_ret (v := .tuple #[idV 0 0, .bool false, sentV a 9]) (by simp [results, Tryz.results39, go_sem, s0, s1]) rfl ⟨_, _, by rw [e2.out]; rfl, by rw [e2.out]; exact errIn_sent _ _ a 9 (by decide) rfl, by rw [e2.out]; exact HB0.out _ hb4, fun k hk => .inl hk, Off.of_below hb4⟩
        | exact bodyPost_ret (v := .tuple #[idV 0 0, .bool false, sentV a 9]) (by simp [results, Tryz.results39, go_sem, z0, z1]) rfl ⟨_, _, by rw [e2.out]; rfl, by rw [e2.out]; exact errIn_sent _ _ a 9 (by decide) rfl, by rw [e2.out]; exact HB0.out _ (below_drew hb3), fun k hk => .inl hk, Off.of_below (below_drew hb3)⟩

set_option maxRecDepth 100000 in
set_option maxHeartbeats 4000000 in
theorem pPut_same {a : Nat → Addr} (s : ByteArray) (p : Addr) (F : Nat → Prop) (l : List Hd) (w : World) (hs : s.size ≤ 50000) (hE : ErrE [1, 6, 9] w a) (hP : PBin0 w p F l) (hs1 : 1 ≤ s.size) (hs2 : s.size ≤ 64) (hmany : l.length ≤ 250) (k : Nat) (u : Int) (t : List UInt8) (hf : hFind l (idOfL s.data.toList) = some k) (hk : k < l.length) (hkt : l[k].2 = (u, t)) (ht : t = s.data.toList) (hu0 : 0 ≤ u) (hu1 : u ≤ 1000000) :
    Calls Tryz.prog 39 #[.pointer (some p), .string s] w (PPost a w p F (hPut l s.data.toList)) := by
  obtain ⟨B, b, rfl, hB, hM, hne, rfl⟩ := hP
  have hBl := hB.lt
  have hbl := hM.lt
  have hal := (Below.refl w.heap.size w).alloc (Nat.le_refl _) (.cells #[.int .u32 0, .int .i64 0] 40)
  have hR := Blk.new w #[.int .u32 0, .int .i64 0] 40
  have HG : Hid (∀ W', Below w.heap.size w W' → ∀ i, ([1, 6, 9] : List Nat).contains i = true → W'.cell? ⟨errG i, 0, none⟩ = some (sentV a i)) := fun W' hb i hi => (hE.below hb (Nat.le_refl _)).glob i hi
  have HB0 : Hid (∀ W, Below w.heap.size w W → PBin0 W ⟨B, 0, none⟩ (fun k => k = B ∨ k = b) l) := fun W h => PBin0.off ⟨B, b, rfl, hB, hM, hne, rfl⟩ (Off.of_below (F := fun _ => False) h) (fun _ _ h => h)
  have hsl : s.data.toList.length = s.size := by rw [Array.length_toList]; rfl
  have e2 : Hid (hPut l s.data.toList = ((idOfL s.data.toList, false, 0), l.modify k (hUse 1))) := by
    show _ = _
    unfold hPut
    rw [if_neg (by rw [hsl]; omega), hf]
    simp only [List.getElem?_eq_getElem hk, Option.map_some, hkt]
    rw [if_pos (by rw [ht])]
  have hm : (idOfL s.data.toList, (u, t)) ∈ l := by rw [← hkt]; exact (hFind_mem_at hf).2
  have hperm := modify_perm 1 l k hk hM.apart
  rw [(hFind_some hf).2, hkt] at hperm
  simp only at hperm
  have hteq : (t == s.toList) = true := by
    rw [ByteArray.toList_eq, beq_iff_eq]
    exact ht
  have hteq2 : t = s.toList := by
    rw [ByteArray.toList_eq]
    exact ht
  have HT2 : Hid (t = s.toList) := hteq2
  clear hteq2 ht
  have HPC : Hid (isPc s.size = true) := decide_eq_true ⟨hs1, hs2⟩
  have hip := isPiece_any s (w.alloc (.cells #[.int .u32 0, .int .i64 0] 40)) hs
  rw [HPC.out] at hip
  have hid := id_any s (w.alloc (.cells #[.int .u32 0, .int .i64 0] 40)) (by unfold maxLen; omega)
  obtain ⟨P, hP⟩ : ∃ P, pmore 2166136261 s.data.toList = P := ⟨_, rfl⟩
  have HX : Hid (idOfL s.data.toList = (P, (s.size : Int))) := by show _ = _; unfold idOfL; rw [hP, hsl]
  have hxw : WfID (P, (s.size : Int)) := ⟨by rw [← hP]; exact pmore_lt _ (by decide) _, by show (-9223372036854775808 : Int) ≤ s.size; omega, by show (s.size : Int) ≤ 9223372036854775807; omega⟩
  rw [hP] at hid
  rw [HX.out] at hf hm hperm
  clear hP
  have hl : ∀ W : World, idPieces.Of W b l → (Instr.lookup 133 (.map (some b)) (idV (P : Nat) (s.size : Int)) true).run Tryz.prog W = .ok (.tuple #[pieceV (u, t), .bool true]) W := fun W h => h.look_some Tryz.underlying133 (pieceZero W) hm
  go_enter Tryz.func39, Tryz.ntmps39
  go_wp2_with (first
    | (go_at_call 85; refine hip.mono ?_; rintro e w' ⟨rfl, rfl⟩)
    | (go_at_call 17; refine hid.mono ?_; rintro e w1 ⟨rfl, hb1⟩))
  have hal1 : Below w.heap.size w w1 := hal.trans (hb1.mono hal.size)
  have halI := (Below.refl _ w1).alloc (Nat.le_refl _) (.cells #[.int .u32 (P : Nat), .int .i64 (s.size : Int)] 40)
  have hI := Blk.new w1 #[.int .u32 (P : Nat), .int .i64 (s.size : Int)] 40
  have hR1 := (hR.next hb1).next halI
  have hB1 := hB.next (hal1.trans (halI.mono hal1.size))
  have hM1 := of_below hM (hal1.trans (halI.mono hal1.size))
  have hbW := hal1.trans (halI.mono hal1.size)
  have hRI : w.heap.size < w1.heap.size := Nat.lt_of_lt_of_le hR.lt hb1.size
  generalize hW : w1.alloc (.cells #[.int .u32 (P : Nat), .int .i64 (s.size : Int)] 40) = W at *
  have hal2 := (Below.refl W.heap.size W).alloc (Nat.le_refl _) (.cells #[.string ⟨#[]⟩, .int .i64 0] 137)
  have hI2 := hI.next hal2
  have hB2 := hB1.next hal2
  have hM2 := of_below hM1 hal2
  have hP2 := Blk.new W #[.string ⟨#[]⟩, .int .i64 0] 137
  have x0 := hI.cell (i := 0) rfl
  have x1 := hI.cell (i := 1) rfl
  have q0 := hB1.cell (i := 0) rfl
  have y0 := hI2.cell (i := 0) rfl
  have y1 := hI2.cell (i := 1) rfl
  have r0 := hB2.cell (i := 0) rfl
  have p0 := hP2.cell (i := 0) rfl
  have p1 := hP2.cell (i := 1) rfl
  have f0 := hP2.frozen 0
  have f1 := hP2.frozen 1
  have l1 := hl W.drew (of_drew hM1)
  have l2 := hl (W.alloc (.cells #[.string ⟨#[]⟩, .int .i64 0] 137)).drew (of_drew hM2)
  go_region
  all_goals
    have hal3 := (Below.refl W.heap.size W).alloc (Nat.le_refl _) (.cells #[.string ⟨t.toArray⟩, .int .i64 u] 137)
    have hM3 := of_drew (of_below hM1 hal3)
    have hb3 := below_drew (hbW.trans (hal3.mono hbW.size))
    have hPd : Blk (W.alloc (.cells #[.string ⟨t.toArray⟩, .int .i64 u] 137)).drew W.heap.size #[.string ⟨t.toArray⟩, .int .i64 u] 137 := Blk.new W _ _
    have hId : Blk (W.alloc (.cells #[.string ⟨t.toArray⟩, .int .i64 u] 137)).drew w1.heap.size #[.int .u32 (P : Nat), .int .i64 (s.size : Int)] 40 := hI.next (below_drew hal3)
    have hRd : Blk (W.alloc (.cells #[.string ⟨t.toArray⟩, .int .i64 u] 137)).drew w.heap.size #[.int .u32 0, .int .i64 0] 40 := hR1.next (below_drew hal3)
    have hBd : Blk (W.alloc (.cells #[.string ⟨t.toArray⟩, .int .i64 u] 137)).drew B #[.map (some b)] 135 := hB1.next (below_drew hal3)
    generalize (W.alloc (.cells #[.string ⟨t.toArray⟩, .int .i64 u] 137)).drew = W3 at *
    have hIW : w1.heap.size < W.heap.size := hI.lt
    have t0 := hPd.cell (i := 0) rfl
    have t1 := hPd.cell (i := 1) rfl
    have ft0 := hPd.frozen 0
    have ft1 := hPd.frozen 1
    have z0 := hRd.cell (i := 0) rfl
    have z1 := hRd.cell (i := 1) rfl
    have fz0 := hRd.frozen 0
    have fz1 := hRd.frozen 1
    have v0 := hBd.cell (i := 0) rfl
    clear hl l1 l2 hP2 hal2 hI2 hB2 hM2 x0 x1 q0 y0 y1 r0 p0 p1 f0 f1 hip hid
    have hu1' : IntKind.i64.wrap (u + 1) = u + 1 := by rw [IntKind.wrap_i64]; omega
    have hP6 := hPd.set 1 (.int .i64 (u + 1))
    have hI6 := hId.other (a := ⟨W.heap.size, 1, none⟩) (by simp only; omega) (.int .i64 (u + 1))
    have hR6 := hRd.other (a := ⟨W.heap.size, 1, none⟩) (by simp only; omega) (.int .i64 (u + 1))
    have hB6 := hBd.other (a := ⟨W.heap.size, 1, none⟩) (by simp only; omega) (.int .i64 (u + 1))
    have hM6 := of_drew (hM3.kept (grown_set (grown_refl W3 (some W.heap.size)) 1 (.int .i64 (u + 1))) (fun e => by have := Option.some.inj e; omega))
    have hb6 := hb3.setCell (p := ⟨W.heap.size, 1, none⟩) (by simp only; omega) (.int .i64 (u + 1))
    have m0 := hP6.cell (i := 0) rfl
    have m1 := hP6.cell (i := 1) rfl
    go_wp2_with fail
    obtain ⟨w7, hst, hOf, hg7⟩ := hM6.store Tryz.underlying133 hxw (u + 1, t) (by unfold maxLen; omega)
    change (Instr.mapUpdate 133 (.map (some b)) (idV (P : Nat) (s.size : Int)) (pieceV (u + 1, t))).run Tryz.prog _ = _ at hst
    have HOF := hOf _ hperm
    have hg7' := grown_drew hg7
    have hI7 : Blk w7 w1.heap.size #[.int .u32 (P : Nat), .int .i64 (s.size : Int)] 40 := (hg7'.block _ hI6.lt (fun e => by have := Option.some.inj e; omega)).trans hI6
    have hR7 : Blk w7 w.heap.size #[.int .u32 0, .int .i64 0] 40 := (hg7'.block _ hR6.lt (fun e => by have := Option.some.inj e; omega)).trans hR6
    have hR8 := (hR7.set 0 (.int .u32 (P : Nat))).set 1 (.int .i64 (s.size : Int))
    have hB7 : Blk w7 B #[.map (some b)] 135 := (hg7'.block B hB6.lt (fun e => hne (Option.some.inj e))).trans hB6
    have hB8 := (hB7.other (a := ⟨w.heap.size, 0, none⟩) (by simp only; omega) (.int .u32 (P : Nat))).other (a := ⟨w.heap.size, 1, none⟩) (by simp only; omega) (.int .i64 (s.size : Int))
    have hgR : w7.grownBy ((w7.setCell ⟨w.heap.size, 0, none⟩ (.int .u32 (P : Nat))).setCell ⟨w.heap.size, 1, none⟩ (.int .i64 (s.size : Int))) (some w.heap.size) := grown_set (grown_set (grown_refl w7 _) 0 _) 1 _
    have hM8 := HOF.kept hgR (fun e => by have := Option.some.inj e; omega)
    have hof : Off (fun k => k = B ∨ k = b) w ((w7.setCell ⟨w.heap.size, 0, none⟩ (.int .u32 (P : Nat))).setCell ⟨w.heap.size, 1, none⟩ (.int .i64 (s.size : Int))) := (((Off.of_below hb6).trans (off_of_grown hg7' (F := fun k => k = B ∨ k = b) (.inr rfl)) (fun _ _ h => h)).setCell (p := ⟨w.heap.size, 0, none⟩) (.inr (Nat.le_refl _)) _).setCell (p := ⟨w.heap.size, 1, none⟩) (.inr (Nat.le_refl _)) _
    have i0 := hI7.cell (i := 0) rfl
    have i1 := hI7.cell (i := 1) rfl
    have c0 := hR7.cell (i := 0) rfl
    have c1 := hR7.cell (i := 1) rfl
    have k0 := hR7.frozen 0
    have k1 := hR7.frozen 1
    have d0 := hR8.cell (i := 0) rfl
    have d1 := hR8.cell (i := 1) rfl
    have j0 := hI6.cell (i := 0) rfl
    have j1 := hI6.cell (i := 1) rfl
    have b6 := hB6.cell (i := 0) rfl
    have HQ : Hid (PBin0 ((w7.setCell ⟨w.heap.size, 0, none⟩ (.int .u32 (P : Nat))).setCell ⟨w.heap.size, 1, none⟩ (.int .i64 (s.size : Int))) ⟨B, 0, none⟩ (fun k => k = B ∨ k = b) (l.modify k (hUse 1)) ∧ Off (fun k => k = B ∨ k = b) w ((w7.setCell ⟨w.heap.size, 0, none⟩ (.int .u32 (P : Nat))).setCell ⟨w.heap.size, 1, none⟩ (.int .i64 (s.size : Int)))) := ⟨⟨B, b, rfl, hB8, hM8, hne, rfl⟩, hof⟩
    clear HOF hOf hg7 hg7' hM6 hperm hI7 hR7 hR8 hB7 hB8 hgR hM8 hof
    go_region
    all_goals
      go_wp2_with fail
      exact bodyPost_ret (v := .tuple #[idV (P : Nat) (s.size : Int), .bool false, .nilIface]) (by simp [results, Tryz.results39, go_sem, d0, d1]) rfl ⟨_, _, by rw [e2.out, HX.out], by rw [e2.out]; exact .inl ⟨rfl, rfl⟩, by rw [e2.out]; exact HQ.out.1, fun k hk => .inl hk, HQ.out.2⟩

set_option maxRecDepth 100000 in
set_option maxHeartbeats 4000000 in
theorem pPut_new {a : Nat → Addr} (s : ByteArray) (p : Addr) (F : Nat → Prop) (l : List Hd) (w : World) (hs : s.size ≤ 50000) (hE : ErrE [1, 6, 9] w a) (hP : PBin0 w p F l) (hs1 : 1 ≤ s.size) (hs2 : s.size ≤ 64) (hf : hFind l (idOfL s.data.toList) = none) (hfull : l.length < 250) :
    Calls Tryz.prog 39 #[.pointer (some p), .string s] w (PPost a w p F (hPut l s.data.toList)) := by
  obtain ⟨B, b, rfl, hB, hM, hne, rfl⟩ := hP
  have hBl := hB.lt
  have hbl := hM.lt
  have hal := (Below.refl w.heap.size w).alloc (Nat.le_refl _) (.cells #[.int .u32 0, .int .i64 0] 40)
  have hR := Blk.new w #[.int .u32 0, .int .i64 0] 40
  have HG : Hid (∀ W', Below w.heap.size w W' → ∀ i, ([1, 6, 9] : List Nat).contains i = true → W'.cell? ⟨errG i, 0, none⟩ = some (sentV a i)) := fun W' hb i hi => (hE.below hb (Nat.le_refl _)).glob i hi
  have HB0 : Hid (∀ W, Below w.heap.size w W → PBin0 W ⟨B, 0, none⟩ (fun k => k = B ∨ k = b) l) := fun W h => PBin0.off ⟨B, b, rfl, hB, hM, hne, rfl⟩ (Off.of_below (F := fun _ => False) h) (fun _ _ h => h)
  have hsl : s.data.toList.length = s.size := by rw [Array.length_toList]; rfl
  have e2 : Hid (hPut l s.data.toList = ((idOfL s.data.toList, true, 0), hIns l (idOfL s.data.toList, 1, s.data.toList))) := by
    show _ = _
    unfold hPut
    rw [if_neg (by rw [hsl]; omega), hf]
    simp only [if_neg (show ¬ 250 ≤ l.length by omega)]
  have hperm : ((idOfL s.data.toList, (1 : Int), s.data.toList) :: l.filter (fun h => !decide (h.1 = idOfL s.data.toList))).Perm (hIns l (idOfL s.data.toList, 1, s.data.toList)) := by
    rw [List.filter_eq_self.2 (fun h hm => by simp [hFind_not hf h hm])]
    exact (hIns_perm l _).symm
  have HPC : Hid (isPc s.size = true) := decide_eq_true ⟨hs1, hs2⟩
  have hip := isPiece_any s (w.alloc (.cells #[.int .u32 0, .int .i64 0] 40)) hs
  rw [HPC.out] at hip
  have hid := id_any s (w.alloc (.cells #[.int .u32 0, .int .i64 0] 40)) (by unfold maxLen; omega)
  obtain ⟨P, hP⟩ : ∃ P, pmore 2166136261 s.data.toList = P := ⟨_, rfl⟩
  have HX : Hid (idOfL s.data.toList = (P, (s.size : Int))) := by show _ = _; unfold idOfL; rw [hP, hsl]
  have hxw : WfID (P, (s.size : Int)) := ⟨by rw [← hP]; exact pmore_lt _ (by decide) _, by show (-9223372036854775808 : Int) ≤ s.size; omega, by show (s.size : Int) ≤ 9223372036854775807; omega⟩
  rw [hP] at hid
  rw [HX.out] at hf hperm e2
  clear hP
  have hl : ∀ W : World, idPieces.Of W b l → (Instr.lookup 133 (.map (some b)) (idV (P : Nat) (s.size : Int)) true).run Tryz.prog W = .ok (.tuple #[pieceV (0, []), .bool false]) W := fun W h => h.look_none Tryz.underlying133 (pieceZero W) hxw (hFind_not hf)
  go_enter Tryz.func39, Tryz.ntmps39
  go_wp2_with (first
    | (go_at_call 85; refine hip.mono ?_; rintro e w' ⟨rfl, rfl⟩)
    | (go_at_call 17; refine hid.mono ?_; rintro e w1 ⟨rfl, hb1⟩))
  have hal1 : Below w.heap.size w w1 := hal.trans (hb1.mono hal.size)
  have halI := (Below.refl _ w1).alloc (Nat.le_refl _) (.cells #[.int .u32 (P : Nat), .int .i64 (s.size : Int)] 40)
  have hI := Blk.new w1 #[.int .u32 (P : Nat), .int .i64 (s.size : Int)] 40
  have hR1 := (hR.next hb1).next halI
  have hB1 := hB.next (hal1.trans (halI.mono hal1.size))
  have hM1 := of_below hM (hal1.trans (halI.mono hal1.size))
  have hbW := hal1.trans (halI.mono hal1.size)
  have hRI : w.heap.size < w1.heap.size := Nat.lt_of_lt_of_le hR.lt hb1.size
  generalize hW : w1.alloc (.cells #[.int .u32 (P : Nat), .int .i64 (s.size : Int)] 40) = W at *
  have hal2 := (Below.refl W.heap.size W).alloc (Nat.le_refl _) (.cells #[.string ⟨#[]⟩, .int .i64 0] 137)
  have hI2 := hI.next hal2
  have hB2 := hB1.next hal2
  have hM2 := of_below hM1 hal2
  have hP2 := Blk.new W #[.string ⟨#[]⟩, .int .i64 0] 137
  have x0 := hI.cell (i := 0) rfl
  have x1 := hI.cell (i := 1) rfl
  have q0 := hB1.cell (i := 0) rfl
  have y0 := hI2.cell (i := 0) rfl
  have y1 := hI2.cell (i := 1) rfl
  have r0 := hB2.cell (i := 0) rfl
  have p0 := hP2.cell (i := 0) rfl
  have p1 := hP2.cell (i := 1) rfl
  have f0 := hP2.frozen 0
  have f1 := hP2.frozen 1
  have l1 := hl W.drew (of_drew hM1)
  have l2 := hl (W.alloc (.cells #[.string ⟨#[]⟩, .int .i64 0] 137)).drew (of_drew hM2)
  go_region
  all_goals
    have hal3 := (Below.refl W.heap.size W).alloc (Nat.le_refl _) (.cells #[.string ⟨#[]⟩, .int .i64 0] 137)
    have hM3 := of_drew (of_below hM1 hal3)
    have hb3 := below_drew (hbW.trans (hal3.mono hbW.size))
    have hPd : Blk (W.alloc (.cells #[.string ⟨#[]⟩, .int .i64 0] 137)).drew W.heap.size #[.string ⟨#[]⟩, .int .i64 0] 137 := Blk.new W _ _
    have hId : Blk (W.alloc (.cells #[.string ⟨#[]⟩, .int .i64 0] 137)).drew w1.heap.size #[.int .u32 (P : Nat), .int .i64 (s.size : Int)] 40 := hI.next (below_drew hal3)
    have hRd : Blk (W.alloc (.cells #[.string ⟨#[]⟩, .int .i64 0] 137)).drew w.heap.size #[.int .u32 0, .int .i64 0] 40 := hR1.next (below_drew hal3)
    have hBd : Blk (W.alloc (.cells #[.string ⟨#[]⟩, .int .i64 0] 137)).drew B #[.map (some b)] 135 := hB1.next (below_drew hal3)
    generalize (W.alloc (.cells #[.string ⟨#[]⟩, .int .i64 0] 137)).drew = W3 at *
    have hIW : w1.heap.size < W.heap.size := hI.lt
    have t0 := hPd.cell (i := 0) rfl
    have t1 := hPd.cell (i := 1) rfl
    have ft0 := hPd.frozen 0
    have ft1 := hPd.frozen 1
    have z0 := hRd.cell (i := 0) rfl
    have z1 := hRd.cell (i := 1) rfl
    have fz0 := hRd.frozen 0
    have fz1 := hRd.frozen 1
    have v0 := hBd.cell (i := 0) rfl
    clear hl l1 l2 hP2 hal2 hI2 hB2 hM2 x0 x1 q0 y0 y1 r0 p0 p1 f0 f1 hip hid
    have hfull' : ¬ (250 : Int) ≤ (l.length : Int) := by omega
    have hnp := newPiece_any s 0 W3 hs
    go_wp2_with (first
      | (at_len; refine wp_len_kit idPieces _ rfl _ 133 rfl 137 Tryz.underlying133 b l rfl hM3 ?_)
      | (go_at_call 86; refine hnp.mono ?_; rintro e w5 ⟨rfl, hb5⟩; have hP5 := hPd.next hb5; have o0 := hP5.cell (i := 0) rfl; have o1 := hP5.cell (i := 1) rfl; have fo0 := hP5.frozen 0; have fo1 := hP5.frozen 1)
      | go_in)
    have hP6 := ((hP5.set 0 (.string s)).set 1 (.int .i64 0)).set 1 (.int .i64 1)
    have hI6 := (((hId.next hb5).other (a := ⟨W.heap.size, 0, none⟩) (by simp only; omega) (.string s)).other (a := ⟨W.heap.size, 1, none⟩) (by simp only; omega) (.int .i64 0)).other (a := ⟨W.heap.size, 1, none⟩) (by simp only; omega) (.int .i64 1)
    have hR6 := (((hRd.next hb5).other (a := ⟨W.heap.size, 0, none⟩) (by simp only; omega) (.string s)).other (a := ⟨W.heap.size, 1, none⟩) (by simp only; omega) (.int .i64 0)).other (a := ⟨W.heap.size, 1, none⟩) (by simp only; omega) (.int .i64 1)
    have hB6 := (((hBd.next hb5).other (a := ⟨W.heap.size, 0, none⟩) (by simp only; omega) (.string s)).other (a := ⟨W.heap.size, 1, none⟩) (by simp only; omega) (.int .i64 0)).other (a := ⟨W.heap.size, 1, none⟩) (by simp only; omega) (.int .i64 1)
    have hM6 := of_drew ((of_below hM3 hb5).kept (grown_set (grown_set (grown_set (grown_refl w5 (some W.heap.size)) 0 (.string s)) 1 (.int .i64 0)) 1 (.int .i64 1)) (fun e => by have := Option.some.inj e; omega))
    have hb6 := (((hb3.trans (hb5.mono hb3.size)).setCell (p := ⟨W.heap.size, 0, none⟩) (by simp only; omega) (.string s)).setCell (p := ⟨W.heap.size, 1, none⟩) (by simp only; omega) (.int .i64 0)).setCell (p := ⟨W.heap.size, 1, none⟩) (by simp only; omega) (.int .i64 1)
    have m0 := hP6.cell (i := 0) rfl
    have m1 := hP6.cell (i := 1) rfl
    obtain ⟨w7, hst, hOf, hg7⟩ := hM6.store Tryz.underlying133 hxw (1, s.data.toList) (by unfold maxLen; omega)
    change (Instr.mapUpdate 133 (.map (some b)) (idV (P : Nat) (s.size : Int)) (.agg #[.string s, .int .i64 1])).run Tryz.prog _ = _ at hst
    have HOF := hOf _ hperm
    have hg7' := grown_drew hg7
    have hI7 : Blk w7 w1.heap.size #[.int .u32 (P : Nat), .int .i64 (s.size : Int)] 40 := (hg7'.block _ hI6.lt (fun e => by have := Option.some.inj e; omega)).trans hI6
    have hR7 : Blk w7 w.heap.size #[.int .u32 0, .int .i64 0] 40 := (hg7'.block _ hR6.lt (fun e => by have := Option.some.inj e; omega)).trans hR6
    have hR8 := (hR7.set 0 (.int .u32 (P : Nat))).set 1 (.int .i64 (s.size : Int))
    have hB7 : Blk w7 B #[.map (some b)] 135 := (hg7'.block B hB6.lt (fun e => hne (Option.some.inj e))).trans hB6
    have hB8 := (hB7.other (a := ⟨w.heap.size, 0, none⟩) (by simp only; omega) (.int .u32 (P : Nat))).other (a := ⟨w.heap.size, 1, none⟩) (by simp only; omega) (.int .i64 (s.size : Int))
    have hgR : w7.grownBy ((w7.setCell ⟨w.heap.size, 0, none⟩ (.int .u32 (P : Nat))).setCell ⟨w.heap.size, 1, none⟩ (.int .i64 (s.size : Int))) (some w.heap.size) := grown_set (grown_set (grown_refl w7 _) 0 _) 1 _
    have hM8 := HOF.kept hgR (fun e => by have := Option.some.inj e; omega)
    have hof : Off (fun k => k = B ∨ k = b) w ((w7.setCell ⟨w.heap.size, 0, none⟩ (.int .u32 (P : Nat))).setCell ⟨w.heap.size, 1, none⟩ (.int .i64 (s.size : Int))) := (((Off.of_below hb6).trans (off_of_grown hg7' (F := fun k => k = B ∨ k = b) (.inr rfl)) (fun _ _ h => h)).setCell (p := ⟨w.heap.size, 0, none⟩) (.inr (Nat.le_refl _)) _).setCell (p := ⟨w.heap.size, 1, none⟩) (.inr (Nat.le_refl _)) _
    have i0 := hI7.cell (i := 0) rfl
    have i1 := hI7.cell (i := 1) rfl
    have c0 := hR7.cell (i := 0) rfl
    have c1 := hR7.cell (i := 1) rfl
    have k0 := hR7.frozen 0
    have k1 := hR7.frozen 1
    have d0 := hR8.cell (i := 0) rfl
    have d1 := hR8.cell (i := 1) rfl
    have j0 := hI6.cell (i := 0) rfl
    have j1 := hI6.cell (i := 1) rfl
    have b6 := hB6.cell (i := 0) rfl
    have HQ : Hid (PBin0 ((w7.setCell ⟨w.heap.size, 0, none⟩ (.int .u32 (P : Nat))).setCell ⟨w.heap.size, 1, none⟩ (.int .i64 (s.size : Int))) ⟨B, 0, none⟩ (fun k => k = B ∨ k = b) (hIns l ((P, (s.size : Int)), 1, s.data.toList)) ∧ Off (fun k => k = B ∨ k = b) w ((w7.setCell ⟨w.heap.size, 0, none⟩ (.int .u32 (P : Nat))).setCell ⟨w.heap.size, 1, none⟩ (.int .i64 (s.size : Int)))) := ⟨⟨B, b, rfl, hB8, hM8, hne, rfl⟩, hof⟩
    clear HOF hOf hg7 hg7' hM6 hperm hI7 hR7 hR8 hB7 hB8 hgR hM8 hof
    go_region
    all_goals
      go_wp2_with fail
      exact bodyPost_ret (v := .tuple #[idV (P : Nat) (s.size : Int), .bool true, .nilIface]) (by simp [results, Tryz.results39, go_sem, d0, d1]) rfl ⟨_, _, by rw [e2.out], by rw [e2.out]; exact .inl ⟨rfl, rfl⟩, by rw [e2.out]; exact HQ.out.1, fun k hk => .inl hk, HQ.out.2⟩
end Go.Proofs.YtjdobbjdlighpaaGreatDoor
namespace Go.Proofs.YtjdobbjdlighpaaGreatDoor
open Go.RowKit Go.Maps

theorem IdsIn.off {base : Nat} {F : Nat → Prop} {w w' : World} {v : Value} {ids : List (Nat × Int)} (h : IdsIn base w v ids) (ho : Off F w w') (hn : ∀ k, base ≤ k → ¬ F k) : IdsIn base w' v ids := by
  obtain ⟨p, c, rfl, h⟩ := h
  refine ⟨p, c, rfl, fun i hi => ?_⟩
  obtain ⟨b, o, rfl, hb0, hb, h0, h1⟩ := h i hi
  have he : w'.heap[b]? = w.heap[b]? := ho.block b hb (hn b hb0)
  exact ⟨b, o, rfl, hb0, Nat.lt_of_lt_of_le hb ho.size, (World.cell?_of_block (w := w) he).trans h0, (World.cell?_of_block (w := w) he).trans h1⟩
theorem IdsIn.own {base : Nat} {w : World} {v : Value} {ids : List (Nat × Int)} (h : IdsIn base w v ids) (hne : ids ≠ []) {k : Nat} (hk : v.ownBlock = some k) : base ≤ k ∧ k < w.heap.size := by
  obtain ⟨p, c, rfl, h⟩ := h
  obtain ⟨b, o, rfl, hb0, hb, _⟩ := h 0 (List.length_pos_iff.2 hne)
  have : b = k := by simpa [Value.ownBlock] using hk
  omega
set_option maxRecDepth 100000 in
set_option maxHeartbeats 4000000 in
theorem copyOf_any (X : ByteArray) (L P : Int) (v : Value) (ids : List (Nat × Int)) (w : World) (hv : IdsAt w v ids) (hlen : ids.length ≤ 50000) :
    Calls Tryz.prog 123 #[rcpV X L P v] w fun e w' => ∃ v', e = .returned (rcpV X L P v') ∧ IdsIn w.heap.size w' v' ids ∧ Below w.heap.size w w' := by
  have HL := hideN hlen
  have HI := hideN hv
  obtain ⟨pv0, cv0, rfl, _⟩ := hv
  obtain ⟨idl, hidl⟩ : ∃ idl, ids.length = idl := ⟨_, rfl⟩
  have HID := hideN hidl
  rw [hidl] at HI ⊢
  clear hlen hidl
  have hal := (Below.refl w.heap.size w).alloc (Nat.le_refl _) (.cells #[.string X, .int .i64 L, .int .u32 P, .slice pv0 idl cv0] 26)
  have hr := Blk.new w #[.string X, .int .i64 L, .int .u32 P, .slice pv0 idl cv0] 26
  have hal2 := (Below.refl (w.alloc (.cells #[.string X, .int .i64 L, .int .u32 P, .slice pv0 idl cv0] 26)).heap.size (w.alloc (.cells #[.string X, .int .i64 L, .int .u32 P, .slice pv0 idl cv0] 26))).alloc (Nat.le_refl _) (.cells #[.string ⟨#[]⟩, .int .i64 0, .int .u32 0, .slice none 0 0] 26)
  have hbr2 := Blk.new (w.alloc (.cells #[.string X, .int .i64 L, .int .u32 P, .slice pv0 idl cv0] 26)) #[.string ⟨#[]⟩, .int .i64 0, .int .u32 0, .slice none 0 0] 26
  have hs1 : (w.alloc (.cells #[.string X, .int .i64 L, .int .u32 P, .slice pv0 idl cv0] 26)).heap.size = w.heap.size + 1 := by simp
  rw [hs1] at hbr2
  have hr2 := hr.next hal2
  have HB2 : Hid (Below w.heap.size w _) := hideN (hal.trans (hal2.mono hal.size))
  have HI2 := hideN ((HI.out.below hal).below hal2)
  clear hal hal2 hr HI hs1
  go_enter Tryz.func123, Tryz.ntmps123
  go_wp2_with fail
  generalize ((w.alloc (.cells #[.string X, .int .i64 L, .int .u32 P, .slice pv0 idl cv0] 26)).alloc (.cells #[.string ⟨#[]⟩, .int .i64 0, .int .u32 0, .slice none 0 0] 26)) = W2 at *
  have a3 := hr2.cell (i := 3) rfl
  go_wp2_with fail
  refine (cloneIds_any (.slice pv0 idl cv0) ids W2 HI2.out HL.out).mono ?_
  rintro e w3 ⟨v3, rfl, hi3, hb3⟩
  have HI3 := hideN hi3
  have HB3 : Hid (Below w.heap.size w w3) := HB2.out.trans (hb3.mono HB2.out.size)
  have hbr3 := hbr2.next hb3
  have hr3 := hr2.next hb3
  have hlt3 := hbr2.lt
  obtain ⟨p3, c3, hv3, _⟩ := hi3
  rw [HID.out] at hv3
  subst hv3
  clear hb3 HI2 hbr2 hr2 a3
  have hr4 := hr3.set 3 (.slice p3 idl c3)
  have hbr4 := hbr3.other (a := ⟨w.heap.size, 3, none⟩) (by simp only; omega) (.slice p3 idl c3)
  have y3 := hr3.cell (i := 3) rfl
  have z3 := hr3.frozen 3
  have k0 := hbr4.cell (i := 0) rfl
  have k1 := hbr4.cell (i := 1) rfl
  have k2 := hbr4.cell (i := 2) rfl
  have k3 := hbr4.cell (i := 3) rfl
  have f0 := hbr4.frozen 0
  have f1 := hbr4.frozen 1
  have f2 := hbr4.frozen 2
  have f3 := hbr4.frozen 3
  have r0 := hr4.cell (i := 0) rfl
  have r1 := hr4.cell (i := 1) rfl
  have r2 := hr4.cell (i := 2) rfl
  have r3 := hr4.cell (i := 3) rfl
  go_wp2_with fail
  have hRs := (((hbr4.set 0 (.string X)).set 1 (.int .i64 L)).set 2 (.int .u32 P)).set 3 (.slice p3 idl c3)
  have s0 := hRs.cell (i := 0) rfl
  have s1 := hRs.cell (i := 1) rfl
  have s2 := hRs.cell (i := 2) rfl
  have s3 := hRs.cell (i := 3) rfl
  have hO := (((((Off.of_below (F := fun k => k = w.heap.size + 1 ∨ k = w.heap.size) (Below.refl w3.heap.size w3)).setCell (p := ⟨w.heap.size, 3, none⟩) (.inl (.inr rfl)) (.slice p3 idl c3)).setCell (p := ⟨w.heap.size + 1, 0, none⟩) (.inl (.inl rfl)) (.string X)).setCell (p := ⟨w.heap.size + 1, 1, none⟩) (.inl (.inl rfl)) (.int .i64 L)).setCell (p := ⟨w.heap.size + 1, 2, none⟩) (.inl (.inl rfl)) (.int .u32 P)).setCell (p := ⟨w.heap.size + 1, 3, none⟩) (.inl (.inl rfl)) (.slice p3 idl c3)
  have hi9 := (HI3.out.off hO (fun k hk e => by rcases e with e | e <;> omega)).low (show w.heap.size ≤ W2.heap.size by omega)
  exact bodyPost_ret (v := .agg #[.string X, .int .i64 L, .int .u32 P, .slice p3 idl c3]) (by simp [results, Tryz.results123, go_sem, s0, s1, s2, s3]) rfl ⟨.slice p3 idl c3, rfl, hi9, HB3.out.trans (hO.below HB3.out.size (fun j hj e => by rcases e with e | e <;> omega))⟩

def KeepPost (w : World) (N mf mb : Nat) (vi : List UInt8 → Value) (Fi : Nat × Int → Nat → Prop) (fs : List Rcp) (bs : List NBin) (F8 : Nat → Prop) (fs' : List Rcp) (bs' : List NBin) (e : Ending) (w' : World) : Prop :=
  e = .returned (.tuple #[]) ∧ ∃ vi' pi' Fi', NAtR w' N mf mb vi' pi' Fi' fs' bs' ∧ (∀ k, rFoot N mf mb vi' Fi' fs' bs' k → rFoot N mf mb vi Fi fs bs k ∨ F8 k ∨ w.heap.size ≤ k) ∧ Off (fun k => k = mf ∨ k = mb) w w'
set_option maxRecDepth 100000 in
set_option maxHeartbeats 8000000 in
theorem keep_any (N mf mb : Nat) (vi : List UInt8 → Value) (pi : Nat × Int → Addr) (Fi : Nat × Int → Nat → Prop) (fs : List Rcp) (bs : List NBin) (x : Nat × Int) (q : Addr) (F8 : Nat → Prop) (bl : List Hd) (vl : Value) (fl : List Rcp) (w : World) (hx : WfID x)
    (h : NAtR w N mf mb vi pi Fi fs bs) (hq : PBin0 w q F8 bl) (hF8 : ∀ k, F8 k → ¬ rFoot N mf mb vi Fi fs bs k) (hv : ∀ W, Off (fun k => k = mf) w W → RcpsAt W vl fl)
    (hnew : ∀ r ∈ fl, ∀ g ∈ fs, g.1 ≠ r.1) (hap : fl.Pairwise (fun f g => f.1 ≠ g.1)) (hnm : ∀ r ∈ fl, r.1.length ≤ 50000) (hids : ∀ r ∈ fl, r.2.2.2.length ≤ 50000) (hlen : fl.length ≤ 1000) (hsl : fs.length ≤ 1000) (hbl : bs.length ≤ 1000) :
    Calls Tryz.prog 91 #[.pointer (some ⟨N, 0, none⟩), idV (x.1 : Nat) x.2, .pointer (some q), vl] w (KeepPost w N mf mb vi Fi fs bs F8 (fl.reverse ++ fs) ((x, bl) :: bs.filter (fun b => !decide (b.1 = x)))) := by
  have HH := hideN h
  have HQ := hideN hq
  have HF8 := hideN hF8
  have HV := hideN hv
  have HNEW := hideN hnew
  have HAP := hideN hap
  have HNM := hideN hnm
  have HIDS := hideN hids
  have HLEN := hideN hlen
  have HSL := hideN hsl
  have HBL := hideN hbl
  have HX := hideN hx
  obtain ⟨xp, xl⟩ := x
  obtain ⟨pa, ca, hvl, _⟩ := hv w (Off.refl _ _)
  subst hvl
  have hal := (Below.refl w.heap.size w).alloc (Nat.le_refl _) (.cells #[.int .u32 (xp : Nat), .int .i64 xl] 40)
  have HXB := hideN (Blk.new w #[.int .u32 (xp : Nat), .int .i64 xl] 40)
  have HH1 := hideN (h.below hal)
  have HO1 : Hid (Off (fun k => k = mf) w _) := hideN (Off.of_below (F := fun k => k = mf) hal)
  have q0 := HH1.out.blk.cell (i := 0) rfl
  have hlen' : (fl.length : Int) ≤ 1000 := by omega
  have hmq := fun w => run_eql_map_nil_sl (P := Tryz.prog) w 142 _ _ (some mf) Tryz.underlying142
  clear h hq hF8 hv hnew hap hnm hids hlen hsl hbl hx hal
  go_enter Tryz.func91, Tryz.ntmps91
  go_wp2_with fail
  obtain ⟨W1, hW1⟩ : ∃ W1, w.alloc (.cells #[.int .u32 (xp : Nat), .int .i64 xl] 40) = W1 := ⟨_, rfl⟩
  rw [hW1] at HXB HH1 HO1 ⊢
  obtain ⟨XB, hXB⟩ : ∃ XB, w.heap.size = XB := ⟨_, rfl⟩
  have HXE : Hid (XB = w.heap.size) := hXB.symm
  rw [hXB] at HXB ⊢
  clear hW1 hXB q0
  go_loopw [25] (fun iv wr => ∃ (j : Nat) (vi' : List UInt8 → Value), j ≤ fl.length ∧ iv = .int .i64 j ∧ Hid (NAtR wr N mf mb vi' pi Fi ((fl.take j).reverse ++ fs) bs) ∧ Hid (∀ k, rFoot N mf mb vi' Fi ((fl.take j).reverse ++ fs) bs k → rFoot N mf mb vi Fi fs bs k ∨ w.heap.size ≤ k) ∧ Hid (Off (fun k => k = mf) w wr) ∧ Hid (Blk wr XB #[.int .u32 (xp : Nat), .int .i64 xl] 40)) (fun iv _ => fl.length - (intOf iv).toNat)
  case atStart => exact ⟨0, vi, Nat.zero_le _, rfl, HH1.out, fun k hk => .inl hk, HO1.out, HXB.out⟩
  case round =>
    clear HH1 HO1 HXB
    obtain ⟨j, vi', hj, rfl, HN, HFT, HO, HXB⟩ := hrel
    by_cases hlt : j < fl.length
    · have hlt' : (j : Int) < (fl.length : Int) := by omega
      have hj0 : (0 : Int) ≤ (j : Int) := by omega
      obtain ⟨_, _, hve, hcell⟩ := HV.out wr HO.out
      obtain ⟨rfl, rfl⟩ : pa = _ ∧ ca = _ := by simpa using hve
      obtain ⟨b, o, v, rfl, hr⟩ := hcell j hlt
      have HTK := hideN (List.take_succ_eq_append_getElem hlt)
      have hmem := List.getElem_mem hlt
      have HNJ := hideN (HNM.out _ hmem)
      have HIJ := hideN (HIDS.out _ hmem)
      have HGJ : Hid (∀ g ∈ (fl.take j).reverse ++ fs, g.1 ≠ fl[j].1) := fun g hg => by
        rcases List.mem_append.1 hg with hg | hg
        · have hg' := List.mem_reverse.1 hg
          obtain ⟨i, hi, rfl⟩ := List.getElem_of_mem hg'
          rw [List.length_take] at hi
          rw [List.getElem_take]
          exact (List.pairwise_iff_getElem.1 HAP.out) i j (by omega) hlt (by omega)
        · exact HNEW.out _ hmem g hg
      obtain ⟨⟨r1, rl, rp, ids⟩, hxj⟩ : ∃ x, fl[j] = x := ⟨_, rfl⟩
      rw [hxj] at hr HTK HNJ HIJ HGJ
      simp only at HNJ HIJ HGJ
      obtain ⟨c0, c1, c2, c3⟩ := And.intro hr.c0 (And.intro hr.c1 (And.intro hr.c2 hr.c3))
      simp only at c0 c1 c2 c3
      have hids := hr.ids
      simp only at hids
      have HIW := hideN hids
      obtain ⟨pv, cv, hvv, _⟩ := hids
      subst hvv
      obtain ⟨idl, hidl⟩ : ∃ idl, ids.length = idl := ⟨_, rfl⟩
      have HIDL := hideN hidl
      rw [hidl] at c3 HIW
      obtain ⟨X, hX⟩ : ∃ X : ByteArray, (⟨r1.toArray⟩ : ByteArray) = X := ⟨_, rfl⟩
      have HXX := hideN hX
      have hXs : X.size ≤ 50000 := by
        rw [← hX]
        show r1.toArray.size ≤ 50000
        rw [List.size_toArray]
        exact HNJ.out
      rw [hX] at c0
      have HXS := hideN hXs
      clear hcell hve hmem hxj hr hidl hX hXs
      have hal := (Below.refl wr.heap.size wr).alloc (Nat.le_refl _) (.cells #[.string X, .int .i64 rl, .int .u32 rp, .slice pv idl cv] 26)
      have hrb := Blk.new wr #[.string X, .int .i64 rl, .int .u32 rp, .slice pv idl cv] 26
      have HN2 := hideN (HN.out.below hal)
      have HO2 : Hid (Off (fun k => k = mf) w _) := hideN (HO.out.trans (Off.of_below (F := fun k => k = mf) hal) (fun _ _ h => h))
      have HX2 := hideN (HXB.out.next hal)
      have HI2 := hideN (HIW.out.below hal)
      have HSZ : Hid (w.heap.size ≤ wr.heap.size ∧ XB < wr.heap.size ∧ mf < wr.heap.size ∧ mb < wr.heap.size ∧ N < wr.heap.size) := ⟨HO.out.size, HXB.out.lt, HN.out.files.lt, HN.out.bins.lt, HN.out.blk.lt⟩
      have HLT : Hid (∀ k, rFoot N mf mb vi' Fi ((fl.take j).reverse ++ fs) bs k → k < wr.heap.size) := HN.out.lt
      have k0 := hrb.cell (i := 0) rfl
      have k1 := hrb.cell (i := 1) rfl
      have k2 := hrb.cell (i := 2) rfl
      have k3 := hrb.cell (i := 3) rfl
      have HRB := hideN hrb
      clear hal hrb HN HO HXB HIW
      go_wp2_with fail
      obtain ⟨W2, hW2⟩ : ∃ W2, wr.alloc (.cells #[.string X, .int .i64 rl, .int .u32 rp, .slice pv idl cv] 26) = W2 := ⟨_, rfl⟩
      have HS2 : Hid (W2.heap.size = wr.heap.size + 1) := by show _ = _; rw [← hW2]; simp
      rw [hW2] at HN2 HO2 HX2 HI2 HRB k0 k1 k2 k3 ⊢
      obtain ⟨RB, hRB⟩ : ∃ RB, wr.heap.size = RB := ⟨_, rfl⟩
      rw [hRB] at HSZ HLT HRB HS2 k0 k1 k2 k3 ⊢
      clear hW2 hRB c0 c1 c2 c3
      refine (copyOf_any X rl rp (.slice pv idl cv) ids W2 HI2.out HIJ.out).mono ?_
      rintro e w3 ⟨v3, rfl, hi3, hb3⟩
      have HI3 := hideN hi3
      obtain ⟨p3, c3, hv3, _⟩ := hi3
      rw [HIDL.out] at hv3
      subst hv3
      have hr3 := HRB.out.next hb3
      have HN3 := hideN (HN2.out.below hb3)
      have HO3 : Hid (Off (fun k => k = mf) w w3) := HO2.out.trans (Off.of_below (F := fun k => k = mf) hb3) (fun _ _ h => h)
      have HX3 := hideN (HX2.out.next hb3)
      have HS3 : Hid (RB < W2.heap.size ∧ W2.heap.size ≤ w3.heap.size) := ⟨by have := HS2.out; omega, hb3.size⟩
      have y0 := hr3.cell (i := 0) rfl
      have y1 := hr3.cell (i := 1) rfl
      have y2 := hr3.cell (i := 2) rfl
      have y3 := hr3.cell (i := 3) rfl
      have z0 := hr3.frozen 0
      have z1 := hr3.frozen 1
      have z2 := hr3.frozen 2
      have z3 := hr3.frozen 3
      have hr4 := (((hr3.set 0 (.string X)).set 1 (.int .i64 rl)).set 2 (.int .u32 rp)).set 3 (.slice p3 idl c3)
      have hO4 := ((((Off.of_below (F := fun k => k = RB) (Below.refl w3.heap.size w3)).setCell (p := ⟨RB, 0, none⟩) (.inl rfl) (.string X)).setCell (p := ⟨RB, 1, none⟩) (.inl rfl) (.int .i64 rl)).setCell (p := ⟨RB, 2, none⟩) (.inl rfl) (.int .u32 rp)).setCell (p := ⟨RB, 3, none⟩) (.inl rfl) (.slice p3 idl c3)
      have HN4 := hideN (HN3.out.off hO4 (fun k hk e => by have := HLT.out k hk; omega))
      have HO4 : Hid (Off (fun k => k = mf) w _) := hideN (HO3.out.trans hO4 (fun i hi e => by have := HSZ.out; omega))
      have HX4 := hideN (hO4.blk HX3.out (fun e => by have := HSZ.out; omega))
      have HI4 := hideN (HI3.out.off hO4 (fun k hk e => by have := HS3.out; omega))
      have HR4 := hideN hr4
      have x0 := hr4.cell (i := 0) rfl
      clear hb3 HN2 HO2 HX2 HI2 hr3 hr4 hO4 HN3 HO3 HX3 HI3 k0 k1 k2 k3 HRB
      go_wp2_with fail
      obtain ⟨W4, hW4⟩ : ∃ W4, ((((w3.setCell ⟨RB, 0, none⟩ (.string X)).setCell ⟨RB, 1, none⟩ (.int .i64 rl)).setCell ⟨RB, 2, none⟩ (.int .u32 rp)).setCell ⟨RB, 3, none⟩ (.slice p3 idl c3)) = W4 := ⟨_, rfl⟩
      have HS4 : Hid (W4.heap.size = w3.heap.size) := by show _ = _; rw [← hW4]; simp
      rw [hW4] at HN4 HO4 HX4 HI4 HR4 ⊢
      clear hW4 x0 y0 y1 y2 y3 z0 z1 z2 z3
      refine (cloneText_any X W4 HXS.out).mono ?_
      rintro e w5 ⟨rfl, hb5⟩
      have hr5 := HR4.out.next hb5
      have hr6 := hr5.set 0 (.string X)
      have hO6 : Off (fun k => k = RB) w5 (w5.setCell ⟨RB, 0, none⟩ (.string X)) := (Off.of_below (F := fun k => k = RB) (Below.refl w5.heap.size w5)).setCell (p := ⟨RB, 0, none⟩) (.inl rfl) (.string X)
      have HN6 := hideN ((HN4.out.below hb5).off hO6 (fun k hk e => by have := HLT.out k hk; omega))
      have HO6 : Hid (Off (fun k => k = mf) w _) := hideN ((HO4.out.trans (Off.of_below (F := fun k => k = mf) hb5) (fun _ _ h => h)).trans hO6 (fun i hi e => by have := HSZ.out; omega))
      have HX6 := hideN (hO6.blk (HX4.out.next hb5) (fun e => by have := HSZ.out; omega))
      have HI6 := hideN ((HI4.out.below hb5).off hO6 (fun k hk e => by have := HS3.out; omega))
      have HS5 : Hid (W4.heap.size ≤ w5.heap.size) := hb5.size
      have y0 := hr5.cell (i := 0) rfl
      have z0 := hr5.frozen 0
      have HR6 := hideN hr6
      have x0 := hr6.cell (i := 0) rfl
      have x1 := hr6.cell (i := 1) rfl
      have x2 := hr6.cell (i := 2) rfl
      have x3 := hr6.cell (i := 3) rfl
      have q0 := HN6.out.blk.cell (i := 0) rfl
      clear hb5 HN4 HO4 HX4 HI4 HR4 hr5 hr6 hO6
      go_wp2_with fail
      obtain ⟨W6, hW6⟩ : ∃ W6, w5.setCell ⟨RB, 0, none⟩ (.string X) = W6 := ⟨_, rfl⟩
      have HS6 : Hid (W6.heap.size = w5.heap.size) := by show _ = _; rw [← hW6]; simp
      rw [hW6] at HN6 HO6 HX6 HI6 HR6 x0 x1 x2 x3 q0 ⊢
      clear hW6 y0 z0
      have hrw : rwV (rwR (r1, rl, rp, ids) (.slice p3 idl c3)) = .agg #[.string X, .int .i64 rl, .int .u32 rp, .slice p3 idl c3] := by
        unfold rwR rwV
        simp only
        rw [HXX.out]
      have hwn : WfNm r1 := by show r1.length ≤ maxLen; have := HNJ.out; unfold maxLen; omega
      have hflen : ((((fl.take j).reverse ++ fs).map fun r => (r.1, rwR r (vi' r.1)))).length < maxLen := by
        rw [List.length_map, List.length_append, List.length_reverse, List.length_take]
        have h1 := HLEN.out
        have h2 := HSL.out
        unfold maxLen
        omega
      obtain ⟨w7, hst, hOf7, hg7⟩ := (ofS_drew HN6.out.files).store Tryz.underlying142 hwn (rwR (r1, rl, rp, ids) (.slice p3 idl c3)) hflen
      change (Instr.mapUpdate 142 (.map (some mf)) (.string ⟨r1.toArray⟩) (rwV (rwR (r1, rl, rp, ids) (.slice p3 idl c3)))).run Tryz.prog _ = _ at hst
      rw [HXX.out, hrw] at hst
      have HOF7 : Hid (strRcps.Of w7 mf ((r1, rwR (r1, rl, rp, ids) (.slice p3 idl c3)) :: ((fl.take j).reverse ++ fs).map fun r => (r.1, rwR r (vi' r.1)))) := hOf7 _ (by
        rw [List.filter_eq_self.2 (fun y hy => by
          obtain ⟨f, hfm, rfl⟩ := List.mem_map.1 hy
          simpa using HGJ.out f hfm)])
      have HO67 : Hid (Off (fun k => k = mf) W6 w7) := off_of_grown (grown_drew hg7) rfl
      clear hrw hwn hflen hOf7 hg7
      go_region
      all_goals
        go_wp2_with fail
        have hnat := NAtR.file (r := (r1, rl, rp, ids)) (v := .slice p3 idl c3) HN6.out HO67.out HOF7.out HGJ.out (HI6.out.at.off HO67.out (fun hne k hk e => by have h1 := HI6.out.own hne hk; have h2 := HS3.out; have h3 := HSZ.out; omega)) (fun hne k hk => by
          have h1 := HI6.out.own hne hk
          refine ⟨Nat.lt_of_lt_of_le h1.2 HO67.out.size, fun hf => ?_⟩
          have := HLT.out k hf
          have h2 := HS3.out
          omega)
        have hft : ∀ k, rFoot N mf mb (fun n => if n = r1 then .slice p3 idl c3 else vi' n) Fi ((r1, rl, rp, ids) :: ((fl.take j).reverse ++ fs)) bs k → rFoot N mf mb vi Fi fs bs k ∨ w.heap.size ≤ k := fun k hk => by
          rcases rFoot_file (r := (r1, rl, rp, ids)) HGJ.out hk with h | ⟨hne, h⟩
          · exact HFT.out k h
          · have h1 := HI6.out.own hne h
            have h2 := HS3.out
            have h3 := HSZ.out
            exact .inr (by omega)
        have htk : (r1, rl, rp, ids) :: ((fl.take j).reverse ++ fs) = (fl.take (j + 1)).reverse ++ fs := by rw [HTK.out, List.reverse_append]; rfl
        rw [htk] at hnat hft
        have HN7 := hideN hnat
        have HFT7 := hideN hft
        have HO7 : Hid (Off (fun k => k = mf) w w7) := HO6.out.trans HO67.out (fun _ _ h => h)
        have HX7 := hideN (HO67.out.blk HX6.out (fun e => by have h1 := HXE.out; have h2 := HH.out.files.lt; omega))
        clear hst hnat hft htk x0 x1 x2 x3 q0
        go_roundw
        case rel => exact ⟨j + 1, _, hlt, by go_num, HN7.out, HFT7.out, HO7.out, HX7.out⟩
        case measure => simp [intOf]; omega
    · have hge : (fl.length : Int) ≤ (j : Int) := by omega
      rw [List.take_of_length_le (by omega)] at HN HFT
      have q1 := HN.out.blk.cell (i := 1) rfl
      have e0 := HXB.out.cell (i := 0) rfl
      have e1 := HXB.out.cell (i := 1) rfl
      obtain ⟨w8, hst, hOf8, hg8⟩ := (ofB_drew HN.out.bins).store Tryz.underlying143 HX.out (some q) (by rw [List.length_map]; have := HBL.out; unfold maxLen; omega)
      change (Instr.mapUpdate 143 (.map (some mb)) (idV (xp : Nat) xl) (.pointer (some q))).run Tryz.prog _ = _ at hst
      have HOF8 : Hid (idBins.Of w8 mb (((xp, xl), some q) :: (bs.filter (fun b => !decide (b.1 = (xp, xl)))).map fun b => (b.1, some (pi b.1)))) := hOf8 _ (by
        rw [List.filter_map]
        exact List.Perm.refl _)
      have HO8 : Hid (Off (fun k => k = mb) wr w8) := off_of_grown (grown_drew hg8) rfl
      clear hOf8 hg8
      go_wp2_with fail
      go_region
      all_goals
        go_wp2_with fail
        refine bodyPost_end (v := .tuple #[]) (by simp [results, Tryz.results91, go_sem]) rfl ⟨rfl, vi', _, _, NAtR.rep HN.out HO8.out HOF8.out ((HQ.out.off HO.out (fun k hk e => HF8.out k hk (.inr (.inl e)))).off HO8.out (fun k hk e => HF8.out k hk (.inr (.inr (.inl e))))) (fun k hk hf => ?_), fun k hk => ?_, ?_⟩
        · rcases HFT.out k hf with h | h
          · exact HF8.out k hk h
          · have := HQ.out.lt k hk; omega
        · rcases rFoot_rep hk with h | h
          · rcases HFT.out k h with h | h
            · exact .inl h
            · exact .inr (.inr h)
          · exact .inr (.inl h)
        · exact HO.out.two HO8.out
end Go.Proofs.YtjdobbjdlighpaaGreatDoor
namespace Go.Proofs.YtjdobbjdlighpaaGreatDoor
open Go.RowKit Go.Maps

def RecPost (a : Nat → Addr) (nm : ByteArray) (w : World) (r : Option (List UInt8)) (e : Ending) (w' : World) : Prop :=
  (match r with
    | none => ∃ ev, e = .returned (.tuple #[rcpV ⟨#[]⟩ 0 0 (.slice none 0 0), ev]) ∧ ErrIn w.heap.size w' a ev (5, -1)
    | some s => ∃ v, e = .returned (.tuple #[rcpV nm (s.length : Int) ((pmore 2166136261 s : Nat) : Int) v, .nilIface]) ∧ IdsIn w.heap.size w' v (idsOf s)) ∧ Below w.heap.size w w'
end Go.Proofs.YtjdobbjdlighpaaGreatDoor
