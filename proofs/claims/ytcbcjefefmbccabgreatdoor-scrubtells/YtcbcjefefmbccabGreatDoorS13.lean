/-
  Own text. The program's bin by contracts: Put, with isPiece, newPiece, strings.Clone.
  Own text. The program's bin by contracts: Sweep, with its closure and maps.DeleteFunc.
-/
import Derived.Test.YtcbcjefefmbccabGreatDoorS12
import Derived.Test.YtcbcjefefmbccabGreatDoorS06
import Derived.Test.YtcbcjefefmbccabGreatDoorS08
namespace Go.Proofs.YtcbcjefefmbccabGreatDoor
open Go.RowKit Go.Maps

def isPc (n : Nat) : Bool := decide (1 ≤ n ∧ n ≤ 64)
set_option maxRecDepth 100000 in
set_option maxHeartbeats 4000000 in
theorem isPiece_any (s : ByteArray) (w : World) (hs : s.size ≤ 50000) : Calls Tryz.prog 176 #[.string s] w fun e w' => e = .returned (.bool (isPc s.size)) ∧ w' = w := by
  by_cases h0 : s = ⟨#[]⟩
  · subst h0
    go_enter Tryz.func176, Tryz.ntmps176
    go_wp2_with fail
    go_ret
    exact ⟨rfl, rfl⟩
  · have hn : s.size ≠ 0 := fun e => h0 (by
      have : s.data = #[] := Array.eq_empty_of_size_eq_zero e
      cases s
      simp_all)
    have hne : ¬ s.toList = [] := fun e => by
      rw [ByteArray.toList_eq] at e
      apply hn
      have : s.data.toList.length = 0 := by rw [e]; rfl
      simpa using this
    by_cases h64 : s.size ≤ 64
    · have h64' : (s.size : Int) ≤ 64 := by omega
      have hp : Hid (isPc s.size = true) := decide_eq_true ⟨by omega, h64⟩
      go_enter Tryz.func176, Tryz.ntmps176
      go_wp2_with fail
      go_ret
      refine ⟨?_, rfl⟩
      rw [hp.out]
      show Ending.returned (Value.bool (!s.toList.isEmpty)) = _
      rw [List.isEmpty_eq_false_iff.2 hne]
      rfl
    · have h64' : ¬ (s.size : Int) ≤ 64 := by omega
      have hp : Hid (isPc s.size = false) := decide_eq_false (fun h => h64 h.2)
      go_enter Tryz.func176, Tryz.ntmps176
      go_wp2_with fail
      go_ret
      exact ⟨by rw [hp.out]; rfl, rfl⟩
set_option maxRecDepth 100000 in
theorem cloneText_any (s : ByteArray) (w : World) (hs : s.size ≤ 50000) : Calls Tryz.prog 136 #[.string s] w fun e w' => e = .returned (.string s) ∧ Below w.heap.size w w' := by
  go_enter Tryz.func136, Tryz.ntmps136
  go_wp2_with (go_at_call 181; refine (Tryz.stringslite_Clone s _ (by omega)).mono ?_; rintro e w1 ⟨rfl, hb1⟩)
  go_ret
  exact ⟨rfl, hb1⟩
set_option maxRecDepth 100000 in
set_option maxHeartbeats 4000000 in
theorem newPiece_any (s : ByteArray) (u : Int) (w : World) (hs : s.size ≤ 50000) : Calls Tryz.prog 177 #[.string s, .int .i64 u] w fun e w' => e = .returned (.agg #[.string s, .int .i64 u]) ∧ Below w.heap.size w w' := by
  have hal := (Below.refl w.heap.size w).alloc (Nat.le_refl _) (.cells #[.string ⟨#[]⟩, .int .i64 0] 153)
  have hB := Blk.new w #[.string ⟨#[]⟩, .int .i64 0] 153
  go_enter Tryz.func177, Tryz.ntmps177
  go_wp2_with (go_at_call 136; refine (cloneText_any s _ hs).mono ?_; rintro e w1 ⟨rfl, hb1⟩; have hB1 := hB.next hb1; have c0 := hB1.cell (i := 0) rfl; have c1 := hB1.cell (i := 1) rfl; have f0 := hB1.frozen 0; have f1 := hB1.frozen 1)
  have hS := (hB1.set 0 (.string s)).set 1 (.int .i64 u)
  have d0 := hS.cell (i := 0) rfl
  have d1 := hS.cell (i := 1) rfl
  have hb2 : Below w.heap.size w ((w1.setCell ⟨w.heap.size, 0, none⟩ (.string s)).setCell ⟨w.heap.size, 1, none⟩ (.int .i64 u)) := ((hal.trans (hb1.mono hal.size)).setCell (p := ⟨w.heap.size, 0, none⟩) (Nat.le_refl _) _).setCell (p := ⟨w.heap.size, 1, none⟩) (Nat.le_refl _) _
  generalize ((w1.setCell ⟨w.heap.size, 0, none⟩ (.string s)).setCell ⟨w.heap.size, 1, none⟩ (.int .i64 u)) = W at *
  exact bodyPost_ret (v := .agg #[.string s, .int .i64 u]) (by simp [results, Tryz.results177, go_sem, d0, d1]) rfl ⟨rfl, hb2⟩

def PPost (a : Nat → Addr) (w : World) (p : Addr) (F : Nat → Prop) (r : ((Nat × Int) × Bool × Int) × List Hd) (e : Ending) (w' : World) : Prop :=
  ∃ ev F', e = .returned (.tuple #[idV (r.1.1.1 : Nat) r.1.1.2, .bool r.1.2.1, ev]) ∧ ErrIn w.heap.size w' a ev (r.1.2.2, -1) ∧ PBin0 w' p F' r.2 ∧ (∀ k, F' k → F k ∨ w.heap.size ≤ k) ∧ Off F w w'

theorem hIns_perm (l : List Hd) (h : Hd) : (hIns l h).Perm (h :: l) := by
  unfold hIns
  refine List.perm_middle.trans ?_
  rw [List.take_append_drop]

set_option maxRecDepth 100000 in
set_option maxHeartbeats 4000000 in
theorem pPut_bound {a : Nat → Addr} (s : ByteArray) (p : Addr) (F : Nat → Prop) (l : List Hd) (w : World) (hs : s.size ≤ 50000) (hE : ErrE [1, 6, 9] w a) (hP : PBin0 w p F l) (hn : ¬ (1 ≤ s.size ∧ s.size ≤ 64)) :
    Calls Tryz.prog 133 #[.pointer (some p), .string s] w (PPost a w p F (hPut l s.data.toList)) := by
  obtain ⟨B, b, rfl, hB, hM, hne, rfl⟩ := hP
  have hBl := hB.lt
  have hbl := hM.lt
  have hal := (Below.refl w.heap.size w).alloc (Nat.le_refl _) (.cells #[.int .u32 0, .int .i64 0] 25)
  have hR := Blk.new w #[.int .u32 0, .int .i64 0] 25
  have HG : Hid (∀ W', Below w.heap.size w W' → ∀ i, ([1, 6, 9] : List Nat).contains i = true → W'.cell? ⟨errG i, 0, none⟩ = some (sentV a i)) := fun W' hb i hi => (hE.below hb (Nat.le_refl _)).glob i hi
  have HB0 : Hid (∀ W, Below w.heap.size w W → PBin0 W ⟨B, 0, none⟩ (fun k => k = B ∨ k = b) l) := fun W h => PBin0.off ⟨B, b, rfl, hB, hM, hne, rfl⟩ (Off.of_below (F := fun _ => False) h) (fun _ _ h => h)
  have hsl : s.data.toList.length = s.size := by rw [Array.length_toList]; rfl
  have e2 : Hid (hPut l s.data.toList = (((0, 0), false, 2), l)) := by
    show _ = _
    unfold hPut
    rw [if_pos (by rw [hsl]; omega)]
  have HPC : Hid (isPc s.size = false) := decide_eq_false hn
  have g1 : (w.alloc (.cells #[.int .u32 0, .int .i64 0] 25)).cell? ⟨5, 0, none⟩ = some (sentV a 1) := HG.out _ hal 1 (by decide)
  have z0 := hR.cell (i := 0) rfl
  have z1 := hR.cell (i := 1) rfl
  have f0 := hR.frozen 0
  have f1 := hR.frozen 1
  have hip := isPiece_any s (w.alloc (.cells #[.int .u32 0, .int .i64 0] 25)) hs
  rw [HPC.out] at hip
  go_enter Tryz.func133, Tryz.ntmps133
  go_wp2_with (go_at_call 176; refine hip.mono ?_; rintro e w' ⟨rfl, rfl⟩)
  go_region
  all_goals
    have hb := below_drew hal
    go_wp2_with fail
    exact bodyPost_ret (v := .tuple #[idV 0 0, .bool false, sentV a 1]) (by simp [results, Tryz.results133, go_sem, z0, z1]) rfl ⟨_, _, by rw [e2.out]; rfl, by rw [e2.out]; exact errIn_sent _ _ a 1 (by decide) rfl, by rw [e2.out]; exact HB0.out _ hb, fun k hk => .inl hk, Off.of_below hb⟩

set_option maxRecDepth 100000 in
set_option maxHeartbeats 4000000 in
theorem pPut_full {a : Nat → Addr} (s : ByteArray) (p : Addr) (F : Nat → Prop) (l : List Hd) (w : World) (hs : s.size ≤ 50000) (hE : ErrE [1, 6, 9] w a) (hP : PBin0 w p F l) (hs1 : 1 ≤ s.size) (hs2 : s.size ≤ 64) (hf : hFind l (idOfL s.data.toList) = none) (hfull : 250 ≤ l.length) :
    Calls Tryz.prog 133 #[.pointer (some p), .string s] w (PPost a w p F (hPut l s.data.toList)) := by
  obtain ⟨B, b, rfl, hB, hM, hne, rfl⟩ := hP
  have hBl := hB.lt
  have hbl := hM.lt
  have hal := (Below.refl w.heap.size w).alloc (Nat.le_refl _) (.cells #[.int .u32 0, .int .i64 0] 25)
  have hR := Blk.new w #[.int .u32 0, .int .i64 0] 25
  have HG : Hid (∀ W', Below w.heap.size w W' → ∀ i, ([1, 6, 9] : List Nat).contains i = true → W'.cell? ⟨errG i, 0, none⟩ = some (sentV a i)) := fun W' hb i hi => (hE.below hb (Nat.le_refl _)).glob i hi
  have HB0 : Hid (∀ W, Below w.heap.size w W → PBin0 W ⟨B, 0, none⟩ (fun k => k = B ∨ k = b) l) := fun W h => PBin0.off ⟨B, b, rfl, hB, hM, hne, rfl⟩ (Off.of_below (F := fun _ => False) h) (fun _ _ h => h)
  have hsl : s.data.toList.length = s.size := by rw [Array.length_toList]; rfl
  have e2 : Hid (hPut l s.data.toList = (((0, 0), false, 7), l)) := by
    show _ = _
    unfold hPut
    rw [if_neg (by rw [hsl]; omega), hf]
    simp only [if_pos hfull]
  have HPC : Hid (isPc s.size = true) := decide_eq_true ⟨hs1, hs2⟩
  have hip := isPiece_any s (w.alloc (.cells #[.int .u32 0, .int .i64 0] 25)) hs
  rw [HPC.out] at hip
  have hid := id_any s (w.alloc (.cells #[.int .u32 0, .int .i64 0] 25)) (by unfold maxLen; omega)
  obtain ⟨P, hP⟩ : ∃ P, pmore 2166136261 s.data.toList = P := ⟨_, rfl⟩
  have HX : Hid (idOfL s.data.toList = (P, (s.size : Int))) := by show _ = _; unfold idOfL; rw [hP, hsl]
  have hxw : WfID (P, (s.size : Int)) := ⟨by rw [← hP]; exact pmore_lt _ (by decide) _, by show (-9223372036854775808 : Int) ≤ s.size; omega, by show (s.size : Int) ≤ 9223372036854775807; omega⟩
  rw [hP] at hid
  rw [HX.out] at hf
  clear hP
  have hl : ∀ W : World, idPieces.Of W b l → (Instr.lookup 149 (.map (some b)) (idV (P : Nat) (s.size : Int)) true).run Tryz.prog W = .ok (.tuple #[pieceV (0, []), .bool false]) W := fun W h => h.look_none Tryz.underlying149 (pieceZero W) hxw (hFind_not hf)
  go_enter Tryz.func133, Tryz.ntmps133
  go_wp2_with (first
    | (go_at_call 176; refine hip.mono ?_; rintro e w' ⟨rfl, rfl⟩)
    | (go_at_call 125; refine hid.mono ?_; rintro e w1 ⟨rfl, hb1⟩))
  have hal1 : Below w.heap.size w w1 := hal.trans (hb1.mono hal.size)
  have halI := (Below.refl _ w1).alloc (Nat.le_refl _) (.cells #[.int .u32 (P : Nat), .int .i64 (s.size : Int)] 25)
  have hI := Blk.new w1 #[.int .u32 (P : Nat), .int .i64 (s.size : Int)] 25
  have hR1 := (hR.next hb1).next halI
  have hB1 := hB.next (hal1.trans (halI.mono hal1.size))
  have hM1 := of_below hM (hal1.trans (halI.mono hal1.size))
  have hbW := hal1.trans (halI.mono hal1.size)
  have hRI : w.heap.size < w1.heap.size := Nat.lt_of_lt_of_le hR.lt hb1.size
  generalize hW : w1.alloc (.cells #[.int .u32 (P : Nat), .int .i64 (s.size : Int)] 25) = W at *
  have hal2 := (Below.refl W.heap.size W).alloc (Nat.le_refl _) (.cells #[.string ⟨#[]⟩, .int .i64 0] 153)
  have hI2 := hI.next hal2
  have hB2 := hB1.next hal2
  have hM2 := of_below hM1 hal2
  have hP2 := Blk.new W #[.string ⟨#[]⟩, .int .i64 0] 153
  have x0 := hI.cell (i := 0) rfl
  have x1 := hI.cell (i := 1) rfl
  have q0 := hB1.cell (i := 0) rfl
  have y0 := hI2.cell (i := 0) rfl
  have y1 := hI2.cell (i := 1) rfl
  have r0 := hB2.cell (i := 0) rfl
  have p0 := hP2.cell (i := 0) rfl
  have p1 := hP2.cell (i := 1) rfl
  have f0 := hP2.frozen 0
  have f1 := hP2.frozen 1
  have l1 := hl W.drew (of_drew hM1)
  have l2 := hl (W.alloc (.cells #[.string ⟨#[]⟩, .int .i64 0] 153)).drew (of_drew hM2)
  go_region
  all_goals
    have hal3 := (Below.refl W.heap.size W).alloc (Nat.le_refl _) (.cells #[.string ⟨#[]⟩, .int .i64 0] 153)
    have hM3 := of_drew (of_below hM1 hal3)
    have hb3 := below_drew (hbW.trans (hal3.mono hbW.size))
    have hPd : Blk (W.alloc (.cells #[.string ⟨#[]⟩, .int .i64 0] 153)).drew W.heap.size #[.string ⟨#[]⟩, .int .i64 0] 153 := Blk.new W _ _
    have hId : Blk (W.alloc (.cells #[.string ⟨#[]⟩, .int .i64 0] 153)).drew w1.heap.size #[.int .u32 (P : Nat), .int .i64 (s.size : Int)] 25 := hI.next (below_drew hal3)
    have hRd : Blk (W.alloc (.cells #[.string ⟨#[]⟩, .int .i64 0] 153)).drew w.heap.size #[.int .u32 0, .int .i64 0] 25 := hR1.next (below_drew hal3)
    have hBd : Blk (W.alloc (.cells #[.string ⟨#[]⟩, .int .i64 0] 153)).drew B #[.map (some b)] 151 := hB1.next (below_drew hal3)
    generalize (W.alloc (.cells #[.string ⟨#[]⟩, .int .i64 0] 153)).drew = W3 at *
    have hIW : w1.heap.size < W.heap.size := hI.lt
    have t0 := hPd.cell (i := 0) rfl
    have t1 := hPd.cell (i := 1) rfl
    have ft0 := hPd.frozen 0
    have ft1 := hPd.frozen 1
    have z0 := hRd.cell (i := 0) rfl
    have z1 := hRd.cell (i := 1) rfl
    have fz0 := hRd.frozen 0
    have fz1 := hRd.frozen 1
    have v0 := hBd.cell (i := 0) rfl
    clear hl l1 l2 hP2 hal2 hI2 hB2 hM2 x0 x1 q0 y0 y1 r0 p0 p1 f0 f1 hip hid
    have g6 : W3.cell? ⟨1, 0, none⟩ = some (sentV a 6) := HG.out _ hb3 6 (by decide)
    have hfull' : (250 : Int) ≤ (l.length : Int) := by omega
    go_wp2_with (first
      | (at_len; refine wp_len_kit idPieces _ rfl _ 149 rfl 153 Tryz.underlying149 b l rfl hM3 ?_)
      | go_in)
    have hgl : 1 < w.heap.size := lt_of_cell (hE.glob 6 (by decide))
    have gx : (W3.setCell ⟨w.heap.size, 0, none⟩ (.int .u32 0)).cell? ⟨1, 0, none⟩ = some (sentV a 6) := cell_kept g6 (grown_set (grown_refl W3 (some w.heap.size)) 0 _) (lt_of_cell g6) (fun e => by have := Option.some.inj e; simp only at this; omega)
    have hRs := (hRd.set 0 (.int .u32 0)).set 1 (.int .i64 0)
    have s0 := hRs.cell (i := 0) rfl
    have s1 := hRs.cell (i := 1) rfl
    have hb4 := below_drew ((hb3.setCell (p := ⟨w.heap.size, 0, none⟩) (Nat.le_refl _) (.int .u32 0)).setCell (p := ⟨w.heap.size, 1, none⟩) (Nat.le_refl _) (.int .i64 0))
    clear hgl
    go_region
    all_goals
      go_wp2_with fail
      first
        | exact bodyPost_ret (v := .tuple #[idV 0 0, .bool false, sentV a 6]) (by simp [results, Tryz.results133, go_sem, s0, s1]) rfl ⟨_, _, by rw [e2.out]; rfl, by rw [e2.out]; exact errIn_sent _ _ a 6 (by decide) rfl, by rw [e2.out]; exact HB0.out _ hb4, fun k hk => .inl hk, Off.of_below hb4⟩
        | exact bodyPost_ret (v := .tuple #[idV 0 0, .bool false, sentV a 6]) (by simp [results, Tryz.results133, go_sem, z0, z1]) rfl ⟨_, _, by rw [e2.out]; rfl, by rw [e2.out]; exact errIn_sent _ _ a 6 (by decide) rfl, by rw [e2.out]; exact HB0.out _ (below_drew hb3), fun k hk => .inl hk, Off.of_below (below_drew hb3)⟩

set_option maxRecDepth 100000 in
set_option maxHeartbeats 4000000 in
theorem pPut_clash {a : Nat → Addr} (s : ByteArray) (p : Addr) (F : Nat → Prop) (l : List Hd) (w : World) (hs : s.size ≤ 50000) (hE : ErrE [1, 6, 9] w a) (hP : PBin0 w p F l) (hs1 : 1 ≤ s.size) (hs2 : s.size ≤ 64) (k : Nat) (u : Int) (t : List UInt8) (hf : hFind l (idOfL s.data.toList) = some k) (hk : k < l.length) (hkt : l[k].2 = (u, t)) (ht : t ≠ s.data.toList) :
    Calls Tryz.prog 133 #[.pointer (some p), .string s] w (PPost a w p F (hPut l s.data.toList)) := by
  obtain ⟨B, b, rfl, hB, hM, hne, rfl⟩ := hP
  have hBl := hB.lt
  have hbl := hM.lt
  have hal := (Below.refl w.heap.size w).alloc (Nat.le_refl _) (.cells #[.int .u32 0, .int .i64 0] 25)
  have hR := Blk.new w #[.int .u32 0, .int .i64 0] 25
  have HG : Hid (∀ W', Below w.heap.size w W' → ∀ i, ([1, 6, 9] : List Nat).contains i = true → W'.cell? ⟨errG i, 0, none⟩ = some (sentV a i)) := fun W' hb i hi => (hE.below hb (Nat.le_refl _)).glob i hi
  have HB0 : Hid (∀ W, Below w.heap.size w W → PBin0 W ⟨B, 0, none⟩ (fun k => k = B ∨ k = b) l) := fun W h => PBin0.off ⟨B, b, rfl, hB, hM, hne, rfl⟩ (Off.of_below (F := fun _ => False) h) (fun _ _ h => h)
  have hsl : s.data.toList.length = s.size := by rw [Array.length_toList]; rfl
  have e2 : Hid (hPut l s.data.toList = (((0, 0), false, 10), l)) := by
    show _ = _
    unfold hPut
    rw [if_neg (by rw [hsl]; omega), hf]
    simp only [List.getElem?_eq_getElem hk, Option.map_some, hkt]
    rw [if_neg (fun e => ht (Option.some.inj e))]
  have hm : (idOfL s.data.toList, (u, t)) ∈ l := by rw [← hkt]; exact (hFind_mem_at hf).2
  have hteq : (t == s.toList) = false := by
    rw [ByteArray.toList_eq, beq_eq_false_iff_ne]
    exact ht
  have hteq2 : ¬ t = s.toList := by
    rw [ByteArray.toList_eq]
    exact ht
  have HPC : Hid (isPc s.size = true) := decide_eq_true ⟨hs1, hs2⟩
  have hip := isPiece_any s (w.alloc (.cells #[.int .u32 0, .int .i64 0] 25)) hs
  rw [HPC.out] at hip
  have hid := id_any s (w.alloc (.cells #[.int .u32 0, .int .i64 0] 25)) (by unfold maxLen; omega)
  obtain ⟨P, hP⟩ : ∃ P, pmore 2166136261 s.data.toList = P := ⟨_, rfl⟩
  have HX : Hid (idOfL s.data.toList = (P, (s.size : Int))) := by show _ = _; unfold idOfL; rw [hP, hsl]
  have hxw : WfID (P, (s.size : Int)) := ⟨by rw [← hP]; exact pmore_lt _ (by decide) _, by show (-9223372036854775808 : Int) ≤ s.size; omega, by show (s.size : Int) ≤ 9223372036854775807; omega⟩
  rw [hP] at hid
  rw [HX.out] at hf hm
  clear hP
  have hl : ∀ W : World, idPieces.Of W b l → (Instr.lookup 149 (.map (some b)) (idV (P : Nat) (s.size : Int)) true).run Tryz.prog W = .ok (.tuple #[pieceV (u, t), .bool true]) W := fun W h => h.look_some Tryz.underlying149 (pieceZero W) hm
  go_enter Tryz.func133, Tryz.ntmps133
  go_wp2_with (first
    | (go_at_call 176; refine hip.mono ?_; rintro e w' ⟨rfl, rfl⟩)
    | (go_at_call 125; refine hid.mono ?_; rintro e w1 ⟨rfl, hb1⟩))
  have hal1 : Below w.heap.size w w1 := hal.trans (hb1.mono hal.size)
  have halI := (Below.refl _ w1).alloc (Nat.le_refl _) (.cells #[.int .u32 (P : Nat), .int .i64 (s.size : Int)] 25)
  have hI := Blk.new w1 #[.int .u32 (P : Nat), .int .i64 (s.size : Int)] 25
  have hR1 := (hR.next hb1).next halI
  have hB1 := hB.next (hal1.trans (halI.mono hal1.size))
  have hM1 := of_below hM (hal1.trans (halI.mono hal1.size))
  have hbW := hal1.trans (halI.mono hal1.size)
  have hRI : w.heap.size < w1.heap.size := Nat.lt_of_lt_of_le hR.lt hb1.size
  generalize hW : w1.alloc (.cells #[.int .u32 (P : Nat), .int .i64 (s.size : Int)] 25) = W at *
  have hal2 := (Below.refl W.heap.size W).alloc (Nat.le_refl _) (.cells #[.string ⟨#[]⟩, .int .i64 0] 153)
  have hI2 := hI.next hal2
  have hB2 := hB1.next hal2
  have hM2 := of_below hM1 hal2
  have hP2 := Blk.new W #[.string ⟨#[]⟩, .int .i64 0] 153
  have x0 := hI.cell (i := 0) rfl
  have x1 := hI.cell (i := 1) rfl
  have q0 := hB1.cell (i := 0) rfl
  have y0 := hI2.cell (i := 0) rfl
  have y1 := hI2.cell (i := 1) rfl
  have r0 := hB2.cell (i := 0) rfl
  have p0 := hP2.cell (i := 0) rfl
  have p1 := hP2.cell (i := 1) rfl
  have f0 := hP2.frozen 0
  have f1 := hP2.frozen 1
  have l1 := hl W.drew (of_drew hM1)
  have l2 := hl (W.alloc (.cells #[.string ⟨#[]⟩, .int .i64 0] 153)).drew (of_drew hM2)
  go_region
  all_goals
    have hal3 := (Below.refl W.heap.size W).alloc (Nat.le_refl _) (.cells #[.string ⟨t.toArray⟩, .int .i64 u] 153)
    have hM3 := of_drew (of_below hM1 hal3)
    have hb3 := below_drew (hbW.trans (hal3.mono hbW.size))
    have hPd : Blk (W.alloc (.cells #[.string ⟨t.toArray⟩, .int .i64 u] 153)).drew W.heap.size #[.string ⟨t.toArray⟩, .int .i64 u] 153 := Blk.new W _ _
    have hId : Blk (W.alloc (.cells #[.string ⟨t.toArray⟩, .int .i64 u] 153)).drew w1.heap.size #[.int .u32 (P : Nat), .int .i64 (s.size : Int)] 25 := hI.next (below_drew hal3)
    have hRd : Blk (W.alloc (.cells #[.string ⟨t.toArray⟩, .int .i64 u] 153)).drew w.heap.size #[.int .u32 0, .int .i64 0] 25 := hR1.next (below_drew hal3)
    have hBd : Blk (W.alloc (.cells #[.string ⟨t.toArray⟩, .int .i64 u] 153)).drew B #[.map (some b)] 151 := hB1.next (below_drew hal3)
    generalize (W.alloc (.cells #[.string ⟨t.toArray⟩, .int .i64 u] 153)).drew = W3 at *
    have hIW : w1.heap.size < W.heap.size := hI.lt
    have t0 := hPd.cell (i := 0) rfl
    have t1 := hPd.cell (i := 1) rfl
    have ft0 := hPd.frozen 0
    have ft1 := hPd.frozen 1
    have z0 := hRd.cell (i := 0) rfl
    have z1 := hRd.cell (i := 1) rfl
    have fz0 := hRd.frozen 0
    have fz1 := hRd.frozen 1
    have v0 := hBd.cell (i := 0) rfl
    clear hl l1 l2 hP2 hal2 hI2 hB2 hM2 x0 x1 q0 y0 y1 r0 p0 p1 f0 f1 hip hid
    have g9 : W3.cell? ⟨9, 0, none⟩ = some (sentV a 9) := HG.out _ hb3 9 (by decide)
    go_wp2_with fail
    have hgl : 9 < w.heap.size := lt_of_cell (hE.glob 9 (by decide))
    have gx : (W3.setCell ⟨w.heap.size, 0, none⟩ (.int .u32 0)).cell? ⟨9, 0, none⟩ = some (sentV a 9) := cell_kept g9 (grown_set (grown_refl W3 (some w.heap.size)) 0 _) (lt_of_cell g9) (fun e => by have := Option.some.inj e; simp only at this; omega)
    have hRs := (hRd.set 0 (.int .u32 0)).set 1 (.int .i64 0)
    have s0 := hRs.cell (i := 0) rfl
    have s1 := hRs.cell (i := 1) rfl
    have hb4 := below_drew ((hb3.setCell (p := ⟨w.heap.size, 0, none⟩) (Nat.le_refl _) (.int .u32 0)).setCell (p := ⟨w.heap.size, 1, none⟩) (Nat.le_refl _) (.int .i64 0))
    clear hgl
    go_region
    all_goals
      go_wp2_with fail
      first
        | exact bodyPost_ret (v := .tuple #[idV 0 0, .bool false, sentV a 9]) (by simp [results, Tryz.results133, go_sem, s0, s1]) rfl ⟨_, _, by rw [e2.out]; rfl, by rw [e2.out]; exact errIn_sent _ _ a 9 (by decide) rfl, by rw [e2.out]; exact HB0.out _ hb4, fun k hk => .inl hk, Off.of_below hb4⟩
        | exact bodyPost_ret (v := .tuple #[idV 0 0, .bool false, sentV a 9]) (by simp [results, Tryz.results133, go_sem, z0, z1]) rfl ⟨_, _, by rw [e2.out]; rfl, by rw [e2.out]; exact errIn_sent _ _ a 9 (by decide) rfl, by rw [e2.out]; exact HB0.out _ (below_drew hb3), fun k hk => .inl hk, Off.of_below (below_drew hb3)⟩

set_option maxRecDepth 100000 in
set_option maxHeartbeats 4000000 in
theorem pPut_same {a : Nat → Addr} (s : ByteArray) (p : Addr) (F : Nat → Prop) (l : List Hd) (w : World) (hs : s.size ≤ 50000) (hE : ErrE [1, 6, 9] w a) (hP : PBin0 w p F l) (hs1 : 1 ≤ s.size) (hs2 : s.size ≤ 64) (hmany : l.length ≤ 250) (k : Nat) (u : Int) (t : List UInt8) (hf : hFind l (idOfL s.data.toList) = some k) (hk : k < l.length) (hkt : l[k].2 = (u, t)) (ht : t = s.data.toList) (hu0 : 0 ≤ u) (hu1 : u ≤ 1000000) :
    Calls Tryz.prog 133 #[.pointer (some p), .string s] w (PPost a w p F (hPut l s.data.toList)) := by
  obtain ⟨B, b, rfl, hB, hM, hne, rfl⟩ := hP
  have hBl := hB.lt
  have hbl := hM.lt
  have hal := (Below.refl w.heap.size w).alloc (Nat.le_refl _) (.cells #[.int .u32 0, .int .i64 0] 25)
  have hR := Blk.new w #[.int .u32 0, .int .i64 0] 25
  have HG : Hid (∀ W', Below w.heap.size w W' → ∀ i, ([1, 6, 9] : List Nat).contains i = true → W'.cell? ⟨errG i, 0, none⟩ = some (sentV a i)) := fun W' hb i hi => (hE.below hb (Nat.le_refl _)).glob i hi
  have HB0 : Hid (∀ W, Below w.heap.size w W → PBin0 W ⟨B, 0, none⟩ (fun k => k = B ∨ k = b) l) := fun W h => PBin0.off ⟨B, b, rfl, hB, hM, hne, rfl⟩ (Off.of_below (F := fun _ => False) h) (fun _ _ h => h)
  have hsl : s.data.toList.length = s.size := by rw [Array.length_toList]; rfl
  have e2 : Hid (hPut l s.data.toList = ((idOfL s.data.toList, false, 0), l.modify k (hUse 1))) := by
    show _ = _
    unfold hPut
    rw [if_neg (by rw [hsl]; omega), hf]
    simp only [List.getElem?_eq_getElem hk, Option.map_some, hkt]
    rw [if_pos (by rw [ht])]
  have hm : (idOfL s.data.toList, (u, t)) ∈ l := by rw [← hkt]; exact (hFind_mem_at hf).2
  have hperm := modify_perm 1 l k hk hM.apart
  rw [(hFind_some hf).2, hkt] at hperm
  simp only at hperm
  have hteq : (t == s.toList) = true := by
    rw [ByteArray.toList_eq, beq_iff_eq]
    exact ht
  have hteq2 : t = s.toList := by
    rw [ByteArray.toList_eq]
    exact ht
  have HT2 : Hid (t = s.toList) := hteq2
  clear hteq2 ht
  have HPC : Hid (isPc s.size = true) := decide_eq_true ⟨hs1, hs2⟩
  have hip := isPiece_any s (w.alloc (.cells #[.int .u32 0, .int .i64 0] 25)) hs
  rw [HPC.out] at hip
  have hid := id_any s (w.alloc (.cells #[.int .u32 0, .int .i64 0] 25)) (by unfold maxLen; omega)
  obtain ⟨P, hP⟩ : ∃ P, pmore 2166136261 s.data.toList = P := ⟨_, rfl⟩
  have HX : Hid (idOfL s.data.toList = (P, (s.size : Int))) := by show _ = _; unfold idOfL; rw [hP, hsl]
  have hxw : WfID (P, (s.size : Int)) := ⟨by rw [← hP]; exact pmore_lt _ (by decide) _, by show (-9223372036854775808 : Int) ≤ s.size; omega, by show (s.size : Int) ≤ 9223372036854775807; omega⟩
  rw [hP] at hid
  rw [HX.out] at hf hm hperm
  clear hP
  have hl : ∀ W : World, idPieces.Of W b l → (Instr.lookup 149 (.map (some b)) (idV (P : Nat) (s.size : Int)) true).run Tryz.prog W = .ok (.tuple #[pieceV (u, t), .bool true]) W := fun W h => h.look_some Tryz.underlying149 (pieceZero W) hm
  go_enter Tryz.func133, Tryz.ntmps133
  go_wp2_with (first
    | (go_at_call 176; refine hip.mono ?_; rintro e w' ⟨rfl, rfl⟩)
    | (go_at_call 125; refine hid.mono ?_; rintro e w1 ⟨rfl, hb1⟩))
  have hal1 : Below w.heap.size w w1 := hal.trans (hb1.mono hal.size)
  have halI := (Below.refl _ w1).alloc (Nat.le_refl _) (.cells #[.int .u32 (P : Nat), .int .i64 (s.size : Int)] 25)
  have hI := Blk.new w1 #[.int .u32 (P : Nat), .int .i64 (s.size : Int)] 25
  have hR1 := (hR.next hb1).next halI
  have hB1 := hB.next (hal1.trans (halI.mono hal1.size))
  have hM1 := of_below hM (hal1.trans (halI.mono hal1.size))
  have hbW := hal1.trans (halI.mono hal1.size)
  have hRI : w.heap.size < w1.heap.size := Nat.lt_of_lt_of_le hR.lt hb1.size
  generalize hW : w1.alloc (.cells #[.int .u32 (P : Nat), .int .i64 (s.size : Int)] 25) = W at *
  have hal2 := (Below.refl W.heap.size W).alloc (Nat.le_refl _) (.cells #[.string ⟨#[]⟩, .int .i64 0] 153)
  have hI2 := hI.next hal2
  have hB2 := hB1.next hal2
  have hM2 := of_below hM1 hal2
  have hP2 := Blk.new W #[.string ⟨#[]⟩, .int .i64 0] 153
  have x0 := hI.cell (i := 0) rfl
  have x1 := hI.cell (i := 1) rfl
  have q0 := hB1.cell (i := 0) rfl
  have y0 := hI2.cell (i := 0) rfl
  have y1 := hI2.cell (i := 1) rfl
  have r0 := hB2.cell (i := 0) rfl
  have p0 := hP2.cell (i := 0) rfl
  have p1 := hP2.cell (i := 1) rfl
  have f0 := hP2.frozen 0
  have f1 := hP2.frozen 1
  have l1 := hl W.drew (of_drew hM1)
  have l2 := hl (W.alloc (.cells #[.string ⟨#[]⟩, .int .i64 0] 153)).drew (of_drew hM2)
  go_region
  all_goals
    have hal3 := (Below.refl W.heap.size W).alloc (Nat.le_refl _) (.cells #[.string ⟨t.toArray⟩, .int .i64 u] 153)
    have hM3 := of_drew (of_below hM1 hal3)
    have hb3 := below_drew (hbW.trans (hal3.mono hbW.size))
    have hPd : Blk (W.alloc (.cells #[.string ⟨t.toArray⟩, .int .i64 u] 153)).drew W.heap.size #[.string ⟨t.toArray⟩, .int .i64 u] 153 := Blk.new W _ _
    have hId : Blk (W.alloc (.cells #[.string ⟨t.toArray⟩, .int .i64 u] 153)).drew w1.heap.size #[.int .u32 (P : Nat), .int .i64 (s.size : Int)] 25 := hI.next (below_drew hal3)
    have hRd : Blk (W.alloc (.cells #[.string ⟨t.toArray⟩, .int .i64 u] 153)).drew w.heap.size #[.int .u32 0, .int .i64 0] 25 := hR1.next (below_drew hal3)
    have hBd : Blk (W.alloc (.cells #[.string ⟨t.toArray⟩, .int .i64 u] 153)).drew B #[.map (some b)] 151 := hB1.next (below_drew hal3)
    generalize (W.alloc (.cells #[.string ⟨t.toArray⟩, .int .i64 u] 153)).drew = W3 at *
    have hIW : w1.heap.size < W.heap.size := hI.lt
    have t0 := hPd.cell (i := 0) rfl
    have t1 := hPd.cell (i := 1) rfl
    have ft0 := hPd.frozen 0
    have ft1 := hPd.frozen 1
    have z0 := hRd.cell (i := 0) rfl
    have z1 := hRd.cell (i := 1) rfl
    have fz0 := hRd.frozen 0
    have fz1 := hRd.frozen 1
    have v0 := hBd.cell (i := 0) rfl
    clear hl l1 l2 hP2 hal2 hI2 hB2 hM2 x0 x1 q0 y0 y1 r0 p0 p1 f0 f1 hip hid
    have hu1' : IntKind.i64.wrap (u + 1) = u + 1 := by rw [IntKind.wrap_i64]; omega
    have hP6 := hPd.set 1 (.int .i64 (u + 1))
    have hI6 := hId.other (a := ⟨W.heap.size, 1, none⟩) (by simp only; omega) (.int .i64 (u + 1))
    have hR6 := hRd.other (a := ⟨W.heap.size, 1, none⟩) (by simp only; omega) (.int .i64 (u + 1))
    have hB6 := hBd.other (a := ⟨W.heap.size, 1, none⟩) (by simp only; omega) (.int .i64 (u + 1))
    have hM6 := of_drew (hM3.kept (grown_set (grown_refl W3 (some W.heap.size)) 1 (.int .i64 (u + 1))) (fun e => by have := Option.some.inj e; omega))
    have hb6 := hb3.setCell (p := ⟨W.heap.size, 1, none⟩) (by simp only; omega) (.int .i64 (u + 1))
    have m0 := hP6.cell (i := 0) rfl
    have m1 := hP6.cell (i := 1) rfl
    go_wp2_with fail
    obtain ⟨w7, hst, hOf, hg7⟩ := hM6.store Tryz.underlying149 hxw (u + 1, t) (by unfold maxLen; omega)
    change (Instr.mapUpdate 149 (.map (some b)) (idV (P : Nat) (s.size : Int)) (pieceV (u + 1, t))).run Tryz.prog _ = _ at hst
    have HOF := hOf _ hperm
    have hg7' := grown_drew hg7
    have hI7 : Blk w7 w1.heap.size #[.int .u32 (P : Nat), .int .i64 (s.size : Int)] 25 := (hg7'.block _ hI6.lt (fun e => by have := Option.some.inj e; omega)).trans hI6
    have hR7 : Blk w7 w.heap.size #[.int .u32 0, .int .i64 0] 25 := (hg7'.block _ hR6.lt (fun e => by have := Option.some.inj e; omega)).trans hR6
    have hR8 := (hR7.set 0 (.int .u32 (P : Nat))).set 1 (.int .i64 (s.size : Int))
    have hB7 : Blk w7 B #[.map (some b)] 151 := (hg7'.block B hB6.lt (fun e => hne (Option.some.inj e))).trans hB6
    have hB8 := (hB7.other (a := ⟨w.heap.size, 0, none⟩) (by simp only; omega) (.int .u32 (P : Nat))).other (a := ⟨w.heap.size, 1, none⟩) (by simp only; omega) (.int .i64 (s.size : Int))
    have hgR : w7.grownBy ((w7.setCell ⟨w.heap.size, 0, none⟩ (.int .u32 (P : Nat))).setCell ⟨w.heap.size, 1, none⟩ (.int .i64 (s.size : Int))) (some w.heap.size) := grown_set (grown_set (grown_refl w7 _) 0 _) 1 _
    have hM8 := HOF.kept hgR (fun e => by have := Option.some.inj e; omega)
    have hof : Off (fun k => k = B ∨ k = b) w ((w7.setCell ⟨w.heap.size, 0, none⟩ (.int .u32 (P : Nat))).setCell ⟨w.heap.size, 1, none⟩ (.int .i64 (s.size : Int))) := (((Off.of_below hb6).trans (off_of_grown hg7' (F := fun k => k = B ∨ k = b) (.inr rfl)) (fun _ _ h => h)).setCell (p := ⟨w.heap.size, 0, none⟩) (.inr (Nat.le_refl _)) _).setCell (p := ⟨w.heap.size, 1, none⟩) (.inr (Nat.le_refl _)) _
    have i0 := hI7.cell (i := 0) rfl
    have i1 := hI7.cell (i := 1) rfl
    have c0 := hR7.cell (i := 0) rfl
    have c1 := hR7.cell (i := 1) rfl
    have k0 := hR7.frozen 0
    have k1 := hR7.frozen 1
    have d0 := hR8.cell (i := 0) rfl
    have d1 := hR8.cell (i := 1) rfl
    have j0 := hI6.cell (i := 0) rfl
    have j1 := hI6.cell (i := 1) rfl
    have b6 := hB6.cell (i := 0) rfl
    have HQ : Hid (PBin0 ((w7.setCell ⟨w.heap.size, 0, none⟩ (.int .u32 (P : Nat))).setCell ⟨w.heap.size, 1, none⟩ (.int .i64 (s.size : Int))) ⟨B, 0, none⟩ (fun k => k = B ∨ k = b) (l.modify k (hUse 1)) ∧ Off (fun k => k = B ∨ k = b) w ((w7.setCell ⟨w.heap.size, 0, none⟩ (.int .u32 (P : Nat))).setCell ⟨w.heap.size, 1, none⟩ (.int .i64 (s.size : Int)))) := ⟨⟨B, b, rfl, hB8, hM8, hne, rfl⟩, hof⟩
    clear HOF hOf hg7 hg7' hM6 hperm hI7 hR7 hR8 hB7 hB8 hgR hM8 hof
    go_region
    all_goals
      go_wp2_with fail
      exact bodyPost_ret (v := .tuple #[idV (P : Nat) (s.size : Int), .bool false, .nilIface]) (by simp [results, Tryz.results133, go_sem, d0, d1]) rfl ⟨_, _, by rw [e2.out, HX.out], by rw [e2.out]; exact .inl ⟨rfl, rfl⟩, by rw [e2.out]; exact HQ.out.1, fun k hk => .inl hk, HQ.out.2⟩

set_option maxRecDepth 100000 in
set_option maxHeartbeats 4000000 in
theorem pPut_new {a : Nat → Addr} (s : ByteArray) (p : Addr) (F : Nat → Prop) (l : List Hd) (w : World) (hs : s.size ≤ 50000) (hE : ErrE [1, 6, 9] w a) (hP : PBin0 w p F l) (hs1 : 1 ≤ s.size) (hs2 : s.size ≤ 64) (hf : hFind l (idOfL s.data.toList) = none) (hfull : l.length < 250) :
    Calls Tryz.prog 133 #[.pointer (some p), .string s] w (PPost a w p F (hPut l s.data.toList)) := by
  obtain ⟨B, b, rfl, hB, hM, hne, rfl⟩ := hP
  have hBl := hB.lt
  have hbl := hM.lt
  have hal := (Below.refl w.heap.size w).alloc (Nat.le_refl _) (.cells #[.int .u32 0, .int .i64 0] 25)
  have hR := Blk.new w #[.int .u32 0, .int .i64 0] 25
  have HG : Hid (∀ W', Below w.heap.size w W' → ∀ i, ([1, 6, 9] : List Nat).contains i = true → W'.cell? ⟨errG i, 0, none⟩ = some (sentV a i)) := fun W' hb i hi => (hE.below hb (Nat.le_refl _)).glob i hi
  have HB0 : Hid (∀ W, Below w.heap.size w W → PBin0 W ⟨B, 0, none⟩ (fun k => k = B ∨ k = b) l) := fun W h => PBin0.off ⟨B, b, rfl, hB, hM, hne, rfl⟩ (Off.of_below (F := fun _ => False) h) (fun _ _ h => h)
  have hsl : s.data.toList.length = s.size := by rw [Array.length_toList]; rfl
  have e2 : Hid (hPut l s.data.toList = ((idOfL s.data.toList, true, 0), hIns l (idOfL s.data.toList, 1, s.data.toList))) := by
    show _ = _
    unfold hPut
    rw [if_neg (by rw [hsl]; omega), hf]
    simp only [if_neg (show ¬ 250 ≤ l.length by omega)]
  have hperm : ((idOfL s.data.toList, (1 : Int), s.data.toList) :: l.filter (fun h => !decide (h.1 = idOfL s.data.toList))).Perm (hIns l (idOfL s.data.toList, 1, s.data.toList)) := by
    rw [List.filter_eq_self.2 (fun h hm => by simp [hFind_not hf h hm])]
    exact (hIns_perm l _).symm
  have HPC : Hid (isPc s.size = true) := decide_eq_true ⟨hs1, hs2⟩
  have hip := isPiece_any s (w.alloc (.cells #[.int .u32 0, .int .i64 0] 25)) hs
  rw [HPC.out] at hip
  have hid := id_any s (w.alloc (.cells #[.int .u32 0, .int .i64 0] 25)) (by unfold maxLen; omega)
  obtain ⟨P, hP⟩ : ∃ P, pmore 2166136261 s.data.toList = P := ⟨_, rfl⟩
  have HX : Hid (idOfL s.data.toList = (P, (s.size : Int))) := by show _ = _; unfold idOfL; rw [hP, hsl]
  have hxw : WfID (P, (s.size : Int)) := ⟨by rw [← hP]; exact pmore_lt _ (by decide) _, by show (-9223372036854775808 : Int) ≤ s.size; omega, by show (s.size : Int) ≤ 9223372036854775807; omega⟩
  rw [hP] at hid
  rw [HX.out] at hf hperm e2
  clear hP
  have hl : ∀ W : World, idPieces.Of W b l → (Instr.lookup 149 (.map (some b)) (idV (P : Nat) (s.size : Int)) true).run Tryz.prog W = .ok (.tuple #[pieceV (0, []), .bool false]) W := fun W h => h.look_none Tryz.underlying149 (pieceZero W) hxw (hFind_not hf)
  go_enter Tryz.func133, Tryz.ntmps133
  go_wp2_with (first
    | (go_at_call 176; refine hip.mono ?_; rintro e w' ⟨rfl, rfl⟩)
    | (go_at_call 125; refine hid.mono ?_; rintro e w1 ⟨rfl, hb1⟩))
  have hal1 : Below w.heap.size w w1 := hal.trans (hb1.mono hal.size)
  have halI := (Below.refl _ w1).alloc (Nat.le_refl _) (.cells #[.int .u32 (P : Nat), .int .i64 (s.size : Int)] 25)
  have hI := Blk.new w1 #[.int .u32 (P : Nat), .int .i64 (s.size : Int)] 25
  have hR1 := (hR.next hb1).next halI
  have hB1 := hB.next (hal1.trans (halI.mono hal1.size))
  have hM1 := of_below hM (hal1.trans (halI.mono hal1.size))
  have hbW := hal1.trans (halI.mono hal1.size)
  have hRI : w.heap.size < w1.heap.size := Nat.lt_of_lt_of_le hR.lt hb1.size
  generalize hW : w1.alloc (.cells #[.int .u32 (P : Nat), .int .i64 (s.size : Int)] 25) = W at *
  have hal2 := (Below.refl W.heap.size W).alloc (Nat.le_refl _) (.cells #[.string ⟨#[]⟩, .int .i64 0] 153)
  have hI2 := hI.next hal2
  have hB2 := hB1.next hal2
  have hM2 := of_below hM1 hal2
  have hP2 := Blk.new W #[.string ⟨#[]⟩, .int .i64 0] 153
  have x0 := hI.cell (i := 0) rfl
  have x1 := hI.cell (i := 1) rfl
  have q0 := hB1.cell (i := 0) rfl
  have y0 := hI2.cell (i := 0) rfl
  have y1 := hI2.cell (i := 1) rfl
  have r0 := hB2.cell (i := 0) rfl
  have p0 := hP2.cell (i := 0) rfl
  have p1 := hP2.cell (i := 1) rfl
  have f0 := hP2.frozen 0
  have f1 := hP2.frozen 1
  have l1 := hl W.drew (of_drew hM1)
  have l2 := hl (W.alloc (.cells #[.string ⟨#[]⟩, .int .i64 0] 153)).drew (of_drew hM2)
  go_region
  all_goals
    have hal3 := (Below.refl W.heap.size W).alloc (Nat.le_refl _) (.cells #[.string ⟨#[]⟩, .int .i64 0] 153)
    have hM3 := of_drew (of_below hM1 hal3)
    have hb3 := below_drew (hbW.trans (hal3.mono hbW.size))
    have hPd : Blk (W.alloc (.cells #[.string ⟨#[]⟩, .int .i64 0] 153)).drew W.heap.size #[.string ⟨#[]⟩, .int .i64 0] 153 := Blk.new W _ _
    have hId : Blk (W.alloc (.cells #[.string ⟨#[]⟩, .int .i64 0] 153)).drew w1.heap.size #[.int .u32 (P : Nat), .int .i64 (s.size : Int)] 25 := hI.next (below_drew hal3)
    have hRd : Blk (W.alloc (.cells #[.string ⟨#[]⟩, .int .i64 0] 153)).drew w.heap.size #[.int .u32 0, .int .i64 0] 25 := hR1.next (below_drew hal3)
    have hBd : Blk (W.alloc (.cells #[.string ⟨#[]⟩, .int .i64 0] 153)).drew B #[.map (some b)] 151 := hB1.next (below_drew hal3)
    generalize (W.alloc (.cells #[.string ⟨#[]⟩, .int .i64 0] 153)).drew = W3 at *
    have hIW : w1.heap.size < W.heap.size := hI.lt
    have t0 := hPd.cell (i := 0) rfl
    have t1 := hPd.cell (i := 1) rfl
    have ft0 := hPd.frozen 0
    have ft1 := hPd.frozen 1
    have z0 := hRd.cell (i := 0) rfl
    have z1 := hRd.cell (i := 1) rfl
    have fz0 := hRd.frozen 0
    have fz1 := hRd.frozen 1
    have v0 := hBd.cell (i := 0) rfl
    clear hl l1 l2 hP2 hal2 hI2 hB2 hM2 x0 x1 q0 y0 y1 r0 p0 p1 f0 f1 hip hid
    have hfull' : ¬ (250 : Int) ≤ (l.length : Int) := by omega
    have hnp := newPiece_any s 0 W3 hs
    go_wp2_with (first
      | (at_len; refine wp_len_kit idPieces _ rfl _ 149 rfl 153 Tryz.underlying149 b l rfl hM3 ?_)
      | (go_at_call 177; refine hnp.mono ?_; rintro e w5 ⟨rfl, hb5⟩; have hP5 := hPd.next hb5; have o0 := hP5.cell (i := 0) rfl; have o1 := hP5.cell (i := 1) rfl; have fo0 := hP5.frozen 0; have fo1 := hP5.frozen 1)
      | go_in)
    have hP6 := ((hP5.set 0 (.string s)).set 1 (.int .i64 0)).set 1 (.int .i64 1)
    have hI6 := (((hId.next hb5).other (a := ⟨W.heap.size, 0, none⟩) (by simp only; omega) (.string s)).other (a := ⟨W.heap.size, 1, none⟩) (by simp only; omega) (.int .i64 0)).other (a := ⟨W.heap.size, 1, none⟩) (by simp only; omega) (.int .i64 1)
    have hR6 := (((hRd.next hb5).other (a := ⟨W.heap.size, 0, none⟩) (by simp only; omega) (.string s)).other (a := ⟨W.heap.size, 1, none⟩) (by simp only; omega) (.int .i64 0)).other (a := ⟨W.heap.size, 1, none⟩) (by simp only; omega) (.int .i64 1)
    have hB6 := (((hBd.next hb5).other (a := ⟨W.heap.size, 0, none⟩) (by simp only; omega) (.string s)).other (a := ⟨W.heap.size, 1, none⟩) (by simp only; omega) (.int .i64 0)).other (a := ⟨W.heap.size, 1, none⟩) (by simp only; omega) (.int .i64 1)
    have hM6 := of_drew ((of_below hM3 hb5).kept (grown_set (grown_set (grown_set (grown_refl w5 (some W.heap.size)) 0 (.string s)) 1 (.int .i64 0)) 1 (.int .i64 1)) (fun e => by have := Option.some.inj e; omega))
    have hb6 := (((hb3.trans (hb5.mono hb3.size)).setCell (p := ⟨W.heap.size, 0, none⟩) (by simp only; omega) (.string s)).setCell (p := ⟨W.heap.size, 1, none⟩) (by simp only; omega) (.int .i64 0)).setCell (p := ⟨W.heap.size, 1, none⟩) (by simp only; omega) (.int .i64 1)
    have m0 := hP6.cell (i := 0) rfl
    have m1 := hP6.cell (i := 1) rfl
    obtain ⟨w7, hst, hOf, hg7⟩ := hM6.store Tryz.underlying149 hxw (1, s.data.toList) (by unfold maxLen; omega)
    change (Instr.mapUpdate 149 (.map (some b)) (idV (P : Nat) (s.size : Int)) (.agg #[.string s, .int .i64 1])).run Tryz.prog _ = _ at hst
    have HOF := hOf _ hperm
    have hg7' := grown_drew hg7
    have hI7 : Blk w7 w1.heap.size #[.int .u32 (P : Nat), .int .i64 (s.size : Int)] 25 := (hg7'.block _ hI6.lt (fun e => by have := Option.some.inj e; omega)).trans hI6
    have hR7 : Blk w7 w.heap.size #[.int .u32 0, .int .i64 0] 25 := (hg7'.block _ hR6.lt (fun e => by have := Option.some.inj e; omega)).trans hR6
    have hR8 := (hR7.set 0 (.int .u32 (P : Nat))).set 1 (.int .i64 (s.size : Int))
    have hB7 : Blk w7 B #[.map (some b)] 151 := (hg7'.block B hB6.lt (fun e => hne (Option.some.inj e))).trans hB6
    have hB8 := (hB7.other (a := ⟨w.heap.size, 0, none⟩) (by simp only; omega) (.int .u32 (P : Nat))).other (a := ⟨w.heap.size, 1, none⟩) (by simp only; omega) (.int .i64 (s.size : Int))
    have hgR : w7.grownBy ((w7.setCell ⟨w.heap.size, 0, none⟩ (.int .u32 (P : Nat))).setCell ⟨w.heap.size, 1, none⟩ (.int .i64 (s.size : Int))) (some w.heap.size) := grown_set (grown_set (grown_refl w7 _) 0 _) 1 _
    have hM8 := HOF.kept hgR (fun e => by have := Option.some.inj e; omega)
    have hof : Off (fun k => k = B ∨ k = b) w ((w7.setCell ⟨w.heap.size, 0, none⟩ (.int .u32 (P : Nat))).setCell ⟨w.heap.size, 1, none⟩ (.int .i64 (s.size : Int))) := (((Off.of_below hb6).trans (off_of_grown hg7' (F := fun k => k = B ∨ k = b) (.inr rfl)) (fun _ _ h => h)).setCell (p := ⟨w.heap.size, 0, none⟩) (.inr (Nat.le_refl _)) _).setCell (p := ⟨w.heap.size, 1, none⟩) (.inr (Nat.le_refl _)) _
    have i0 := hI7.cell (i := 0) rfl
    have i1 := hI7.cell (i := 1) rfl
    have c0 := hR7.cell (i := 0) rfl
    have c1 := hR7.cell (i := 1) rfl
    have k0 := hR7.frozen 0
    have k1 := hR7.frozen 1
    have d0 := hR8.cell (i := 0) rfl
    have d1 := hR8.cell (i := 1) rfl
    have j0 := hI6.cell (i := 0) rfl
    have j1 := hI6.cell (i := 1) rfl
    have b6 := hB6.cell (i := 0) rfl
    have HQ : Hid (PBin0 ((w7.setCell ⟨w.heap.size, 0, none⟩ (.int .u32 (P : Nat))).setCell ⟨w.heap.size, 1, none⟩ (.int .i64 (s.size : Int))) ⟨B, 0, none⟩ (fun k => k = B ∨ k = b) (hIns l ((P, (s.size : Int)), 1, s.data.toList)) ∧ Off (fun k => k = B ∨ k = b) w ((w7.setCell ⟨w.heap.size, 0, none⟩ (.int .u32 (P : Nat))).setCell ⟨w.heap.size, 1, none⟩ (.int .i64 (s.size : Int)))) := ⟨⟨B, b, rfl, hB8, hM8, hne, rfl⟩, hof⟩
    clear HOF hOf hg7 hg7' hM6 hperm hI7 hR7 hR8 hB7 hB8 hgR hM8 hof
    go_region
    all_goals
      go_wp2_with fail
      exact bodyPost_ret (v := .tuple #[idV (P : Nat) (s.size : Int), .bool true, .nilIface]) (by simp [results, Tryz.results133, go_sem, d0, d1]) rfl ⟨_, _, by rw [e2.out], by rw [e2.out]; exact .inl ⟨rfl, rfl⟩, by rw [e2.out]; exact HQ.out.1, fun k hk => .inl hk, HQ.out.2⟩
end Go.Proofs.YtcbcjefefmbccabGreatDoor
namespace Go.Proofs.YtcbcjefefmbccabGreatDoor
open Go.RowKit Go.Maps

/- A number that lies in a block of its own. -/
structure CntI (c : Nat) (s : Int) (w : World) : Prop where
  cell : w.cell? ⟨c, 0, none⟩ = some (.int .i64 s)
  free : w.frozen? ⟨c, 0, none⟩ = false
  lt : c < w.heap.size
theorem CntI.kept {c : Nat} {s : Int} {w w' : World} {row : Option Nat} (h : CntI c s w) (hg : w.grownBy w' row) (hr : some c ≠ row) : CntI c s w' :=
  ⟨(World.cell?_of_block (w := w) (hg.block c h.lt hr)).trans h.cell, (World.frozen?_of_block (w := w) (hg.block c h.lt hr)).trans h.free, Nat.lt_of_lt_of_le h.lt hg.size⟩
theorem CntI.set {c : Nat} {s : Int} {w : World} (h : CntI c s w) (t : Int) : CntI c t (w.setCell ⟨c, 0, none⟩ (.int .i64 t)) :=
  ⟨World.cell?_setCell_same _ _ _ h.cell, by simpa using h.free, by simpa [World.setCell] using h.lt⟩

/- What is left of l while it is swept: those that are used, and those still to come. -/
def stay (l : List Hd) (left : Nat × Int → Bool) : List Hd := l.filter (fun h => left h.1 || !unused h)
def went (l : List Hd) (left : Nat × Int → Bool) : List Hd := (l.filter unused).filter (fun h => !left h.1)
end Go.Proofs.YtcbcjefefmbccabGreatDoor
