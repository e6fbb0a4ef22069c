/-
  Own text. The program's bin by contracts: Drop.
-/
import Derived.Test.YtcbcjefefmbccaaDoorG06
namespace Go.Proofs.YtcbcjefefmbccaaDoor
open Go.RowKit Go.Maps

theorem grown_drew {w w' : World} {row : Option Nat} (h : w.drew.grownBy w' row) : w.grownBy w' row := ⟨h.os, h.tape, h.output, h.size, h.block⟩

set_option maxRecDepth 100000 in
set_option maxHeartbeats 4000000 in
theorem pDrop_any {a : Nat → Addr} (x : Nat × Int) (p : Addr) (F : Nat → Prop) (l : List Hd) (w : World) (hx : WfID x) (hok : BinOk 1000000 l) (hE : ErrE [4, 10] w a) (hP : PBin0 w p F l) :
    Calls Tryd.prog 36 #[.pointer (some p), idV (x.1 : Nat) x.2] w fun e w' => ∃ ev F', e = .returned ev ∧ ErrIn w.heap.size w' a ev ((hDrop l x).1, -1) ∧ PBin0 w' p F' (hDrop l x).2 ∧ (∀ k, F' k → F k ∨ w.heap.size ≤ k) ∧ Off F w w' := by
  obtain ⟨B, b, rfl, hB, hM, hne, rfl⟩ := hP
  have hBl := hB.lt
  have hal := (Below.refl w.heap.size w).alloc (Nat.le_refl _) (.cells #[.int .u32 (x.1 : Nat), .int .i64 x.2] 37)
  have HG : Hid (∀ W', Below w.heap.size w W' → ∀ i, ([4, 10] : List Nat).contains i = true → W'.cell? ⟨errG i, 0, none⟩ = some (sentV a i)) := fun W' hb i hi => (hE.below hb (Nat.le_refl _)).glob i hi
  have HB0 : Hid (∀ W, Below w.heap.size w W → PBin0 W ⟨B, 0, none⟩ (fun k => k = B ∨ k = b) l) := fun W h => PBin0.off ⟨B, b, rfl, hB, hM, hne, rfl⟩ (Off.of_below (F := fun _ => False) h) (fun _ _ h => h)
  cases hf : hFind l x with
  | none =>
    have e2 : Hid (hDrop l x = (5, l)) := by show _ = _; unfold hDrop; rw [hf]
    have hn := hFind_not hf
    have hl : ∀ W : World, idPieces.Of W b l → (Instr.lookup 109 (.map (some b)) (idV (x.1 : Nat) x.2) true).run Tryd.prog W = .ok (.tuple #[pieceV (0, []), .bool false]) W := fun W h => h.look_none Tryd.underlying109 (pieceZero W) hx hn
    have hI := Blk.new w #[.int .u32 (x.1 : Nat), .int .i64 x.2] 37
    have hB1 := hB.next hal
    have hM1 := of_below hM hal
    go_enter Tryd.func36, Tryd.ntmps36
    go_wp2_with fail
    generalize hW : w.alloc (.cells #[.int .u32 (x.1 : Nat), .int .i64 x.2] 37) = W at *
    have hal2 := (Below.refl W.heap.size W).alloc (Nat.le_refl _) (.cells #[.string ⟨#[]⟩, .int .i64 0] 114)
    have hI2 := hI.next hal2
    have hB2 := hB1.next hal2
    have hM2 := of_below hM1 hal2
    have hP2 := Blk.new W #[.string ⟨#[]⟩, .int .i64 0] 114
    have hbw : Below w.heap.size w (W.alloc (.cells #[.string ⟨#[]⟩, .int .i64 0] 114)) := hal.trans (hal2.mono hal.size)
    have x0 := hI.cell (i := 0) rfl
    have x1 := hI.cell (i := 1) rfl
    have q0 := hB1.cell (i := 0) rfl
    have y0 := hI2.cell (i := 0) rfl
    have y1 := hI2.cell (i := 1) rfl
    have r0 := hB2.cell (i := 0) rfl
    have p0 := hP2.cell (i := 0) rfl
    have p1 := hP2.cell (i := 1) rfl
    have f0 := hP2.frozen 0
    have f1 := hP2.frozen 1
    have l1 := hl W.drew (of_drew hM1)
    have l2 := hl (W.alloc (.cells #[.string ⟨#[]⟩, .int .i64 0] 114)).drew (of_drew hM2)
    go_region
    all_goals
      have hb3 := below_drew hbw
      have g4 : (W.alloc (.cells #[.string ⟨#[]⟩, .int .i64 0] 114)).drew.cell? ⟨4, 0, none⟩ = some (sentV a 4) := HG.out _ hb3 4 (by decide)
      generalize (W.alloc (.cells #[.string ⟨#[]⟩, .int .i64 0] 114)).drew = W3 at *
      go_wp2_with fail
      go_ret
      exact ⟨_, _, rfl, by rw [e2.out]; exact errIn_sent _ _ a 4 (by decide) rfl, by rw [e2.out]; exact HB0.out _ hb3, fun k hk => .inl hk, Off.of_below hb3⟩
  | some k =>
    obtain ⟨hk, hm⟩ := hFind_mem_at hf
    obtain ⟨_, hxe⟩ := hFind_some hf
    have e2 : Hid (hDrop l x = if l[k].2.1 = 0 then (11, l) else (0, l.modify k (hUse (-1)))) := by
      show _ = _
      unfold hDrop
      rw [hf]
      simp [List.getElem?_eq_getElem hk]
    have hmp := modify_perm (-1) l k hk hM.apart
    rw [hxe] at hmp
    obtain ⟨hu0, hu1⟩ := hok.uses (Int.le_refl _) _ (List.getElem_mem hk)
    have hmany := hok.many
    obtain ⟨⟨u, t⟩, hc⟩ : ∃ c, l[k].2 = c := ⟨_, rfl⟩
    rw [hc] at hm e2 hmp hu0 hu1
    simp only at e2 hmp hu0 hu1
    clear hc
    have hl : ∀ W : World, idPieces.Of W b l → (Instr.lookup 109 (.map (some b)) (idV (x.1 : Nat) x.2) true).run Tryd.prog W = .ok (.tuple #[pieceV (u, t), .bool true]) W := fun W h => h.look_some Tryd.underlying109 (pieceZero W) hm
    have hI := Blk.new w #[.int .u32 (x.1 : Nat), .int .i64 x.2] 37
    have hB1 := hB.next hal
    have hM1 := of_below hM hal
    go_enter Tryd.func36, Tryd.ntmps36
    go_wp2_with fail
    generalize hW : w.alloc (.cells #[.int .u32 (x.1 : Nat), .int .i64 x.2] 37) = W at *
    have hal2 := (Below.refl W.heap.size W).alloc (Nat.le_refl _) (.cells #[.string ⟨#[]⟩, .int .i64 0] 114)
    have hI2 := hI.next hal2
    have hB2 := hB1.next hal2
    have hM2 := of_below hM1 hal2
    have hP2 := Blk.new W #[.string ⟨#[]⟩, .int .i64 0] 114
    have hbw : Below w.heap.size w (W.alloc (.cells #[.string ⟨#[]⟩, .int .i64 0] 114)) := hal.trans (hal2.mono hal.size)
    have x0 := hI.cell (i := 0) rfl
    have x1 := hI.cell (i := 1) rfl
    have q0 := hB1.cell (i := 0) rfl
    have y0 := hI2.cell (i := 0) rfl
    have y1 := hI2.cell (i := 1) rfl
    have r0 := hB2.cell (i := 0) rfl
    have p0 := hP2.cell (i := 0) rfl
    have p1 := hP2.cell (i := 1) rfl
    have f0 := hP2.frozen 0
    have f1 := hP2.frozen 1
    have l1 := hl W.drew (of_drew hM1)
    have l2 := hl (W.alloc (.cells #[.string ⟨#[]⟩, .int .i64 0] 114)).drew (of_drew hM2)
    go_region
    all_goals
      have hal3 := (Below.refl W.heap.size W).alloc (Nat.le_refl _) (.cells #[.string ⟨t.toArray⟩, .int .i64 u] 114)
      have hP3 := Blk.new W #[.string ⟨t.toArray⟩, .int .i64 u] 114
      have hI3 := hI.next hal3
      have hB3 := hB1.next hal3
      have hM3 := of_drew (of_below hM1 hal3)
      have hb3 := below_drew (hal.trans (hal3.mono hal.size))
      have hPd : Blk (W.alloc (.cells #[.string ⟨t.toArray⟩, .int .i64 u] 114)).drew W.heap.size #[.string ⟨t.toArray⟩, .int .i64 u] 114 := hP3
      have hId : Blk (W.alloc (.cells #[.string ⟨t.toArray⟩, .int .i64 u] 114)).drew w.heap.size #[.int .u32 (x.1 : Nat), .int .i64 x.2] 37 := hI3
      have hBd : Blk (W.alloc (.cells #[.string ⟨t.toArray⟩, .int .i64 u] 114)).drew B #[.map (some b)] 111 := hB3
      generalize (W.alloc (.cells #[.string ⟨t.toArray⟩, .int .i64 u] 114)).drew = W3 at *
      have hIW : w.heap.size < W.heap.size := hI.lt
      have g10 : W3.cell? ⟨10, 0, none⟩ = some (sentV a 10) := HG.out _ hb3 10 (by decide)
      have t0 := hPd.cell (i := 0) rfl
      have t1 := hPd.cell (i := 1) rfl
      have ft := hPd.frozen 1
      clear hl l1 l2 hP2 hbw hal2 hI2 hB2 hM2 x0 x1 q0 y0 y1 r0 p0 p1 f0 f1 hP3 hI3 hB3
      by_cases hz : u = 0
      · subst hz
        have e3 : Hid (hDrop l x = (11, l)) := by show _ = _; rw [e2.out, if_pos rfl]
        clear e2
        go_wp2_with fail
        go_ret
        exact ⟨_, _, rfl, by rw [e3.out]; exact errIn_sent _ _ a 10 (by decide) rfl, by rw [e3.out]; exact HB0.out _ hb3, fun k hk => .inl hk, Off.of_below hb3⟩
      · have e3 : Hid (hDrop l x = (0, l.modify k (hUse (-1)))) := by show _ = _; rw [e2.out, if_neg hz]
        clear e2
        have hu1' : IntKind.i64.wrap (u - 1) = u - 1 := by rw [IntKind.wrap_i64]; omega
        have hS3 := hPd.set 1 (.int .i64 (u - 1))
        have hneI : w.heap.size ≠ W.heap.size := by omega
        have hneB : B ≠ W.heap.size := by omega
        have hIs := hId.other (a := ⟨W.heap.size, 1, none⟩) hneI (.int .i64 (u - 1))
        have hBs := hBd.other (a := ⟨W.heap.size, 1, none⟩) hneB (.int .i64 (u - 1))
        have hgs : W3.grownBy (W3.setCell ⟨W.heap.size, 1, none⟩ (.int .i64 (u - 1))) (some W.heap.size) := grown_set (grown_refl W3 _) 1 _
        have hbl := hM1.lt
        have hMs := of_drew (hM3.kept hgs (fun e => by have := Option.some.inj e; omega))
        have hb4 : Below w.heap.size w (W3.setCell ⟨W.heap.size, 1, none⟩ (.int .i64 (u - 1))) := hb3.setCell (p := ⟨W.heap.size, 1, none⟩) (by show w.heap.size ≤ W.heap.size; omega) _
        obtain ⟨w5, hs, hOf, hg5⟩ := hMs.store Tryd.underlying109 hx (u - 1, t) (by unfold maxLen; omega)
        change (Instr.mapUpdate 109 (.map (some b)) (idV (x.1 : Nat) x.2) (pieceV (u - 1, t))).run Tryd.prog _ = _ at hs
        have s0 := hS3.cell (i := 0) rfl
        have s1 := hS3.cell (i := 1) rfl
        have i0 := hIs.cell (i := 0) rfl
        have i1 := hIs.cell (i := 1) rfl
        have b0 := hBs.cell (i := 0) rfl
        have HOF := hOf _ hmp
        have hg5' := grown_drew hg5
        have HQ : Hid (PBin0 w5 ⟨B, 0, none⟩ (fun k => k = B ∨ k = b) (l.modify k (hUse (-1))) ∧ Off (fun k => k = B ∨ k = b) w w5) :=
          ⟨⟨B, b, rfl, (hg5'.block B hBs.lt (fun e => hne (Option.some.inj e))).trans hBs, HOF, hne, rfl⟩, (Off.of_below hb4).trans (off_of_grown hg5' (.inr rfl)) (fun _ _ h => h)⟩
        clear HOF hOf hg5 hg5' hMs hmp hS3 hIs hBs hgs
        go_wp2_with fail
        go_region
        all_goals
          go_wp2_with fail
          go_ret
          rw [e3.out]
          exact ⟨_, _, rfl, .inl ⟨rfl, rfl⟩, HQ.out.1, fun k hk => .inl hk, HQ.out.2⟩
end Go.Proofs.YtcbcjefefmbccaaDoor
