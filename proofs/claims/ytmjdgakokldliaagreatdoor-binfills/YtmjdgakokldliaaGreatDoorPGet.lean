/-
  Own text. The program's bin by contracts: Get, Drop.
-/
import Derived.Test.YtmjdgakokldliaaGreatDoorBinKit
import Derived.Test.YtmjdgakokldliaaGreatDoorErrG
import Derived.Test.YtmjdgakokldliaaGreatDoorSrtAll
import Derived.Deep.QuietTactic
import Derived.BigQuiet
import Derived.BigRegion
namespace Go.Proofs.YtmjdgakokldliaaGreatDoor
open Go.RowKit Go.Maps

theorem hFind_mem_at {l : List Hd} {x : Nat × Int} {k : Nat} (h : hFind l x = some k) : ∃ (hk : k < l.length), (x, l[k].2) ∈ l := by
  obtain ⟨hk, e⟩ := hFind_some h
  refine ⟨hk, ?_⟩
  rw [← e]
  exact List.getElem_mem hk
theorem of_below {w w' : World} {b : Nat} {l : List Hd} (h : idPieces.Of w b l) (hb : Below w.heap.size w w') : idPieces.Of w' b l := h.kept (grown_of_below hb) (by simp)
theorem of_drew {w : World} {b : Nat} {l : List Hd} (h : idPieces.Of w b l) : idPieces.Of w.drew b l := h.kept (grown_drewN w 1) (by simp)
theorem below_drew {n : Nat} {w w' : World} (h : Below n w w') : Below n w w'.drew := h.drew

set_option maxRecDepth 100000 in
set_option maxHeartbeats 4000000 in
theorem pGet_any {a : Nat → Addr} (x : Nat × Int) (p : Addr) (F : Nat → Prop) (l : List Hd) (w : World) (hx : WfID x) (hE : ErrG w a) (hP : PBin0 w p F l) :
    Calls Tryz.prog 79 #[.pointer (some p), idV (x.1 : Nat) x.2] w fun e w' => ∃ ev, e = .returned (.tuple #[.string ⟨(hGet l x).1.toArray⟩, ev]) ∧ ErrIn w.heap.size w' a ev ((hGet l x).2, -1) ∧ Below w.heap.size w w' := by
  obtain ⟨B, b, rfl, hB, hM, hne, rfl⟩ := hP
  have hBl := hB.lt
  have hal := (Below.refl w.heap.size w).alloc (Nat.le_refl _) (.cells #[.int .u32 (x.1 : Nat), .int .i64 x.2] 40)
  have HG : Hid (∀ W', Below w.heap.size w W' → ∀ i, ErrU i = true → W'.cell? ⟨errG i, 0, none⟩ = some (sentV a i)) := fun W' hb i hi => (hE.below hb (Nat.le_refl _)).glob i hi
  cases hf : hFind l x with
  | none =>
    have e2 : Hid (hGet l x = ([], 5)) := by show _ = _; unfold hGet; rw [hf]
    have hn := hFind_not hf
    have hl : ∀ W : World, idPieces.Of W b l → (Instr.lookup 133 (.map (some b)) (idV (x.1 : Nat) x.2) true).run Tryz.prog W = .ok (.tuple #[pieceV (0, []), .bool false]) W := fun W h => h.look_none Tryz.underlying133 (pieceZero W) hx hn
    have hI := Blk.new w #[.int .u32 (x.1 : Nat), .int .i64 x.2] 40
    have hB1 := hB.next hal
    have hM1 := of_below hM hal
    go_enter Tryz.func79, Tryz.ntmps79
    go_wp2_with fail
    generalize hW : w.alloc (.cells #[.int .u32 (x.1 : Nat), .int .i64 x.2] 40) = W at *
    have hal2 := (Below.refl W.heap.size W).alloc (Nat.le_refl _) (.cells #[.string ⟨#[]⟩, .int .i64 0] 137)
    have hI2 := hI.next hal2
    have hB2 := hB1.next hal2
    have hM2 := of_below hM1 hal2
    have hP2 := Blk.new W #[.string ⟨#[]⟩, .int .i64 0] 137
    have hbw : Below w.heap.size w (W.alloc (.cells #[.string ⟨#[]⟩, .int .i64 0] 137)) := hal.trans (hal2.mono hal.size)
    have x0 := hI.cell (i := 0) rfl
    have x1 := hI.cell (i := 1) rfl
    have q0 := hB1.cell (i := 0) rfl
    have y0 := hI2.cell (i := 0) rfl
    have y1 := hI2.cell (i := 1) rfl
    have r0 := hB2.cell (i := 0) rfl
    have p0 := hP2.cell (i := 0) rfl
    have p1 := hP2.cell (i := 1) rfl
    have f0 := hP2.frozen 0
    have f1 := hP2.frozen 1
    have l1 := hl W.drew (of_drew hM1)
    have l2 := hl (W.alloc (.cells #[.string ⟨#[]⟩, .int .i64 0] 137)).drew (of_drew hM2)
    go_region
    all_goals
      go_wp2_with fail
      have hb3 := below_drew hbw
      have g4 : (W.alloc (.cells #[.string ⟨#[]⟩, .int .i64 0] 137)).drew.cell? ⟨8, 0, none⟩ = some (sentV a 4) := HG.out _ hb3 4 (by decide)
      generalize (W.alloc (.cells #[.string ⟨#[]⟩, .int .i64 0] 137)).drew = W3 at *
      go_region
      all_goals
        go_wp2_with fail
        go_ret2
        exact ⟨_, by rw [e2.out]; rfl, by rw [e2.out]; exact errIn_sent _ _ a 4 (by decide) rfl, below_drew hb3⟩
  | some k =>
    obtain ⟨hk, hm⟩ := hFind_mem_at hf
    have e2 : Hid (hGet l x = (l[k].2.2, 0)) := by show _ = _; unfold hGet; rw [hf]; simp [List.getElem?_eq_getElem hk]
    obtain ⟨⟨u, t⟩, hc⟩ : ∃ c, l[k].2 = c := ⟨_, rfl⟩
    rw [hc] at hm e2
    clear hc
    have hl : ∀ W : World, idPieces.Of W b l → (Instr.lookup 133 (.map (some b)) (idV (x.1 : Nat) x.2) true).run Tryz.prog W = .ok (.tuple #[pieceV (u, t), .bool true]) W := fun W h => h.look_some Tryz.underlying133 (pieceZero W) hm
    have hI := Blk.new w #[.int .u32 (x.1 : Nat), .int .i64 x.2] 40
    have hB1 := hB.next hal
    have hM1 := of_below hM hal
    go_enter Tryz.func79, Tryz.ntmps79
    go_wp2_with fail
    generalize hW : w.alloc (.cells #[.int .u32 (x.1 : Nat), .int .i64 x.2] 40) = W at *
    have hal2 := (Below.refl W.heap.size W).alloc (Nat.le_refl _) (.cells #[.string ⟨#[]⟩, .int .i64 0] 137)
    have hI2 := hI.next hal2
    have hB2 := hB1.next hal2
    have hM2 := of_below hM1 hal2
    have hP2 := Blk.new W #[.string ⟨#[]⟩, .int .i64 0] 137
    have hbw : Below w.heap.size w (W.alloc (.cells #[.string ⟨#[]⟩, .int .i64 0] 137)) := hal.trans (hal2.mono hal.size)
    have x0 := hI.cell (i := 0) rfl
    have x1 := hI.cell (i := 1) rfl
    have q0 := hB1.cell (i := 0) rfl
    have y0 := hI2.cell (i := 0) rfl
    have y1 := hI2.cell (i := 1) rfl
    have r0 := hB2.cell (i := 0) rfl
    have p0 := hP2.cell (i := 0) rfl
    have p1 := hP2.cell (i := 1) rfl
    have f0 := hP2.frozen 0
    have f1 := hP2.frozen 1
    have l1 := hl W.drew (of_drew hM1)
    have l2 := hl (W.alloc (.cells #[.string ⟨#[]⟩, .int .i64 0] 137)).drew (of_drew hM2)
    go_region
    all_goals
      have hal3 := (Below.refl W.heap.size W).alloc (Nat.le_refl _) (.cells #[.string ⟨t.toArray⟩, .int .i64 u] 137)
      have hP3 := Blk.new W #[.string ⟨t.toArray⟩, .int .i64 u] 137
      have hb3 := below_drew (hal.trans (hal3.mono hal.size))
      have t0 : (W.alloc (.cells #[.string ⟨t.toArray⟩, .int .i64 u] 137)).drew.cell? ⟨W.heap.size, 0, none⟩ = _ := hP3.cell (i := 0) rfl
      generalize (W.alloc (.cells #[.string ⟨t.toArray⟩, .int .i64 u] 137)).drew = W3 at *
      go_wp2_with fail
      go_ret2
      exact ⟨_, by rw [e2.out]; rfl, by rw [e2.out]; exact .inl ⟨rfl, rfl⟩, hb3⟩
end Go.Proofs.YtmjdgakokldliaaGreatDoor
