/-
  Own text. (*node.Node).Bin by a contract: a copy of the bin of a rep, or nil.
-/
import Derived.Test.YteefjbdejcpepaaDoorNodeMem
namespace Go.Proofs.YteefjbdejcpepaaDoor
open Go.RowKit Go.Maps

theorem hideN {q : Prop} (h : q) : Hid q := h
def BinPost (w : World) (r : Option (List Hd)) (e : Ending) (w' : World) : Prop :=
  (match r with
    | none => e = .returned (.pointer none)
    | some l => ∃ p' F', e = .returned (.pointer (some p')) ∧ PBin0 w' p' F' l ∧ ∀ k, F' k → w.heap.size ≤ k) ∧ Below w.heap.size w w'
set_option maxRecDepth 100000 in
set_option maxHeartbeats 2000000 in
theorem nodeBin_any (x : Nat × Int) (p : Addr) (F : Nat → Prop) (st : NSt) (w : World) (hx : WfID x) (hP : PNode w p F st) :
    Calls Tryd.prog 51 #[.pointer (some p), idV (x.1 : Nat) x.2] w (BinPost w (nBin st.bins x)) := by
  obtain ⟨N, mf, mb, vi, pi, Fi, rfl, h, _⟩ := hP
  have hal := (Below.refl w.heap.size w).alloc (Nat.le_refl _) (.cells #[.int .u32 (x.1 : Nat), .int .i64 x.2] 37)
  have hI := Blk.new w #[.int .u32 (x.1 : Nat), .int .i64 x.2] 37
  have h1 := h.below hal
  have hN := h1.blk
  have HH := hideN h1
  cases hf : nBin st.bins x with
  | none =>
    have hl : ∀ W : World, idBins.Of W mb (st.bins.map fun b => (b.1, some (pi b.1))) → (Instr.lookup 132 (.map (some mb)) (idV (x.1 : Nat) x.2) true).run Tryd.prog W = .ok (.tuple #[.pointer none, .bool false]) W := fun W h => h.look_none Tryd.underlying132 (ptrZero W) hx (fun y hy => by
      obtain ⟨b, hb, rfl⟩ := List.mem_map.1 hy
      exact nBin_none hf b hb)
    clear h h1
    go_enter Tryd.func51, Tryd.ntmps51
    go_wp2_with fail
    generalize w.alloc (.cells #[.int .u32 (x.1 : Nat), .int .i64 x.2] 37) = W at *
    have x0 := hI.cell (i := 0) rfl
    have x1 := hI.cell (i := 1) rfl
    have q0 := hN.cell (i := 0) rfl
    have q1 := hN.cell (i := 1) rfl
    have l1 := hl W.drew (ofB_drew HH.out.bins)
    have l0 := hl W HH.out.bins
    go_wp2_with fail
    go_region
    all_goals
      have hb3 := below_drew hal
      generalize W.drew = W3 at *
      go_wp2_with fail
      go_ret
      exact ⟨rfl, hb3⟩
  | some l =>
    have hm := nBin_some hf
    have HB := hideN (h1.bin _ hm)
    have hl : ∀ W : World, idBins.Of W mb (st.bins.map fun b => (b.1, some (pi b.1))) → (Instr.lookup 132 (.map (some mb)) (idV (x.1 : Nat) x.2) true).run Tryd.prog W = .ok (.tuple #[.pointer (some (pi x)), .bool true]) W := fun W h => h.look_some Tryd.underlying132 (ptrZero W) (List.mem_map.2 ⟨_, hm, rfl⟩)
    clear h h1 hm
    generalize pi x = q at *
    simp only at HB
    go_enter Tryd.func51, Tryd.ntmps51
    go_wp2_with fail
    generalize w.alloc (.cells #[.int .u32 (x.1 : Nat), .int .i64 x.2] 37) = W at *
    have x0 := hI.cell (i := 0) rfl
    have x1 := hI.cell (i := 1) rfl
    have q0 := hN.cell (i := 0) rfl
    have q1 := hN.cell (i := 1) rfl
    have l1 := hl W.drew (ofB_drew HH.out.bins)
    have l0 := hl W HH.out.bins
    go_wp2_with fail
    go_region
    all_goals
      have hb3 := below_drew hal
      have HC := hideN (pCopy_any q (Fi x) l W.drew (HB.out.off (Off.of_below (F := fun _ => False) (Below.refl _ W).drew) (fun _ _ h => h)))
      generalize W.drew = W3 at *
      go_wp2_with fail
      refine HC.out.mono ?_
      rintro e w4 ⟨p', F', rfl, hp4, hf4, hb4⟩
      go_wp2_with fail
      go_ret
      exact ⟨⟨p', F', rfl, hp4, fun k hk => Nat.le_trans hb3.size (hf4 k hk)⟩, hb3.trans (hb4.mono hb3.size)⟩
end Go.Proofs.YteefjbdejcpepaaDoor
