/-
  Own text. (*node.Node).Recipe by a contract.
-/
import Derived.Test.YteefjbdejcpepaaDoorNClone
import Derived.Test.YteefjbdejcpepaaDoorErrE
namespace Go.Proofs.YteefjbdejcpepaaDoor
open Go.RowKit Go.Maps

def RecPost (a : Nat → Addr) (nm : ByteArray) (w : World) (r : Option (List UInt8)) (e : Ending) (w' : World) : Prop :=
  (match r with
    | none => ∃ ev, e = .returned (.tuple #[rcpV ⟨#[]⟩ 0 0 (.slice none 0 0), ev]) ∧ ErrIn w.heap.size w' a ev (5, -1)
    | some s => ∃ v, e = .returned (.tuple #[rcpV nm (s.length : Int) ((pmore 2166136261 s : Nat) : Int) v, .nilIface]) ∧ IdsIn w.heap.size w' v (idsOf s)) ∧ Below w.heap.size w w'
theorem IdsIn.off {base : Nat} {F : Nat → Prop} {w w' : World} {v : Value} {ids : List (Nat × Int)} (h : IdsIn base w v ids) (ho : Off F w w') (hn : ∀ k, base ≤ k → ¬ F k) : IdsIn base w' v ids := by
  obtain ⟨p, c, rfl, h⟩ := h
  refine ⟨p, c, rfl, fun i hi => ?_⟩
  obtain ⟨b, o, rfl, hb0, hb, h0, h1⟩ := h i hi
  have he : w'.heap[b]? = w.heap[b]? := ho.block b hb (hn b hb0)
  exact ⟨b, o, rfl, hb0, Nat.lt_of_lt_of_le hb ho.size, (World.cell?_of_block (w := w) he).trans h0, (World.cell?_of_block (w := w) he).trans h1⟩
set_option maxRecDepth 100000 in
set_option maxHeartbeats 2000000 in
theorem nodeRecipe_any (a : Nat → Addr) (nm : ByteArray) (p : Addr) (F : Nat → Prop) (st : NSt) (w : World) (hnm : nm.size ≤ 50000) (hlen : ∀ f ∈ st.files, (idsOf f.2).length ≤ 50000) (hE : ErrE [4] w a) (hP : PNode w p F st) :
    Calls Tryd.prog 48 #[.pointer (some p), .string nm] w (RecPost a nm w (nFile st.files nm.data.toList)) := by
  obtain ⟨N, mf, mb, vi, pi, Fi, rfl, h, _⟩ := hP
  have HEE : Hid (∀ W, Below w.heap.size w W → ErrE [4] W a) := fun W hb => hE.below hb (Nat.le_refl _)
  have hal := (Below.refl w.heap.size w).alloc (Nat.le_refl _) (.cells #[.string ⟨#[]⟩, .int .i64 0, .int .u32 0, .slice none 0 0] 87)
  have hbr := Blk.new w #[.string ⟨#[]⟩, .int .i64 0, .int .u32 0, .slice none 0 0] 87
  have h1 := h.below hal
  have q0 := h1.blk.cell (i := 0) rfl
  have HH := hideN h1
  have hnw : WfNm nm.data.toList := by show nm.data.toList.length ≤ maxLen; rw [Array.length_toList]; show nm.size ≤ maxLen; unfold maxLen; omega
  have hnmE : (⟨nm.data.toList.toArray⟩ : ByteArray) = nm := by simp
  cases hf : nFile st.files nm.data.toList with
  | none =>
    have l0 : (Instr.lookup 131 (.map (some mf)) (.string nm) true).run Tryd.prog (w.alloc (.cells #[.string ⟨#[]⟩, .int .i64 0, .int .u32 0, .slice none 0 0] 87)) = .ok (.tuple #[.agg #[.string ⟨#[]⟩, .int .i64 0, .int .u32 0, .slice none 0 0], .bool false]) (w.alloc (.cells #[.string ⟨#[]⟩, .int .i64 0, .int .u32 0, .slice none 0 0] 87)) := by
      have := h1.files.look_none Tryd.underlying131 (rcpZero _) hnw (fun y hy => by
        obtain ⟨f, hfm, rfl⟩ := List.mem_map.1 hy
        exact nFile_none hf f hfm)
      change (Instr.lookup _ _ (.string ⟨nm.data.toList.toArray⟩) true).run _ _ = _ at this
      rw [hnmE] at this
      exact this
    clear h h1 hf hnmE hE hlen
    go_enter Tryd.func48, Tryd.ntmps48
    have hal2 := (Below.refl (w.alloc (.cells #[.string ⟨#[]⟩, .int .i64 0, .int .u32 0, .slice none 0 0] 87)).heap.size (w.alloc (.cells #[.string ⟨#[]⟩, .int .i64 0, .int .u32 0, .slice none 0 0] 87))).alloc (Nat.le_refl _) (.cells #[.string ⟨#[]⟩, .int .i64 0, .int .u32 0, .slice none 0 0] 87)
    have HB2 : Hid (Below w.heap.size w _) := hideN (hal.trans (hal2.mono hal.size))
    have hbr2 := hbr.next hal2
    have g4 := (HEE.out _ HB2.out).glob 4 rfl
    change World.cell? _ ⟨4, 0, none⟩ = _ at g4
    have hgl : 4 < w.heap.size := lt_of_cell ((HEE.out w (Below.refl _ _)).glob 4 rfl)
    have hgl2 : 4 ≠ w.heap.size := by omega
    clear hal hal2 hbr
    go_wp2_with fail
    generalize ((w.alloc (.cells #[.string ⟨#[]⟩, .int .i64 0, .int .u32 0, .slice none 0 0] 87)).alloc (.cells #[.string ⟨#[]⟩, .int .i64 0, .int .u32 0, .slice none 0 0] 87)) = W2 at *
    have k0 := hbr2.cell (i := 0) rfl
    have k1 := hbr2.cell (i := 1) rfl
    have k2 := hbr2.cell (i := 2) rfl
    have k3 := hbr2.cell (i := 3) rfl
    have f0 := hbr2.frozen 0
    have f1 := hbr2.frozen 1
    have f2 := hbr2.frozen 2
    have f3 := hbr2.frozen 3
    go_region
    all_goals
      go_wp2_with fail
      have hRs := (((hbr2.set 0 (.string ⟨#[]⟩)).set 1 (.int .i64 0)).set 2 (.int .u32 0)).set 3 (.slice none 0 0)
      have s0 := hRs.cell (i := 0) rfl
      have s1 := hRs.cell (i := 1) rfl
      have s2 := hRs.cell (i := 2) rfl
      have s3 := hRs.cell (i := 3) rfl
      exact bodyPost_ret (v := .tuple #[.agg #[.string ⟨#[]⟩, .int .i64 0, .int .u32 0, .slice none 0 0], sentV a 4]) (by simp [results, Tryd.results48, go_sem, s0, s1, s2, s3]) rfl ⟨⟨_, rfl, .inr (.inl ⟨4, by decide, rfl, rfl⟩)⟩, ((((HB2.out.setCell (p := ⟨w.heap.size, 0, none⟩) (Nat.le_refl _) _).setCell (p := ⟨w.heap.size, 1, none⟩) (Nat.le_refl _) _).setCell (p := ⟨w.heap.size, 2, none⟩) (Nat.le_refl _) _).setCell (p := ⟨w.heap.size, 3, none⟩) (Nat.le_refl _) _).drew⟩
  | some s =>
    obtain ⟨pv0, cv0, hv0, _⟩ := h1.ids _ (nFile_some hf)
    have HL := hideN (hlen _ (nFile_some hf))
    have HI := hideN (h1.ids _ (nFile_some hf))
    simp only at hv0 HL HI
    have l0 : (Instr.lookup 131 (.map (some mf)) (.string nm) true).run Tryd.prog (w.alloc (.cells #[.string ⟨#[]⟩, .int .i64 0, .int .u32 0, .slice none 0 0] 87)) = .ok (.tuple #[.agg #[.string nm, .int .i64 (s.length : Int), .int .u32 ((pmore 2166136261 s : Nat) : Int), .slice pv0 (idsOf s).length cv0], .bool true]) (w.alloc (.cells #[.string ⟨#[]⟩, .int .i64 0, .int .u32 0, .slice none 0 0] 87)) := by
      have := h1.files.look_some Tryd.underlying131 (rcpZero _) (List.mem_map.2 ⟨_, nFile_some hf, rfl⟩)
      change (Instr.lookup _ _ (.string ⟨nm.data.toList.toArray⟩) true).run _ _ = .ok (.tuple #[rcpV ⟨nm.data.toList.toArray⟩ (s.length : Int) ((pmore 2166136261 s : Nat) : Int) (vi nm.data.toList), .bool true]) _ at this
      rw [hnmE, hv0] at this
      exact this
    rw [hv0] at HI
    obtain ⟨P, hPP⟩ : ∃ P, pmore 2166136261 s = P := ⟨_, rfl⟩
    obtain ⟨L, hLL⟩ : ∃ L, (s.length : Int) = L := ⟨_, rfl⟩
    obtain ⟨idl, hidl⟩ : ∃ idl, (idsOf s).length = idl := ⟨_, rfl⟩
    have HPP := hideN hPP
    have HLL := hideN hLL
    have HID := hideN hidl
    rw [hPP, hLL, hidl] at l0
    rw [hidl] at HI
    clear h h1 hf hnmE hE hlen hv0 hPP hLL hidl
    have hal2 := (Below.refl (w.alloc (.cells #[.string ⟨#[]⟩, .int .i64 0, .int .u32 0, .slice none 0 0] 87)).heap.size (w.alloc (.cells #[.string ⟨#[]⟩, .int .i64 0, .int .u32 0, .slice none 0 0] 87))).alloc (Nat.le_refl _) (.cells #[.string nm, .int .i64 L, .int .u32 (P : Nat), .slice pv0 idl cv0] 87)
    go_enter Tryd.func48, Tryd.ntmps48
    have hbr2 := hbr.next hal2
    have hr2 := Blk.new (w.alloc (.cells #[.string ⟨#[]⟩, .int .i64 0, .int .u32 0, .slice none 0 0] 87)) #[.string nm, .int .i64 L, .int .u32 (P : Nat), .slice pv0 idl cv0] 87
    have hs1 : (w.alloc (.cells #[.string ⟨#[]⟩, .int .i64 0, .int .u32 0, .slice none 0 0] 87)).heap.size = w.heap.size + 1 := by simp
    rw [hs1] at hr2
    have HB2 : Hid (Below w.heap.size w _) := hideN (hal.trans (hal2.mono hal.size))
    have HI2 := hideN (HI.out.below hal2)
    clear hal hal2 hbr HI hs1
    go_wp2_with fail
    generalize ((w.alloc (.cells #[.string ⟨#[]⟩, .int .i64 0, .int .u32 0, .slice none 0 0] 87)).alloc (.cells #[.string nm, .int .i64 L, .int .u32 (P : Nat), .slice pv0 idl cv0] 87)) = W2 at *
    refine (cloneIds_any (.slice pv0 idl cv0) (idsOf s) W2 HI2.out HL.out).mono ?_
    rintro e w3 ⟨v3, rfl, hi3, hb3⟩
    have HI3 := hideN hi3
    have HB3 : Hid (Below w.heap.size w w3) := HB2.out.trans (hb3.mono HB2.out.size)
    have hbr3 := hbr2.next hb3
    have hr3 := hr2.next hb3
    have hlt3 := hr2.lt
    obtain ⟨p3, c3, hv3, _⟩ := hi3
    rw [HID.out] at hv3
    subst hv3
    clear hb3 HI2 hbr2 hr2
    have hr4 := hr3.set 3 (.slice p3 idl c3)
    have hbr4 := hbr3.other (a := ⟨w.heap.size + 1, 3, none⟩) (by simp only; omega) (.slice p3 idl c3)
    have y3 := hr3.cell (i := 3) rfl
    have z3 := hr3.frozen 3
    have k0 := hbr4.cell (i := 0) rfl
    have k1 := hbr4.cell (i := 1) rfl
    have k2 := hbr4.cell (i := 2) rfl
    have k3 := hbr4.cell (i := 3) rfl
    have f0 := hbr4.frozen 0
    have f1 := hbr4.frozen 1
    have f2 := hbr4.frozen 2
    have f3 := hbr4.frozen 3
    have r0 := hr4.cell (i := 0) rfl
    have r1 := hr4.cell (i := 1) rfl
    have r2 := hr4.cell (i := 2) rfl
    have r3 := hr4.cell (i := 3) rfl
    go_wp2_with fail
    have hRs := (((hbr4.set 0 (.string nm)).set 1 (.int .i64 L)).set 2 (.int .u32 (P : Nat))).set 3 (.slice p3 idl c3)
    have s0 := hRs.cell (i := 0) rfl
    have s1 := hRs.cell (i := 1) rfl
    have s2 := hRs.cell (i := 2) rfl
    have s3 := hRs.cell (i := 3) rfl
    have hO := (((((Off.of_below (F := fun k => k = w.heap.size ∨ k = w.heap.size + 1) (Below.refl w3.heap.size w3)).setCell (p := ⟨w.heap.size + 1, 3, none⟩) (.inl (.inr rfl)) (.slice p3 idl c3)).setCell (p := ⟨w.heap.size, 0, none⟩) (.inl (.inl rfl)) (.string nm)).setCell (p := ⟨w.heap.size, 1, none⟩) (.inl (.inl rfl)) (.int .i64 L)).setCell (p := ⟨w.heap.size, 2, none⟩) (.inl (.inl rfl)) (.int .u32 (P : Nat))).setCell (p := ⟨w.heap.size, 3, none⟩) (.inl (.inl rfl)) (.slice p3 idl c3)
    have hi9 := (HI3.out.off hO (fun k hk e => by rcases e with e | e <;> omega)).low (show w.heap.size ≤ W2.heap.size by omega)
    exact bodyPost_ret (v := .tuple #[.agg #[.string nm, .int .i64 L, .int .u32 (P : Nat), .slice p3 idl c3], .nilIface]) (by simp [results, Tryd.results48, go_sem, s0, s1, s2, s3]) rfl ⟨⟨.slice p3 idl c3, by rw [HLL.out, HPP.out], hi9⟩, HB3.out.trans (hO.below HB3.out.size (fun j hj e => by rcases e with e | e <;> omega))⟩
end Go.Proofs.YteefjbdejcpepaaDoor
