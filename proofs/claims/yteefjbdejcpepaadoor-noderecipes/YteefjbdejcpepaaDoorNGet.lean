/-
  Own text. (*node.Node).Get by a contract, at a file that is there and whose bin has its pieces.
-/
import Derived.Test.YteefjbdejcpepaaDoorNRecipe
import Derived.Test.YteefjbdejcpepaaDoorNPut
import Derived.Test.YteefjbdejcpepaaDoorPRecs
import Derived.Test.YteefjbdejcpepaaDoorErrs
import Derived.Maps.Own
import Derived.Test.YteefjbdejcpepaaDoorCut
import Derived.Laws.MakeOwn
namespace Go.Proofs.YteefjbdejcpepaaDoor
open Go.RowKit Go.Maps

theorem look1 {P : Program} {k : TypeId} {κ β : Type} {M : MapKit P k κ β} {w : World} {b : Nat} {l : List (κ × β)} {t e : TypeId} {c0 : β} (h : M.Of w b l) (ht : P.underlying t = some (.map k e)) (hz : (zeroValue e).run P w = .ok (M.mkV c0) w) {x : κ} {c : β} (hm : (x, c) ∈ l) :
    (Instr.lookup t (.map (some b)) (M.mkK x) false).run P w = .ok (M.mkV c) w := by
  have hx : M.wf x := h.wf _ hm
  obtain ⟨ds, ho, hp⟩ := h.own
  obtain ⟨es, e, hap, _⟩ := ho.entries M.K
  cases e
  have hd : (M.kl x, DataW.held (M.mkV c)) ∈ ds := hp.mem_iff.2 (List.mem_map.2 ⟨_, hm, rfl⟩)
  have hat : ∀ z, (DataW.map ds).atKey (M.kl x) z = .held (M.mkV c) := fun z => WideAt.atKey_mem z (M.isKey hx) hap hd
  obtain ⟨v, ps, hrun, hv⟩ := ho.lookup M.K ht hz (M.R_mk c0) (M.key_kl hx)
  rw [hat] at hv
  obtain ⟨c', rfl, e⟩ := M.R_inv hv
  have ev : M.mkV c = M.mkV c' := DataW.held.inj (Prod.mk.inj e).1
  rw [hrun, ev]
theorem bare_nil (w : World) : Calls Tryd.prog 101 #[.nilIface] w fun e w' => e = .returned .nilIface ∧ Below w.heap.size w w' := by
  have hal := (Below.refl w.heap.size w).alloc (Nat.le_refl _) (.cells #[.pointer none] 29)
  go_enter Tryd.func101, Tryd.ntmps101
  go_wp2_with fail
  refine (as_nil _ _).mono ?_
  rintro e w1 ⟨rfl, hw1⟩
  subst hw1
  go_wp2_with fail
  go_ret
  exact ⟨rfl, hal⟩
set_option maxRecDepth 100000 in
set_option maxHeartbeats 4000000 in
theorem nodeGet_some (a : Nat → Addr) (nm : ByteArray) (p : Addr) (F : Nat → Prop) (st : NSt) (w : World) (s : List UInt8) (l : List Hd) (hnm : nm.size ≤ 50000) (hf : nFile st.files nm.data.toList = some s) (hb : nBin st.bins (repT s) = some l) (hgot : ∀ t ∈ pieces s, hGet l (idOfL t) = (t, 0)) (hname : isName nm.data.toList = true) (hs : s.length ≤ 4000) (hE : ErrE [1, 2, 3, 4, 6, 8] w a) (hP : PNode w p F st) :
    Calls Tryd.prog 75 #[.pointer (some p), .string nm] w fun e w' => e = .returned (.tuple #[.string ⟨s.toArray⟩, .nilIface]) ∧ Below w.heap.size w w' := by
  obtain ⟨N, mf, mb, vi, pi, Fi, rfl, h, _⟩ := hP
  have HEE : Hid (∀ W, Below w.heap.size w W → ErrE [1, 2, 3, 4, 6, 8] W a) := fun W hb => hE.below hb (Nat.le_refl _)
  have HH := hideN h
  have q0 := h.blk.cell (i := 0) rfl
  have q1 := h.blk.cell (i := 1) rfl
  have hnmE : (⟨nm.data.toList.toArray⟩ : ByteArray) = nm := by simp
  obtain ⟨pv0, cv0, hv0, _⟩ := h.ids _ (nFile_some hf)
  have HI := hideN (h.ids _ (nFile_some hf))
  simp only at hv0 HI
  have HLEN : Hid ((idsOf s).length ≤ 4000) := by
    show _ ≤ _
    have h1 := pieces_len_le s
    unfold idsOf
    rw [List.length_map]
    omega
  have HB := hideN (h.bin _ (nBin_some hb))
  have hmb := nBin_some hb
  have l0 : (Instr.lookup 131 (.map (some mf)) (.string nm) true).run Tryd.prog w = .ok (.tuple #[.agg #[.string nm, .int .i64 (s.length : Int), .int .u32 ((pmore 2166136261 s : Nat) : Int), .slice pv0 (idsOf s).length cv0], .bool true]) w := by
    have := h.files.look_some Tryd.underlying131 (rcpZero _) (List.mem_map.2 ⟨_, nFile_some hf, rfl⟩)
    change (Instr.lookup _ _ (.string ⟨nm.data.toList.toArray⟩) true).run _ _ = .ok (.tuple #[rcpV ⟨nm.data.toList.toArray⟩ (s.length : Int) ((pmore 2166136261 s : Nat) : Int) (vi nm.data.toList), .bool true]) _ at this
    rw [hnmE, hv0] at this
    exact this
  rw [hv0] at HI
  obtain ⟨P, hPP⟩ : ∃ P, pmore 2166136261 s = P := ⟨_, rfl⟩
  obtain ⟨L, hLL⟩ : ∃ L, (s.length : Int) = L := ⟨_, rfl⟩
  obtain ⟨idl, hidl⟩ : ∃ idl, (idsOf s).length = idl := ⟨_, rfl⟩
  obtain ⟨⟨rp, rl⟩, hrep⟩ : ∃ r, repT s = r := ⟨_, rfl⟩
  have HPP := hideN hPP
  have HLL := hideN hLL
  have HID := hideN hidl
  have HRP := hideN hrep
  have HGOT := hideN hgot
  have HJ := hideN (joinOf_pieces nm.data.toList s hname hs)
  rw [hPP, hLL, hidl] at l0
  rw [hidl] at HI HLEN
  rw [hrep] at HB hmb
  rw [hPP, hLL] at HJ
  clear hnmE hE hv0 hPP hLL hidl hf hb hgot hname hs h hrep
  have hal := (Below.refl w.heap.size w).alloc (Nat.le_refl _) (.cells #[.string nm, .int .i64 L, .int .u32 (P : Nat), .slice pv0 idl cv0] 87)
  have hbr := Blk.new w #[.string nm, .int .i64 L, .int .u32 (P : Nat), .slice pv0 idl cv0] 87
  go_enter Tryd.func75, Tryd.ntmps75
  go_wp2_with fail
  generalize hW : w.alloc (.cells #[.string nm, .int .i64 L, .int .u32 (P : Nat), .slice pv0 idl cv0] 87) = W at *
  clear hW
  have HB1 := hideN hal
  have HN1 := hideN (HH.out.below hal)
  have HI1 := hideN (HI.out.below hal)
  have HREP := hideN (fun W (hv : IdsAt W (.slice pv0 idl cv0) (idsOf s)) => rep_any nm L (P : Int) (.slice pv0 idl cv0) (idsOf s) W hv (by rw [HID.out]; have := HLEN.out; unfold maxLen; omega))
  change Hid (∀ W, _ → Calls _ _ _ W fun e w' => e = .returned (idV ((repT s).1 : Nat) (repT s).2) ∧ _) at HREP
  rw [HRP.out] at HREP
  simp only at HREP
  have HBL := hideN hbr
  have HCE : Hid (∀ W', Blk W' N #[.map (some mf), .map (some mb)] 134 → Blk W' w.heap.size #[.string nm, .int .i64 L, .int .u32 (P : Nat), .slice pv0 idl cv0] 87 → W'.cell? ⟨N, 1, none⟩ = some (.map (some mb)) ∧ W'.cell? ⟨w.heap.size, 0, none⟩ = some (.string nm) ∧ W'.cell? ⟨w.heap.size, 1, none⟩ = some (.int .i64 L) ∧ W'.cell? ⟨w.heap.size, 2, none⟩ = some (.int .u32 (P : Nat)) ∧ W'.cell? ⟨w.heap.size, 3, none⟩ = some (.slice pv0 idl cv0)) := fun W' h1 h2 => ⟨h1.cell (i := 1) rfl, h2.cell (i := 0) rfl, h2.cell (i := 1) rfl, h2.cell (i := 2) rfl, h2.cell (i := 3) rfl⟩
  obtain ⟨z1, y0, y1, y2, y3⟩ := HCE.out _ HN1.out.blk HBL.out
  clear q0 q1 l0 hal hbr HH HI
  go_region_held3 (fun w' => w'.cell? ⟨N, 1, none⟩ = some (.map (some mb)) ∧ w'.cell? ⟨w.heap.size, 0, none⟩ = some (.string nm) ∧ w'.cell? ⟨w.heap.size, 1, none⟩ = some (.int .i64 L) ∧ w'.cell? ⟨w.heap.size, 2, none⟩ = some (.int .u32 (P : Nat)) ∧ w'.cell? ⟨w.heap.size, 3, none⟩ = some (.slice pv0 idl cv0)) (first | exact HCE.out _ HN2.out.blk HBL2.out | go_keep) (first
    | (go_at_call 52; refine (HREP.out _ (HI1.out.below (Below.refl _ W).drew)).mono ?_; rintro e w2 ⟨rfl, hb2⟩; have hB2 : Below W.heap.size W w2 := (Below.refl _ W).drew.trans hb2; have HN2 := hideN (HN1.out.below hB2); have HBL2 := hideN (HBL.out.next hB2); have HI2 := hideN (HI1.out.below hB2); have HB2 : Hid (Below w.heap.size w w2) := HB1.out.trans (hB2.mono HB1.out.size); have HWsz := hideN hB2.size; have l1 := look1 HN2.out.bins Tryd.underlying132 (ptrZero w2) (List.mem_map.2 ⟨_, hmb, rfl⟩); change (Instr.lookup 132 (.map (some mb)) (idV (rp : Nat) rl) false).run Tryd.prog w2 = .ok (.pointer (some (pi (rp, rl)))) w2 at l1; clear hb2 hB2))
  obtain ⟨iS, hiS, zS0, zS1, zS2⟩ := info_parts infoStr
  obtain ⟨A0, mk, hA0⟩ : ∃ A0 : Array Value, (Instr.makeSlice 54 (.int .i64 (idl : Int)) (.int .i64 (idl : Int))).run Tryd.prog w2 = .ok (.slice (some ⟨w2.heap.size, 0, none⟩) idl idl) (w2.alloc (.cells A0 9)) ∧ A0.size = idl := by
    have hl := HLEN.out
    have h1 := run_makeSlice (P := Tryd.prog) (w := w2) 54 9 iS (.string ⟨#[]⟩) Tryd.underlying54 hiS zS0 .i64 .i64 (idl : Int) (idl : Int) (by omega) (Int.le_refl _) (by rw [zS1]; simp; omega) (by rw [zS2]; omega) (by omega)
    simp only [Int.toNat_natCast] at h1
    exact ⟨_, h1, by rw [size_madeCells, zS1]; omega⟩
  have hal3 := (Below.refl w2.heap.size w2).alloc (Nat.le_refl _) (.cells A0 9)
  have hbA := Blk.new w2 A0 9
  have HB3 : Hid (Below w.heap.size w _) := hideN (HB2.out.trans (hal3.mono HB2.out.size))
  have HN3 := hideN (HN2.out.below hal3)
  have HI3 := hideN (HI2.out.below hal3)
  have HBL3 := hideN (HBL2.out.next hal3)
  have hBAlt : w.heap.size < w2.heap.size := HBL2.out.lt
  have HWB := hideN HWsz.out
  obtain ⟨_, u0, u1, u2, u3⟩ := HCE.out _ HN3.out.blk HBL3.out
  have hidl4 : (idl : Int) ≤ 4000 := by have := HLEN.out; omega
  clear hal3 HN2 HI2 HBL2 HB2 l1
  have HSZA := hideN hA0
  have HPL : Hid ((pieces s).length = idl) := by
    show _ = _
    rw [← HID.out]
    unfold idsOf
    rw [List.length_map]
  go_wp2_with fail
  generalize hW3 : w2.alloc (.cells A0 9) = W3 at *
  clear hW3
  generalize w2.heap.size = BB at *
  obtain ⟨q, hq⟩ : ∃ q, pi (rp, rl) = q := ⟨_, rfl⟩
  have HPB : Hid (PBin0 W3 q (Fi (rp, rl)) l) := by
    show PBin0 _ _ _ _
    rw [← hq]
    exact HN3.out.bin _ hmb
  have HFI : Hid (∀ j, Fi (rp, rl) j → j ≠ BB) := fun j hj e => by
    have h1 := HB.out.lt j hj
    omega
  rw [hq]
  have HIL : Hid (∀ j, (Value.slice pv0 idl cv0).ownBlock = some j → idsOf s ≠ [] → j ≠ BB) := fun j hj hne e => by
    have h1 := HI1.out.lt hne hj
    have h2 := HWB.out
    omega
  clear hq mk hA0 u0 u1 u2
  go_loopw [40] (fun iv wr => ∃ (k : Nat) (A : Array Value), k ≤ idl ∧ iv = .int .i64 k ∧ Hid (Blk wr BB A 9) ∧ Hid (A.size = idl ∧ ∀ j, j < k → A[j]? = some (txtV ((pieces s)[j]?.getD []))) ∧ Hid (Below w.heap.size w wr) ∧ Hid (Off (fun j => j = BB) W3 wr)) (fun iv _ => idl - (intOf iv).toNat)
  case atStart => exact ⟨0, A0, Nat.zero_le _, rfl, hbA, ⟨HSZA.out, fun j hj => by omega⟩, HB3.out, Off.of_below (Below.refl _ _)⟩
  case round =>
    clear hbA
    obtain ⟨k, A, hk, rfl, HA, HAS, HBR, HO⟩ := hrel
    by_cases hlt : k < idl
    · have hlt' : (k : Int) < (idl : Int) := by omega
      have hk0 : (0 : Int) ≤ (k : Int) := by omega
      have hIr := HI3.out.off HO.out (fun hne j hj e => HIL.out j hj hne e)
      obtain ⟨pq, cq, hve, hcell⟩ := hIr
      obtain ⟨b, o, hpq, hbl, c0, c1⟩ := hcell k (by rw [HID.out]; exact hlt)
      obtain ⟨rfl, rfl⟩ : pv0 = pq ∧ cv0 = cq := by have := hve; simp at this; exact ⟨this.1, this.2.2⟩
      subst hpq
      have hkp : k < (pieces s).length := by rw [HPL.out]; exact hlt
      obtain ⟨t, ht⟩ : ∃ t, (pieces s)[k] = t := ⟨_, rfl⟩
      have hid : (idsOf s)[k]'(by rw [HID.out]; exact hlt) = (pmore 2166136261 t, (t.length : Int)) := by
        unfold idsOf
        rw [List.getElem_map, ht]
      rw [hid] at c0 c1
      simp only at c0 c1
      have HTG := hideN (HGOT.out t (by rw [← ht]; exact List.getElem_mem hkp))
      have HTL := hideN (piece_le (s := s) (q := t) (by rw [← ht]; exact List.getElem_mem hkp))
      have HTP : Hid ((pieces s)[k]?.getD [] = t) := by show _ = _; rw [List.getElem?_eq_getElem hkp, ht]; rfl
      obtain ⟨xp, hxp⟩ : ∃ xp, pmore 2166136261 t = xp := ⟨_, rfl⟩
      obtain ⟨xl, hxl⟩ : ∃ xl, (t.length : Int) = xl := ⟨_, rfl⟩
      have HX : Hid (idOfL t = (xp, xl)) := by show (pmore 2166136261 t, (t.length : Int)) = _; rw [hxp, hxl]
      have HXW : Hid (WfID (xp, xl)) := ⟨by rw [← hxp]; exact pmore_lt _ (by decide) _, by rw [← hxl]; simp only; omega, by rw [← hxl]; have := HTL.out; simp only; omega⟩
      rw [hxp] at c0
      rw [hxl] at c1
      rw [HX.out] at HTG
      clear hcell hve hid ht hkp hxp hxl
      have hal4 := (Below.refl wr.heap.size wr).alloc (Nat.le_refl _) (.cells #[.int .u32 (xp : Nat), .int .i64 xl] 37)
      have hbi := Blk.new wr #[.int .u32 (xp : Nat), .int .i64 xl] 37
      have HA4 := hideN (HA.out.next hal4)
      have HB4 : Hid (Below w.heap.size w _) := hideN (HBR.out.trans (hal4.mono HBR.out.size))
      have HPB4 := hideN ((HPB.out.off HO.out (fun j hj e => HFI.out j hj e)).off (Off.of_below (F := fun _ => False) hal4) (fun _ _ h => h))
      have HO4 : Hid (Off (fun j => j = BB) W3 _) := hideN (HO.out.trans (Off.of_below (F := fun _ => False) hal4) (fun _ _ h => h.elim))
      have hneB : wr.heap.size ≠ BB := by have := HA.out.lt; omega
      go_wp2_with fail
      generalize wr.alloc (.cells #[.int .u32 (xp : Nat), .int .i64 xl] 37) = W at *
      generalize wr.heap.size = HB9 at *
      refine (pGet_any (xp, xl) q (Fi (rp, rl)) l W HXW.out ((HEE.out _ HB4.out).sub (by decide)) HPB4.out).mono ?_
      rintro e w5 ⟨ev5, rfl, _, hb5⟩
      rw [HTG.out]
      simp only
      have hA5 := HA4.out.next hb5
      have hkA : k < A.size := by rw [HAS.out.1]; exact hlt
      have b0 := hA5.cell (i := k) (Array.getElem?_eq_getElem hkA)
      have f0 := hA5.frozen k
      have HB5 : Hid (Below w.heap.size w w5) := HB4.out.trans (hb5.mono HB4.out.size)
      have HO5 : Hid (Off (fun j => j = BB) W3 w5) := HO4.out.trans (Off.of_below (F := fun _ => False) hb5) (fun _ _ h => h.elim)
      obtain ⟨X, hX⟩ : ∃ X : Value, A[k] = X := ⟨_, rfl⟩
      rw [hX] at b0
      obtain ⟨T, hT⟩ : ∃ T : ByteArray, (⟨t.toArray⟩ : ByteArray) = T := ⟨_, rfl⟩
      have HT := hideN hT
      rw [hT]
      have HA6 := hideN (hA5.set k (.string T))
      have HO6 := hideN (HO5.out.setCell (p := ⟨BB, k, none⟩) (.inl rfl) (.string T))
      have HB6 := hideN (HB5.out.setCell (p := ⟨BB, k, none⟩) (show w.heap.size ≤ BB by omega) (.string T))
      have HAS6 : Hid ((A.setIfInBounds k (.string T)).size = idl ∧ ∀ j, j < k + 1 → (A.setIfInBounds k (.string T))[j]? = some (txtV ((pieces s)[j]?.getD []))) := by
        refine ⟨by rw [Array.size_setIfInBounds]; exact HAS.out.1, fun j hj => ?_⟩
        by_cases e : j = k
        · subst e
          rw [Array.getElem?_setIfInBounds_self_of_lt hkA, HTP.out, ← HT.out]
        · rw [Array.getElem?_setIfInBounds_ne (fun e' => e e'.symm)]
          exact HAS.out.2 j (by omega)
      clear hA5 hb5 hX hT hkA
      go_wp2_with fail
      go_roundw
      case rel => exact ⟨k + 1, _, hlt, by go_num, HA6.out, HAS6.out, HB6.out, HO6.out⟩
      case measure => simp [intOf]; omega
    · have hge : (idl : Int) ≤ (k : Int) := by omega
      obtain rfl : k = idl := by omega
      have hbr9 := HO.out.blk HBL3.out (fun e => by omega)
      have hIr := HI3.out.off HO.out (fun hne j hj e => HIL.out j hj hne e)
      have HCA : Hid (CellsAt wr (.slice (some ⟨BB, 0, none⟩) k k) ((pieces s).map txtV)) := by
        refine ⟨some ⟨BB, 0, none⟩, k, by rw [List.length_map, HPL.out], fun i hi => ?_⟩
        rw [List.length_map] at hi
        refine ⟨BB, 0, rfl, ⟨HA.out.lt, by rw [List.length_map, HPL.out]; exact Nat.le_refl _⟩, ?_⟩
        rw [List.getElem_map, Nat.zero_add]
        have := HAS.out.2 i (by rw [← HPL.out]; exact hi)
        rw [List.getElem?_eq_getElem hi] at this
        exact HA.out.cell (i := i) this
      have HJN := hideN (rjoin_any a nm (by unfold maxLen; omega) L P (.slice pv0 k cv0) (.slice (some ⟨BB, 0, none⟩) k k) (idsOf s) (pieces s) wr ((HEE.out _ HBR.out).sub (by decide)) hIr (by rw [HID.out]; have := HLEN.out; unfold maxLen; omega) HCA.out (by rw [HPL.out]; have := HLEN.out; omega) (fun i hi => by have := piece_le (List.getElem_mem hi); omega))
      unfold joinPost at HJN
      rw [HJ.out] at HJN
      simp only at HJN
      have x0 := hbr9.cell (i := 0) rfl
      have x1 := hbr9.cell (i := 1) rfl
      have x2 := hbr9.cell (i := 2) rfl
      have x3 := hbr9.cell (i := 3) rfl
      clear hbr9 hIr HCA
      go_wp2_with fail
      refine HJN.out.mono ?_
      rintro e w6 ⟨ev6, rfl, he6, hb6⟩
      obtain rfl := he6.nil
      have HB6 : Hid (Below w.heap.size w w6) := HBR.out.trans (hb6.mono HBR.out.size)
      clear hb6 he6
      go_wp2_with fail
      refine (bare_nil w6).mono ?_
      rintro e w7 ⟨rfl, hb7⟩
      go_wp2_with fail
      go_ret2
      exact ⟨rfl, HB6.out.trans (hb7.mono HB6.out.size)⟩
end Go.Proofs.YteefjbdejcpepaaDoor
