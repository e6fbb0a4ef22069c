/-
  Own text. (*node.Node).Get by a contract, at a file that is there and whose bin has its pieces.
  Own text. What putting a file makes of a node, pure: its bins stay right, the file is there, its rep has a bin; the closed example of the law.
  Own text. A node's bins and its files, pure: of each rep, its bin has the pieces of its files, each used as often as they have it (WLog, NInv); what put, drop, sweep make of it.
-/
import Derived.Test.YtjdobbjdlighpabGreatDoorH15
import Derived.Test.YtjdobbjdlighpabGreatDoorH25
import Derived.Test.YtjdobbjdlighpabGreatDoorH26
import Derived.Test.YtjdobbjdlighpabGreatDoorH01
import Derived.Maps.Own
import Derived.Test.YtjdobbjdlighpabGreatDoorH20
import Derived.Laws.MakeOwn
import Derived.Test.YtjdobbjdlighpabGreatDoorH12
namespace Go.Proofs.YtjdobbjdlighpabGreatDoor
open Go.RowKit Go.Maps

theorem look1 {P : Program} {k : TypeId} {κ β : Type} {M : MapKit P k κ β} {w : World} {b : Nat} {l : List (κ × β)} {t e : TypeId} {c0 : β} (h : M.Of w b l) (ht : P.underlying t = some (.map k e)) (hz : (zeroValue e).run P w = .ok (M.mkV c0) w) {x : κ} {c : β} (hm : (x, c) ∈ l) :
    (Instr.lookup t (.map (some b)) (M.mkK x) false).run P w = .ok (M.mkV c) w := by
  have hx : M.wf x := h.wf _ hm
  obtain ⟨ds, ho, hp⟩ := h.own
  obtain ⟨es, e, hap, _⟩ := ho.entries M.K
  cases e
  have hd : (M.kl x, DataW.held (M.mkV c)) ∈ ds := hp.mem_iff.2 (List.mem_map.2 ⟨_, hm, rfl⟩)
  have hat : ∀ z, (DataW.map ds).atKey (M.kl x) z = .held (M.mkV c) := fun z => WideAt.atKey_mem z (M.isKey hx) hap hd
  obtain ⟨v, ps, hrun, hv⟩ := ho.lookup M.K ht hz (M.R_mk c0) (M.key_kl hx)
  rw [hat] at hv
  obtain ⟨c', rfl, e⟩ := M.R_inv hv
  have ev : M.mkV c = M.mkV c' := DataW.held.inj (Prod.mk.inj e).1
  rw [hrun, ev]
theorem bare_nil (w : World) : Calls Tryz.prog 91 #[.nilIface] w fun e w' => e = .returned .nilIface ∧ Below w.heap.size w w' := by
  have hal := (Below.refl w.heap.size w).alloc (Nat.le_refl _) (.cells #[.pointer none] 186)
  go_enter Tryz.func91, Tryz.ntmps91
  go_wp2_with fail
  refine (as_nil _ _).mono ?_
  rintro e w1 ⟨rfl, hw1⟩
  subst hw1
  go_wp2_with fail
  go_ret
  exact ⟨rfl, hal⟩
set_option maxRecDepth 100000 in
set_option maxHeartbeats 4000000 in
theorem nodeGet_some (a : Nat → Addr) (nm : ByteArray) (p : Addr) (F : Nat → Prop) (st : NSt) (w : World) (s : List UInt8) (l : List Hd) (hnm : nm.size ≤ 50000) (hf : nFile st.files nm.data.toList = some s) (hb : nBin st.bins (repT s) = some l) (hgot : ∀ t ∈ pieces s, hGet l (idOfL t) = (t, 0)) (hname : isName nm.data.toList = true) (hs : s.length ≤ 4000) (hE : ErrE [1, 2, 3, 4, 6, 8] w a) (hP : PNode w p F st) :
    Calls Tryz.prog 37 #[.pointer (some p), .string nm] w fun e w' => e = .returned (.tuple #[.string ⟨s.toArray⟩, .nilIface]) ∧ Below w.heap.size w w' := by
  obtain ⟨N, mf, mb, vi, pi, Fi, rfl, h, _⟩ := hP
  have HEE : Hid (∀ W, Below w.heap.size w W → ErrE [1, 2, 3, 4, 6, 8] W a) := fun W hb => hE.below hb (Nat.le_refl _)
  have HH := hideN h
  have q0 := h.blk.cell (i := 0) rfl
  have q1 := h.blk.cell (i := 1) rfl
  have hnmE : (⟨nm.data.toList.toArray⟩ : ByteArray) = nm := by simp
  obtain ⟨pv0, cv0, hv0, _⟩ := h.ids _ (nFile_some hf)
  have HI := hideN (h.ids _ (nFile_some hf))
  simp only at hv0 HI
  have HLEN : Hid ((idsOf s).length ≤ 4000) := by
    show _ ≤ _
    have h1 := pieces_len_le s
    unfold idsOf
    rw [List.length_map]
    omega
  have HB := hideN (h.bin _ (nBin_some hb))
  have hmb := nBin_some hb
  have l0 : (Instr.lookup 99 (.map (some mf)) (.string nm) true).run Tryz.prog w = .ok (.tuple #[.agg #[.string nm, .int .i64 (s.length : Int), .int .u32 ((pmore 2166136261 s : Nat) : Int), .slice pv0 (idsOf s).length cv0], .bool true]) w := by
    have := h.files.look_some Tryz.underlying99 (rcpZero _) (List.mem_map.2 ⟨_, nFile_some hf, rfl⟩)
    change (Instr.lookup _ _ (.string ⟨nm.data.toList.toArray⟩) true).run _ _ = .ok (.tuple #[rcpV ⟨nm.data.toList.toArray⟩ (s.length : Int) ((pmore 2166136261 s : Nat) : Int) (vi nm.data.toList), .bool true]) _ at this
    rw [hnmE, hv0] at this
    exact this
  rw [hv0] at HI
  obtain ⟨P, hPP⟩ : ∃ P, pmore 2166136261 s = P := ⟨_, rfl⟩
  obtain ⟨L, hLL⟩ : ∃ L, (s.length : Int) = L := ⟨_, rfl⟩
  obtain ⟨idl, hidl⟩ : ∃ idl, (idsOf s).length = idl := ⟨_, rfl⟩
  obtain ⟨⟨rp, rl⟩, hrep⟩ : ∃ r, repT s = r := ⟨_, rfl⟩
  have HPP := hideN hPP
  have HLL := hideN hLL
  have HID := hideN hidl
  have HRP := hideN hrep
  have HGOT := hideN hgot
  have HJ := hideN (joinOf_pieces nm.data.toList s hname hs)
  rw [hPP, hLL, hidl] at l0
  rw [hidl] at HI HLEN
  rw [hrep] at HB hmb
  rw [hPP, hLL] at HJ
  clear hnmE hE hv0 hPP hLL hidl hf hb hgot hname hs h hrep
  have hal := (Below.refl w.heap.size w).alloc (Nat.le_refl _) (.cells #[.string nm, .int .i64 L, .int .u32 (P : Nat), .slice pv0 idl cv0] 40)
  have hbr := Blk.new w #[.string nm, .int .i64 L, .int .u32 (P : Nat), .slice pv0 idl cv0] 40
  go_enter Tryz.func37, Tryz.ntmps37
  go_wp2_with fail
  generalize hW : w.alloc (.cells #[.string nm, .int .i64 L, .int .u32 (P : Nat), .slice pv0 idl cv0] 40) = W at *
  clear hW
  have HB1 := hideN hal
  have HN1 := hideN (HH.out.below hal)
  have HI1 := hideN (HI.out.below hal)
  have HREP := hideN (fun W (hv : IdsAt W (.slice pv0 idl cv0) (idsOf s)) => rep_any nm L (P : Int) (.slice pv0 idl cv0) (idsOf s) W hv (by rw [HID.out]; have := HLEN.out; unfold maxLen; omega))
  change Hid (∀ W, _ → Calls _ _ _ W fun e w' => e = .returned (idV ((repT s).1 : Nat) (repT s).2) ∧ _) at HREP
  rw [HRP.out] at HREP
  simp only at HREP
  have HBL := hideN hbr
  have HCE : Hid (∀ W', Blk W' N #[.map (some mf), .map (some mb)] 102 → Blk W' w.heap.size #[.string nm, .int .i64 L, .int .u32 (P : Nat), .slice pv0 idl cv0] 40 → W'.cell? ⟨N, 1, none⟩ = some (.map (some mb)) ∧ W'.cell? ⟨w.heap.size, 0, none⟩ = some (.string nm) ∧ W'.cell? ⟨w.heap.size, 1, none⟩ = some (.int .i64 L) ∧ W'.cell? ⟨w.heap.size, 2, none⟩ = some (.int .u32 (P : Nat)) ∧ W'.cell? ⟨w.heap.size, 3, none⟩ = some (.slice pv0 idl cv0)) := fun W' h1 h2 => ⟨h1.cell (i := 1) rfl, h2.cell (i := 0) rfl, h2.cell (i := 1) rfl, h2.cell (i := 2) rfl, h2.cell (i := 3) rfl⟩
  obtain ⟨z1, y0, y1, y2, y3⟩ := HCE.out _ HN1.out.blk HBL.out
  clear q0 q1 l0 hal hbr HH HI
  go_region_held3 (fun w' => w'.cell? ⟨N, 1, none⟩ = some (.map (some mb)) ∧ w'.cell? ⟨w.heap.size, 0, none⟩ = some (.string nm) ∧ w'.cell? ⟨w.heap.size, 1, none⟩ = some (.int .i64 L) ∧ w'.cell? ⟨w.heap.size, 2, none⟩ = some (.int .u32 (P : Nat)) ∧ w'.cell? ⟨w.heap.size, 3, none⟩ = some (.slice pv0 idl cv0)) (first | exact HCE.out _ HN2.out.blk HBL2.out | go_keep) (first
    | (go_at_call 73; refine (HREP.out _ (HI1.out.below (Below.refl _ W).drew)).mono ?_; rintro e w2 ⟨rfl, hb2⟩; have hB2 : Below W.heap.size W w2 := (Below.refl _ W).drew.trans hb2; have HN2 := hideN (HN1.out.below hB2); have HBL2 := hideN (HBL.out.next hB2); have HI2 := hideN (HI1.out.below hB2); have HB2 : Hid (Below w.heap.size w w2) := HB1.out.trans (hB2.mono HB1.out.size); have HWsz := hideN hB2.size; have l1 := look1 HN2.out.bins Tryz.underlying100 (ptrZero w2) (List.mem_map.2 ⟨_, hmb, rfl⟩); change (Instr.lookup 100 (.map (some mb)) (idV (rp : Nat) rl) false).run Tryz.prog w2 = .ok (.pointer (some (pi (rp, rl)))) w2 at l1; clear hb2 hB2))
  obtain ⟨iS, hiS, zS0, zS1, zS2⟩ := info_parts infoStr
  obtain ⟨A0, mk, hA0⟩ : ∃ A0 : Array Value, (Instr.makeSlice 73 (.int .i64 (idl : Int)) (.int .i64 (idl : Int))).run Tryz.prog w2 = .ok (.slice (some ⟨w2.heap.size, 0, none⟩) idl idl) (w2.alloc (.cells A0 9)) ∧ A0.size = idl := by
    have hl := HLEN.out
    have h1 := run_makeSlice (P := Tryz.prog) (w := w2) 73 9 iS (.string ⟨#[]⟩) Tryz.underlying73 hiS zS0 .i64 .i64 (idl : Int) (idl : Int) (by omega) (Int.le_refl _) (by rw [zS1]; simp; omega) (by rw [zS2]; omega) (by omega)
    simp only [Int.toNat_natCast] at h1
    exact ⟨_, h1, by rw [size_madeCells, zS1]; omega⟩
  have hal3 := (Below.refl w2.heap.size w2).alloc (Nat.le_refl _) (.cells A0 9)
  have hbA := Blk.new w2 A0 9
  have HB3 : Hid (Below w.heap.size w _) := hideN (HB2.out.trans (hal3.mono HB2.out.size))
  have HN3 := hideN (HN2.out.below hal3)
  have HI3 := hideN (HI2.out.below hal3)
  have HBL3 := hideN (HBL2.out.next hal3)
  have hBAlt : w.heap.size < w2.heap.size := HBL2.out.lt
  have HWB := hideN HWsz.out
  obtain ⟨_, u0, u1, u2, u3⟩ := HCE.out _ HN3.out.blk HBL3.out
  have hidl4 : (idl : Int) ≤ 4000 := by have := HLEN.out; omega
  clear hal3 HN2 HI2 HBL2 HB2 l1
  have HSZA := hideN hA0
  have HPL : Hid ((pieces s).length = idl) := by
    show _ = _
    rw [← HID.out]
    unfold idsOf
    rw [List.length_map]
  go_wp2_with fail
  generalize hW3 : w2.alloc (.cells A0 9) = W3 at *
  clear hW3
  generalize w2.heap.size = BB at *
  obtain ⟨q, hq⟩ : ∃ q, pi (rp, rl) = q := ⟨_, rfl⟩
  have HPB : Hid (PBin0 W3 q (Fi (rp, rl)) l) := by
    show PBin0 _ _ _ _
    rw [← hq]
    exact HN3.out.bin _ hmb
  have HFI : Hid (∀ j, Fi (rp, rl) j → j ≠ BB) := fun j hj e => by
    have h1 := HB.out.lt j hj
    omega
  rw [hq]
  have HIL : Hid (∀ j, (Value.slice pv0 idl cv0).ownBlock = some j → idsOf s ≠ [] → j ≠ BB) := fun j hj hne e => by
    have h1 := HI1.out.lt hne hj
    have h2 := HWB.out
    omega
  clear hq mk hA0 u0 u1 u2
  go_loopw [40] (fun iv wr => ∃ (k : Nat) (A : Array Value), k ≤ idl ∧ iv = .int .i64 k ∧ Hid (Blk wr BB A 9) ∧ Hid (A.size = idl ∧ ∀ j, j < k → A[j]? = some (txtV ((pieces s)[j]?.getD []))) ∧ Hid (Below w.heap.size w wr) ∧ Hid (Off (fun j => j = BB) W3 wr)) (fun iv _ => idl - (intOf iv).toNat)
  case atStart => exact ⟨0, A0, Nat.zero_le _, rfl, hbA, ⟨HSZA.out, fun j hj => by omega⟩, HB3.out, Off.of_below (Below.refl _ _)⟩
  case round =>
    clear hbA
    obtain ⟨k, A, hk, rfl, HA, HAS, HBR, HO⟩ := hrel
    by_cases hlt : k < idl
    · have hlt' : (k : Int) < (idl : Int) := by omega
      have hk0 : (0 : Int) ≤ (k : Int) := by omega
      have hIr := HI3.out.off HO.out (fun hne j hj e => HIL.out j hj hne e)
      obtain ⟨pq, cq, hve, hcell⟩ := hIr
      obtain ⟨b, o, hpq, hbl, c0, c1⟩ := hcell k (by rw [HID.out]; exact hlt)
      obtain ⟨rfl, rfl⟩ : pv0 = pq ∧ cv0 = cq := by have := hve; simp at this; exact ⟨this.1, this.2.2⟩
      subst hpq
      have hkp : k < (pieces s).length := by rw [HPL.out]; exact hlt
      obtain ⟨t, ht⟩ : ∃ t, (pieces s)[k] = t := ⟨_, rfl⟩
      have hid : (idsOf s)[k]'(by rw [HID.out]; exact hlt) = (pmore 2166136261 t, (t.length : Int)) := by
        unfold idsOf
        rw [List.getElem_map, ht]
      rw [hid] at c0 c1
      simp only at c0 c1
      have HTG := hideN (HGOT.out t (by rw [← ht]; exact List.getElem_mem hkp))
      have HTL := hideN (piece_le (s := s) (q := t) (by rw [← ht]; exact List.getElem_mem hkp))
      have HTP : Hid ((pieces s)[k]?.getD [] = t) := by show _ = _; rw [List.getElem?_eq_getElem hkp, ht]; rfl
      obtain ⟨xp, hxp⟩ : ∃ xp, pmore 2166136261 t = xp := ⟨_, rfl⟩
      obtain ⟨xl, hxl⟩ : ∃ xl, (t.length : Int) = xl := ⟨_, rfl⟩
      have HX : Hid (idOfL t = (xp, xl)) := by show (pmore 2166136261 t, (t.length : Int)) = _; rw [hxp, hxl]
      have HXW : Hid (WfID (xp, xl)) := ⟨by rw [← hxp]; exact pmore_lt _ (by decide) _, by rw [← hxl]; simp only; omega, by rw [← hxl]; have := HTL.out; simp only; omega⟩
      rw [hxp] at c0
      rw [hxl] at c1
      rw [HX.out] at HTG
      clear hcell hve hid ht hkp hxp hxl
      have hal4 := (Below.refl wr.heap.size wr).alloc (Nat.le_refl _) (.cells #[.int .u32 (xp : Nat), .int .i64 xl] 25)
      have hbi := Blk.new wr #[.int .u32 (xp : Nat), .int .i64 xl] 25
      have HA4 := hideN (HA.out.next hal4)
      have HB4 : Hid (Below w.heap.size w _) := hideN (HBR.out.trans (hal4.mono HBR.out.size))
      have HPB4 := hideN ((HPB.out.off HO.out (fun j hj e => HFI.out j hj e)).off (Off.of_below (F := fun _ => False) hal4) (fun _ _ h => h))
      have HO4 : Hid (Off (fun j => j = BB) W3 _) := hideN (HO.out.trans (Off.of_below (F := fun _ => False) hal4) (fun _ _ h => h.elim))
      have hneB : wr.heap.size ≠ BB := by have := HA.out.lt; omega
      go_wp2_with fail
      generalize wr.alloc (.cells #[.int .u32 (xp : Nat), .int .i64 xl] 25) = W at *
      generalize wr.heap.size = HB9 at *
      refine (pGet_any (xp, xl) q (Fi (rp, rl)) l W HXW.out ((HEE.out _ HB4.out).sub (by decide)) HPB4.out).mono ?_
      rintro e w5 ⟨ev5, rfl, _, hb5⟩
      rw [HTG.out]
      simp only
      have hA5 := HA4.out.next hb5
      have hkA : k < A.size := by rw [HAS.out.1]; exact hlt
      have b0 := hA5.cell (i := k) (Array.getElem?_eq_getElem hkA)
      have f0 := hA5.frozen k
      have HB5 : Hid (Below w.heap.size w w5) := HB4.out.trans (hb5.mono HB4.out.size)
      have HO5 : Hid (Off (fun j => j = BB) W3 w5) := HO4.out.trans (Off.of_below (F := fun _ => False) hb5) (fun _ _ h => h.elim)
      obtain ⟨X, hX⟩ : ∃ X : Value, A[k] = X := ⟨_, rfl⟩
      rw [hX] at b0
      obtain ⟨T, hT⟩ : ∃ T : ByteArray, (⟨t.toArray⟩ : ByteArray) = T := ⟨_, rfl⟩
      have HT := hideN hT
      rw [hT]
      have HA6 := hideN (hA5.set k (.string T))
      have HO6 := hideN (HO5.out.setCell (p := ⟨BB, k, none⟩) (.inl rfl) (.string T))
      have HB6 := hideN (HB5.out.setCell (p := ⟨BB, k, none⟩) (show w.heap.size ≤ BB by omega) (.string T))
      have HAS6 : Hid ((A.setIfInBounds k (.string T)).size = idl ∧ ∀ j, j < k + 1 → (A.setIfInBounds k (.string T))[j]? = some (txtV ((pieces s)[j]?.getD []))) := by
        refine ⟨by rw [Array.size_setIfInBounds]; exact HAS.out.1, fun j hj => ?_⟩
        by_cases e : j = k
        · subst e
          rw [Array.getElem?_setIfInBounds_self_of_lt hkA, HTP.out, ← HT.out]
        · rw [Array.getElem?_setIfInBounds_ne (fun e' => e e'.symm)]
          exact HAS.out.2 j (by omega)
      clear hA5 hb5 hX hT hkA
      go_wp2_with fail
      go_roundw
      case rel => exact ⟨k + 1, _, hlt, by go_num, HA6.out, HAS6.out, HB6.out, HO6.out⟩
      case measure => simp [intOf]; omega
    · have hge : (idl : Int) ≤ (k : Int) := by omega
      obtain rfl : k = idl := by omega
      have hbr9 := HO.out.blk HBL3.out (fun e => by omega)
      have hIr := HI3.out.off HO.out (fun hne j hj e => HIL.out j hj hne e)
      have HCA : Hid (CellsAt wr (.slice (some ⟨BB, 0, none⟩) k k) ((pieces s).map txtV)) := by
        refine ⟨some ⟨BB, 0, none⟩, k, by rw [List.length_map, HPL.out], fun i hi => ?_⟩
        rw [List.length_map] at hi
        refine ⟨BB, 0, rfl, ⟨HA.out.lt, by rw [List.length_map, HPL.out]; exact Nat.le_refl _⟩, ?_⟩
        rw [List.getElem_map, Nat.zero_add]
        have := HAS.out.2 i (by rw [← HPL.out]; exact hi)
        rw [List.getElem?_eq_getElem hi] at this
        exact HA.out.cell (i := i) this
      have HJN := hideN (rjoin_any a nm (by unfold maxLen; omega) L P (.slice pv0 k cv0) (.slice (some ⟨BB, 0, none⟩) k k) (idsOf s) (pieces s) wr ((HEE.out _ HBR.out).sub (by decide)) hIr (by rw [HID.out]; have := HLEN.out; unfold maxLen; omega) HCA.out (by rw [HPL.out]; have := HLEN.out; omega) (fun i hi => by have := piece_le (List.getElem_mem hi); omega))
      unfold joinPost at HJN
      rw [HJ.out] at HJN
      simp only at HJN
      have x0 := hbr9.cell (i := 0) rfl
      have x1 := hbr9.cell (i := 1) rfl
      have x2 := hbr9.cell (i := 2) rfl
      have x3 := hbr9.cell (i := 3) rfl
      clear hbr9 hIr HCA
      go_wp2_with fail
      refine HJN.out.mono ?_
      rintro e w6 ⟨ev6, rfl, he6, hb6⟩
      obtain rfl := he6.nil
      have HB6 : Hid (Below w.heap.size w w6) := HBR.out.trans (hb6.mono HBR.out.size)
      clear hb6 he6
      go_wp2_with fail
      refine (bare_nil w6).mono ?_
      rintro e w7 ⟨rfl, hb7⟩
      go_wp2_with fail
      go_ret2
      exact ⟨rfl, HB6.out.trans (hb7.mono HB6.out.size)⟩
end Go.Proofs.YtjdobbjdlighpabGreatDoor
namespace Go.Proofs.YtjdobbjdlighpabGreatDoor
open Go.RowKit Go.Maps

theorem putAll_ok : ∀ (ls : List (List UInt8)) {U : Int} {l : List Hd} {fr : Int}, 0 ≤ U → BinOk U l → BinOk (U + ls.length) (putAll l fr ls).2.2
  | [], U, l, fr, _, h => by
    rw [putAll]
    simpa using h
  | s :: r, U, l, fr, hU, h => by
    rw [putAll]
    have h1 := hPut_ok h s hU
    split
    · have := putAll_ok r (fr := if (hPut l s).1.2.1 = true then fr + s.length else fr) (by omega) h1
      have e : U + ((s :: r).length : Nat) = U + 1 + (r.length : Nat) := by rw [List.length_cons]; omega
      rw [e]
      exact this
    · exact h1.mono (by rw [List.length_cons]; omega)
structure NOk (U : Int) (n : Nat) (st : NSt) : Prop where
  bins : ∀ b ∈ st.bins, BinOk U b.2
  many : st.bins.length ≤ n
  files : ∀ f ∈ st.files, f.2.length ≤ 4000 ∧ isName f.1 = true
theorem NOk.empty : NOk 0 0 ⟨[], []⟩ := ⟨fun b hb => by simp at hb, Nat.le_refl _, fun f hf => by simp at hf⟩
theorem NOk.mono {U V : Int} {n m : Nat} {st : NSt} (h : NOk U n st) (hU : U ≤ V) (hn : n ≤ m) : NOk V m st := ⟨fun b hb => (h.bins b hb).mono hU, Nat.le_trans h.many hn, h.files⟩
theorem nPut_cases (st : NSt) (nm s : List UInt8) : ((nPut st nm s).2.1 ≠ 0 ∧ (nPut st nm s).1 = 0 ∧ (nPut st nm s).2.2 = st) ∨ ((ofR nm s).2 = 0 ∧ nFile st.files nm = none ∧ nPut st nm s = ((putAll ((nBin st.bins (repT s)).getD []) 0 (pieces s)).1, 0, ⟨(nm, s) :: st.files, (repT s, (putAll ((nBin st.bins (repT s)).getD []) 0 (pieces s)).2.2) :: st.bins.filter (fun b => !decide (b.1 = repT s))⟩)) := by
  by_cases h1 : (ofR nm s).2 = 0
  · cases h2 : nFile st.files nm with
    | some t =>
      rw [nPut_there h1 h2]
      exact .inl ⟨by simp, rfl, rfl⟩
    | none =>
      by_cases h3 : 30 ≤ st.files.length
      · rw [nPut_full h1 h2 h3]
        exact .inl ⟨by simp, rfl, rfl⟩
      · obtain ⟨⟨fr, ec, bl⟩, hp⟩ : ∃ r, putAll ((nBin st.bins (repT s)).getD []) 0 (pieces s) = r := ⟨_, rfl⟩
        by_cases h4 : ec = 0
        · subst h4
          rw [nPut_ok h1 h2 h3 rfl rfl hp, hp]
          exact .inr ⟨h1, rfl, rfl⟩
        · rw [nPut_err h1 h2 h3 rfl rfl hp h4]
          exact .inl ⟨h4, rfl, rfl⟩
  · rw [nPut_bad h1]
    exact .inl ⟨h1, rfl, rfl⟩
theorem ofR_ok {nm s : List UInt8} (h : (ofR nm s).2 = 0) : isName nm = true ∧ s.length ≤ 4000 := by
  have hn : isName nm = true := by
    cases hn : isName nm with
    | true => rfl
    | false => rw [ofR_name hn] at h; cases h
  refine ⟨hn, ?_⟩
  by_cases hl : 4000 < s.length
  · rw [ofR_bound hn hl] at h
    cases h
  · omega
theorem NOk.put {U : Int} {n : Nat} {st : NSt} (h : NOk U n st) (hU : 0 ≤ U) (nm s : List UInt8) : NOk (U + 4000) (n + 1) (nPut st nm s).2.2 := by
  rcases nPut_cases st nm s with ⟨_, _, e⟩ | ⟨h1, _, e⟩
  · rw [e]
    exact h.mono (by omega) (by omega)
  · rw [e]
    obtain ⟨hn, hl⟩ := ofR_ok h1
    have hp := pieces_len_le s
    refine ⟨fun b hb => ?_, ?_, fun f hf => ?_⟩
    · rcases List.mem_cons.1 hb with rfl | hb
      · have hb0 : BinOk U ((nBin st.bins (repT s)).getD []) := by
          cases hb : nBin st.bins (repT s) with
          | none => exact BinOk.nil _
          | some l0 => exact h.bins _ (nBin_some hb)
        exact (putAll_ok (pieces s) hU hb0).mono (by omega)
      · exact (h.bins b (List.mem_filter.1 hb).1).mono (by omega)
    · have h2 := List.length_filter_le (fun b : NBin => !decide (b.1 = repT s)) st.bins
      have h3 := h.many
      simp only [List.length_cons]
      omega
    · rcases List.mem_cons.1 hf with rfl | hf
      · exact ⟨hl, hn⟩
      · exact h.files f hf
theorem nPut_there' {st : NSt} {nm s : List UInt8} (h : (nPut st nm s).2.1 = 0) : nFile (nPut st nm s).2.2.files nm = some s ∧ (∃ l, nBin (nPut st nm s).2.2.bins (repT s) = some l) ∧ (ofR nm s).2 = 0 := by
  rcases nPut_cases st nm s with ⟨h1, _, _⟩ | ⟨h1, _, e⟩
  · exact absurd h h1
  · rw [e]
    exact ⟨by simp only [nFile, if_true], ⟨(putAll ((nBin st.bins (repT s)).getD []) 0 (pieces s)).2.2, by simp only [nBin, if_true]⟩, h1⟩
/- The closed example. -/
abbrev helloL : List UInt8 := [104, 101, 108, 108, 111]
theorem helloPieces : pieces helloL = [helloL] := by decide
def helloR : Nat × Int := repT helloL
def st1 : NSt := ⟨[([97], helloL)], [(repT helloL, [(idOfL helloL, 1, helloL)])]⟩
def st2 : NSt := ⟨[([98], helloL), ([97], helloL)], [(repT helloL, [(idOfL helloL, 2, helloL)])]⟩
theorem put1 : nPut ⟨[], []⟩ [97] helloL = (5, 0, st1) := by
  have e : putAll [] 0 (pieces helloL) = (5, 0, [(idOfL helloL, 1, helloL)]) := by rw [helloPieces]; rfl
  exact nPut_ok (st := ⟨[], []⟩) (nm := [97]) (s := helloL) (r := repT helloL) (BL := []) (by decide) rfl (by decide) rfl rfl e
theorem put2 : nPut st1 [98] helloL = (0, 0, st2) := by
  have e : putAll [(idOfL helloL, 1, helloL)] 0 (pieces helloL) = (0, 0, [(idOfL helloL, 2, helloL)]) := by
    rw [helloPieces]
    simp [putAll, hPut, hFind, hUse]
  have h := nPut_ok (st := st1) (nm := [98]) (s := helloL) (r := repT helloL) (BL := [(idOfL helloL, 1, helloL)]) (by decide) (by decide) (by decide) rfl (by unfold st1; simp [nBin]) e
  rw [h]
  unfold st1 st2
  simp
theorem size2 : nSize st2.bins = 5 := by
  unfold st2
  simp [nSize, hSize, idOfL]
end Go.Proofs.YtjdobbjdlighpabGreatDoor
namespace Go.Proofs.YtjdobbjdlighpabGreatDoor
open Go.RowKit Go.Maps

/- As Log, but pieces that nobody uses may stay. -/
structure WLog (l : List Hd) (log : List (List UInt8)) : Prop where
  cnt : ∀ h ∈ l, h.2.1 = ((log.count h.2.2 : Nat) : Int)
  has : ∀ s ∈ log, ∃ u, (idOfL s, u, s) ∈ l
theorem WLog.nil : WLog [] [] := ⟨fun h hm => by simp at hm, fun s hm => by simp at hm⟩
theorem WLog.perm {l : List Hd} {a b : List (List UInt8)} (h : WLog l a) (hp : a.Perm b) : WLog l b :=
  ⟨fun x hx => by rw [h.cnt x hx, hp.count_eq], fun s hs => h.has s (hp.mem_iff.2 hs)⟩
theorem WLog.one {U : Int} {l : List Hd} {log : List (List UInt8)} (hok : BinOk U l) (h : WLog l log) {s : List UInt8} (hs : s ∈ log) : ∃ (k : Nat) (hk : k < l.length), hFind l (idOfL s) = some k ∧ l[k].1 = idOfL s ∧ l[k].2.2 = s := by
  obtain ⟨u, hu⟩ := h.has s hs
  obtain ⟨k, hk⟩ := hFind_mem hu
  obtain ⟨hkl, he⟩ := hFind_some hk
  have e := rise_inj hok.rise (List.getElem_mem hkl) hu he
  exact ⟨k, hkl, hk, he, by rw [e]⟩
theorem WLog.get {U : Int} {l : List Hd} {log : List (List UInt8)} (hok : BinOk U l) (h : WLog l log) {s : List UInt8} (hs : s ∈ log) : hGet l (idOfL s) = (s, 0) := by
  obtain ⟨k, hk, hf, _, ht⟩ := h.one hok hs
  simp only [hGet, hf, List.getElem?_eq_getElem hk, Option.map_some, Option.getD_some, ht]
theorem WLog.put {U : Int} {l : List Hd} {log : List (List UInt8)} (hok : BinOk U l) (h : WLog l log) {s : List UInt8} (he : (hPut l s).1.2.2 = 0) : WLog (hPut l s).2 (log ++ [s]) := by
  revert he
  unfold hPut
  split
  · exact fun h => by simp at h
  · split
    · rename_i k hf
      obtain ⟨hk, hid⟩ := hFind_some hf
      split
      · rename_i ht
        intro _
        rw [List.getElem?_eq_getElem hk, Option.map_some] at ht
        have ht : l[k].2.2 = s := Option.some.inj ht
        refine ⟨fun z hz => ?_, fun t hm => ?_⟩
        · rcases modify_all hok.rise hk hz with ⟨hm, hn⟩ | rfl
          · have hne : s ≠ z.2.2 := fun e => hn (((hok.each z hm).1.trans (by rw [← e])).trans hid.symm)
            rw [h.cnt z hm, List.count_append, List.count_singleton]
            simp [hne]
          · show l[k].2.1 + 1 = ((log ++ [s]).count l[k].2.2 : Nat)
            rw [h.cnt _ (List.getElem_mem hk), ht, List.count_append, List.count_singleton_self]
            omega
        · by_cases e : t = s
          · subst e
            refine ⟨l[k].2.1 + 1, ?_⟩
            have := modify_own (d := 1) hk
            rw [hUse, hid, ht] at this
            exact this
          · have hm : t ∈ log := by
              rcases List.mem_append.1 hm with hm | hm
              · exact hm
              · exact absurd (List.mem_singleton.1 hm) e
            obtain ⟨u, hu⟩ := h.has t hm
            refine ⟨u, modify_other hk hu fun e2 => ?_⟩
            have := rise_inj hok.rise hu (List.getElem_mem hk) e2
            exact e (by rw [← ht, ← this])
      · exact fun h => by simp at h
    · rename_i hf
      split
      · exact fun h => by simp at h
      · intro _
        have hno : s ∉ log := fun hs => by
          obtain ⟨u, hu⟩ := h.has s hs
          exact hFind_not hf _ hu rfl
        refine ⟨fun z hz => ?_, fun t hm => ?_⟩
        · rcases hIns_mem hz with rfl | hm
          · show (1 : Int) = ((log ++ [s]).count s : Nat)
            rw [List.count_append, List.count_singleton_self, List.count_eq_zero.2 hno]
            rfl
          · have hne : s ≠ z.2.2 := fun e => hFind_not hf z hm ((hok.each z hm).1.trans (by rw [← e]))
            rw [h.cnt z hm, List.count_append, List.count_singleton]
            simp [hne]
        · rcases List.mem_append.1 hm with hm | hm
          · obtain ⟨u, hu⟩ := h.has t hm
            exact ⟨u, mem_hIns (.inr hu)⟩
          · rw [List.mem_singleton.1 hm]
            exact ⟨1, mem_hIns (.inl rfl)⟩
theorem WLog.there {U : Int} {l : List Hd} {log : List (List UInt8)} (hok : BinOk U l) (h : WLog l log) {s : List UInt8} (hs : s ∈ log) : (hPut l s).1.2.1 = false := by
  obtain ⟨k, hk, hf, _, ht⟩ := h.one hok hs
  unfold hPut
  split
  · rfl
  · rw [hf]
    simp only
    split <;> rfl
theorem WLog.drop {U : Int} {l : List Hd} {s : List UInt8} {r : List (List UInt8)} (hok : BinOk U l) (h : WLog l (s :: r)) : WLog (hDrop l (idOfL s)).2 r := by
  obtain ⟨k, hk, hf, hid, ht⟩ := h.one hok (List.mem_cons_self ..)
  have hc : l[k].2.1 = ((r.count s : Nat) : Int) + 1 := by
    rw [h.cnt _ (List.getElem_mem hk), ht, List.count_cons_self]
    omega
  have e : hDrop l (idOfL s) = (0, l.modify k (hUse (-1))) := by
    have hn : ¬ (l[k]?.map (·.2.1)) = some 0 := fun e => by
      rw [List.getElem?_eq_getElem hk, Option.map_some] at e
      have := Option.some.inj e
      omega
    simp only [hDrop, hf, if_neg hn]
  rw [e]
  refine ⟨fun z hz => ?_, fun t hm => ?_⟩
  · rcases modify_all hok.rise hk hz with ⟨hm, hn⟩ | rfl
    · have hne : s ≠ z.2.2 := fun e => hn (((hok.each z hm).1.trans (by rw [← e])).trans hid.symm)
      rw [h.cnt z hm, List.count_cons_of_ne hne]
    · show l[k].2.1 + -1 = ((r.count l[k].2.2 : Nat) : Int)
      rw [hc, ht]
      omega
  · obtain ⟨u, hu⟩ := h.has t (List.mem_cons_of_mem _ hm)
    by_cases e : t = s
    · subst e
      have ho := modify_own (d := -1) hk
      rw [hUse, hid, ht, hc] at ho
      exact ⟨_, ho⟩
    · refine ⟨u, modify_other hk hu fun e2 => ?_⟩
      have := rise_inj hok.rise hu (List.getElem_mem hk) e2
      exact e (by rw [← ht, ← this])
theorem WLog.sweep {l : List Hd} {log : List (List UInt8)} (h : WLog l log) : WLog (hSweep l).2 log := by
  refine ⟨fun z hz => h.cnt z (List.mem_filter.1 hz).1, fun s hs => ?_⟩
  obtain ⟨u, hu⟩ := h.has s hs
  refine ⟨u, List.mem_filter.2 ⟨hu, ?_⟩⟩
  have h1 : u = ((log.count s : Nat) : Int) := h.cnt _ hu
  have h2 := List.count_pos_iff.2 hs
  have hn : ¬ u = 0 := by omega
  simp [unused, hn]
theorem WLog.puts : ∀ (ls : List (List UInt8)) {U : Int} {l : List Hd} {fr : Int} {log : List (List UInt8)}, 0 ≤ U → BinOk U l → WLog l log → (putAll l fr ls).2.1 = 0 → WLog (putAll l fr ls).2.2 (log ++ ls)
  | [], U, l, fr, log, _, _, h, _ => by
    rw [putAll, List.append_nil]
    exact h
  | s :: r, U, l, fr, log, hU, hok, h, he => by
    rw [putAll] at he ⊢
    by_cases hp : (hPut l s).1.2.2 = 0
    · rw [if_pos hp] at he ⊢
      have := WLog.puts r (by omega) (hPut_ok hok s hU) (h.put hok hp) he
      rw [List.append_assoc] at this
      exact this
    · rw [if_neg hp] at he
      exact absurd he hp
theorem WLog.fresh : ∀ (ls : List (List UInt8)) {U : Int} {l : List Hd} {fr : Int} {log : List (List UInt8)}, 0 ≤ U → BinOk U l → WLog l log → (∀ t ∈ ls, t ∈ log) → (putAll l fr ls).2.1 = 0 → (putAll l fr ls).1 = fr
  | [], U, l, fr, log, _, _, _, _, _ => rfl
  | s :: r, U, l, fr, log, hU, hok, h, hin, he => by
    rw [putAll] at he ⊢
    by_cases hp : (hPut l s).1.2.2 = 0
    · rw [if_pos hp] at he ⊢
      have hs := h.there hok (hin s (List.mem_cons_self ..))
      rw [hs] at he ⊢
      simp only [Bool.false_eq_true, if_false] at he ⊢
      exact WLog.fresh r (by omega) (hPut_ok hok s hU) (h.put hok hp) (fun t ht => List.mem_append_left _ (hin t (List.mem_cons_of_mem _ ht))) he
    · rw [if_neg hp] at he
      exact absurd he hp
/- What is dropped of a bin, one by one. -/
def dropAll (l : List Hd) : List (Nat × Int) → List Hd
  | [] => l
  | x :: r => dropAll (hDrop l x).2 r
theorem dropAll_ok : ∀ (ids : List (Nat × Int)) {U : Int} {l : List Hd}, BinOk U l → BinOk U (dropAll l ids)
  | [], _, _, h => h
  | x :: r, _, _, h => dropAll_ok r (hDrop_ok h x)
theorem WLog.drops : ∀ (ls : List (List UInt8)) {U : Int} {l : List Hd} {r : List (List UInt8)}, BinOk U l → WLog l (ls ++ r) → WLog (dropAll l (ls.map idOfL)) r
  | [], _, _, _, _, h => h
  | s :: t, _, _, _, hok, h => WLog.drops t (hDrop_ok hok (idOfL s)) (h.drop hok)
def nDrop (st : NSt) (nm : List UInt8) : Int × NSt :=
  match nFile st.files nm with
  | none => (5, st)
  | some s =>
    if (st.files.filter (fun f => !decide (f.1 = nm))).any (fun f => decide (repT f.2 = repT s)) = true then (0, ⟨st.files.filter (fun f => !decide (f.1 = nm)), st.bins.map (fun b => if b.1 = repT s then (b.1, dropAll b.2 (idsOf s)) else b)⟩)
    else (0, ⟨st.files.filter (fun f => !decide (f.1 = nm)), st.bins.filter (fun b => !decide (b.1 = repT s))⟩)
def nSweep (st : NSt) : Int × NSt := ((st.bins.map fun b => (hSweep b.2).1).sum, ⟨st.files, st.bins.map (fun b => (b.1, (hSweep b.2).2))⟩)
/- The texts' pieces of a rep. -/
def logOf (files : List NFile) (r : Nat × Int) : List (List UInt8) := files.flatMap (fun f => if repT f.2 = r then pieces f.2 else [])
theorem logOf_cons (f : NFile) (fs : List NFile) (r : Nat × Int) : logOf (f :: fs) r = (if repT f.2 = r then pieces f.2 else []) ++ logOf fs r := by simp [logOf]
theorem logOf_none {fs : List NFile} {r : Nat × Int} (h : ∀ f ∈ fs, repT f.2 ≠ r) : logOf fs r = [] := by
  unfold logOf
  rw [List.flatMap_eq_nil_iff]
  intro f hf
  rw [if_neg (h f hf)]
theorem logOf_perm {a b : List NFile} (h : a.Perm b) (r : Nat × Int) : (logOf a r).Perm (logOf b r) := by
  unfold logOf
  exact h.flatMap_right _
structure NInv (st : NSt) : Prop where
  fap : st.files.Pairwise (fun f g => f.1 ≠ g.1)
  bap : st.bins.Pairwise (fun f g => f.1 ≠ g.1)
  has : ∀ f ∈ st.files, ∃ l, (repT f.2, l) ∈ st.bins
  log : ∀ b ∈ st.bins, WLog b.2 (logOf st.files b.1)
theorem NInv.empty : NInv ⟨[], []⟩ := ⟨List.Pairwise.nil, List.Pairwise.nil, fun f hf => by simp at hf, fun f hf => by simp at hf⟩
theorem nBin_of_mem : ∀ {l : List NBin} {x : Nat × Int} {h : List Hd}, l.Pairwise (fun f g => f.1 ≠ g.1) → (x, h) ∈ l → nBin l x = some h
  | b :: r, x, h, hp, hm => by
    rw [nBin]
    rcases List.mem_cons.1 hm with rfl | hm
    · simp
    · rw [if_neg ((List.pairwise_cons.1 hp).1 _ hm)]
      exact nBin_of_mem (List.pairwise_cons.1 hp).2 hm
theorem nFile_of_mem : ∀ {l : List NFile} {x h : List UInt8}, l.Pairwise (fun f g => f.1 ≠ g.1) → (x, h) ∈ l → nFile l x = some h
  | b :: r, x, h, hp, hm => by
    rw [nFile]
    rcases List.mem_cons.1 hm with rfl | hm
    · simp
    · rw [if_neg ((List.pairwise_cons.1 hp).1 _ hm)]
      exact nFile_of_mem (List.pairwise_cons.1 hp).2 hm
theorem nPut_cases' (st : NSt) (nm s : List UInt8) : ((nPut st nm s).2.1 ≠ 0 ∧ (nPut st nm s).1 = 0 ∧ (nPut st nm s).2.2 = st) ∨ ((ofR nm s).2 = 0 ∧ nFile st.files nm = none ∧ (putAll ((nBin st.bins (repT s)).getD []) 0 (pieces s)).2.1 = 0 ∧ nPut st nm s = ((putAll ((nBin st.bins (repT s)).getD []) 0 (pieces s)).1, 0, ⟨(nm, s) :: st.files, (repT s, (putAll ((nBin st.bins (repT s)).getD []) 0 (pieces s)).2.2) :: st.bins.filter (fun b => !decide (b.1 = repT s))⟩)) := by
  by_cases h1 : (ofR nm s).2 = 0
  · cases h2 : nFile st.files nm with
    | some t =>
      rw [nPut_there h1 h2]
      exact .inl ⟨by simp, rfl, rfl⟩
    | none =>
      by_cases h3 : 30 ≤ st.files.length
      · rw [nPut_full h1 h2 h3]
        exact .inl ⟨by simp, rfl, rfl⟩
      · obtain ⟨⟨fr, ec, bl⟩, hp⟩ : ∃ r, putAll ((nBin st.bins (repT s)).getD []) 0 (pieces s) = r := ⟨_, rfl⟩
        by_cases h4 : ec = 0
        · subst h4
          rw [nPut_ok h1 h2 h3 rfl rfl hp, hp]
          exact .inr ⟨h1, rfl, rfl, rfl⟩
        · rw [nPut_err h1 h2 h3 rfl rfl hp h4]
          exact .inl ⟨h4, rfl, rfl⟩
  · rw [nPut_bad h1]
    exact .inl ⟨h1, rfl, rfl⟩
theorem NInv.put {U : Int} {n : Nat} {st : NSt} (h : NInv st) (hok : NOk U n st) (hU : 0 ≤ U) (nm s : List UInt8) : NInv (nPut st nm s).2.2 := by
  have hno : ∀ {r : Nat × Int}, nBin st.bins r = none → logOf st.files r = [] := fun {r} hn => logOf_none fun f hf e => by
    obtain ⟨l, hl⟩ := h.has f hf
    exact nBin_none hn _ hl e
  rcases nPut_cases' st nm s with ⟨_, _, e⟩ | ⟨h1, h2, hec, e⟩
  · rw [e]
    exact h
  · rw [e]
    have hpf := nFile_none h2
    have hold : WLog ((nBin st.bins (repT s)).getD []) (logOf st.files (repT s)) ∧ BinOk U ((nBin st.bins (repT s)).getD []) := by
      cases hb : nBin st.bins (repT s) with
      | none => exact ⟨by rw [hno hb]; exact WLog.nil, BinOk.nil _⟩
      | some l0 => exact ⟨h.log _ (nBin_some hb), hok.bins _ (nBin_some hb)⟩
    refine ⟨List.pairwise_cons.2 ⟨fun f hf e => hpf f hf e.symm, h.fap⟩, List.pairwise_cons.2 ⟨fun b hb e => ?_, h.bap.filter _⟩, fun f hf => ?_, fun b hb => ?_⟩
    · have := (List.mem_filter.1 hb).2
      simp at this
      exact this e.symm
    · rcases List.mem_cons.1 hf with rfl | hf
      · exact ⟨_, List.mem_cons_self ..⟩
      · obtain ⟨l, hl⟩ := h.has f hf
        by_cases e : repT f.2 = repT s
        · exact ⟨_, by rw [e]; exact List.mem_cons_self ..⟩
        · exact ⟨l, List.mem_cons_of_mem _ (List.mem_filter.2 ⟨hl, by simp [e]⟩)⟩
    · rw [logOf_cons]
      rcases List.mem_cons.1 hb with rfl | hb
      · simp only [if_true]
        exact (WLog.puts (pieces s) hU hold.2 hold.1 hec).perm List.perm_append_comm
      · obtain ⟨hb1, hb2⟩ := List.mem_filter.1 hb
        have hne : ¬ repT s = b.1 := fun e => by simp [e] at hb2
        simp only [if_neg hne, List.nil_append]
        exact h.log b hb1
theorem files_out {fs : List NFile} {nm s : List UInt8} (hp : fs.Pairwise (fun f g => f.1 ≠ g.1)) (hm : (nm, s) ∈ fs) : ((nm, s) :: fs.filter (fun f => !decide (f.1 = nm))).Perm fs := by
  induction fs with
  | nil => simp at hm
  | cons f r ih =>
    obtain ⟨h1, h2⟩ := List.pairwise_cons.1 hp
    rcases List.mem_cons.1 hm with e | hm
    · subst e
      have : r.filter (fun f => !decide (f.1 = nm)) = r := List.filter_eq_self.2 fun g hg => by
        have := h1 g hg
        simp only [Bool.not_eq_true', decide_eq_false_iff_not]
        exact fun e => this e.symm
      simp [this]
    · have hn : f.1 ≠ nm := h1 _ hm
      rw [List.filter_cons, if_pos (by simp [hn])]
      exact (List.Perm.swap _ _ _).trans ((ih h2 hm).cons f)
theorem NInv.drop {U : Int} {n : Nat} {st : NSt} (h : NInv st) (hok : NOk U n st) (nm : List UInt8) : NInv (nDrop st nm).2 := by
  unfold nDrop
  cases hf : nFile st.files nm with
  | none => exact h
  | some s =>
    simp only
    have hm := nFile_some hf
    have hp := files_out h.fap hm
    have hlog : ∀ r, (logOf st.files r).Perm ((if repT s = r then pieces s else []) ++ logOf (st.files.filter (fun f => !decide (f.1 = nm))) r) := fun r => by
      have := (logOf_perm hp r).symm
      rw [logOf_cons] at this
      exact this
    split
    · refine ⟨h.fap.filter _, ?_, fun f hf => ?_, fun b hb => ?_⟩
      · rw [List.pairwise_map]
        refine h.bap.imp fun {a b} hne => ?_
        have ea : (if a.1 = repT s then (a.1, dropAll a.2 (idsOf s)) else a).1 = a.1 := by split <;> rfl
        have eb : (if b.1 = repT s then (b.1, dropAll b.2 (idsOf s)) else b).1 = b.1 := by split <;> rfl
        rw [ea, eb]
        exact hne
      · obtain ⟨l, hl⟩ := h.has f (List.mem_filter.1 hf).1
        by_cases e : repT f.2 = repT s
        · exact ⟨dropAll l (idsOf s), List.mem_map.2 ⟨_, hl, by simp only [if_pos e]⟩⟩
        · exact ⟨l, List.mem_map.2 ⟨_, hl, by simp only [if_neg e]⟩⟩
      · obtain ⟨c, hc, rfl⟩ := List.mem_map.1 hb
        have hw := (h.log c hc).perm (hlog c.1)
        by_cases e : c.1 = repT s
        · simp only [if_pos e]
          rw [if_pos e.symm] at hw
          have := WLog.drops (pieces s) (hok.bins c hc) hw
          exact this
        · simp only [if_neg e]
          rw [if_neg (fun e' => e e'.symm), List.nil_append] at hw
          exact hw
    · rename_i hany
      have hnone : ∀ f ∈ st.files.filter (fun f => !decide (f.1 = nm)), repT f.2 ≠ repT s := fun f hf e => hany (List.any_eq_true.2 ⟨f, hf, by simp [e]⟩)
      refine ⟨h.fap.filter _, h.bap.filter _, fun f hf => ?_, fun b hb => ?_⟩
      · obtain ⟨l, hl⟩ := h.has f (List.mem_filter.1 hf).1
        exact ⟨l, List.mem_filter.2 ⟨hl, by simp [hnone f hf]⟩⟩
      · obtain ⟨hb1, hb2⟩ := List.mem_filter.1 hb
        have hne : ¬ repT s = b.1 := fun e => by simp [e] at hb2
        have hw := (h.log b hb1).perm (hlog b.1)
        rw [if_neg hne, List.nil_append] at hw
        exact hw
theorem NInv.sweep {st : NSt} (h : NInv st) : NInv (nSweep st).2 := by
  refine ⟨h.fap, ?_, fun f hf => ?_, fun b hb => ?_⟩
  · show (st.bins.map _).Pairwise _
    rw [List.pairwise_map]
    exact h.bap
  · obtain ⟨l, hl⟩ := h.has f hf
    exact ⟨_, List.mem_map.2 ⟨_, hl, rfl⟩⟩
  · obtain ⟨c, hc, rfl⟩ := List.mem_map.1 hb
    exact (h.log c hc).sweep
theorem NOk.drop {U : Int} {n : Nat} {st : NSt} (h : NOk U n st) (nm : List UInt8) : NOk U n (nDrop st nm).2 := by
  unfold nDrop
  cases hf : nFile st.files nm with
  | none => exact h
  | some s =>
    simp only
    split
    · refine ⟨fun b hb => ?_, by rw [List.length_map]; exact h.many, fun f hf => h.files f (List.mem_filter.1 hf).1⟩
      obtain ⟨c, hc, rfl⟩ := List.mem_map.1 hb
      split
      · exact dropAll_ok _ (h.bins c hc)
      · exact h.bins c hc
    · exact ⟨fun b hb => h.bins b (List.mem_filter.1 hb).1, Nat.le_trans (List.length_filter_le _ _) h.many, fun f hf => h.files f (List.mem_filter.1 hf).1⟩
theorem NOk.sweep {U : Int} {n : Nat} {st : NSt} (h : NOk U n st) : NOk U n (nSweep st).2 := by
  refine ⟨fun b hb => ?_, by show (st.bins.map _).length ≤ n; rw [List.length_map]; exact h.many, h.files⟩
  obtain ⟨c, hc, rfl⟩ := List.mem_map.1 hb
  exact hSweep_ok (h.bins c hc)
theorem hSize_parts (l : List Hd) : hSize l = (hSweep l).1 + hSize (hSweep l).2 := by
  show hSize l = hSize (l.filter unused) + hSize (l.filter (fun h => !unused h))
  induction l with
  | nil => rfl
  | cons x r ih =>
    rw [hSize_cons, ih, List.filter_cons, List.filter_cons]
    cases unused x
    · simp only [Bool.false_eq_true, if_false, Bool.not_false, if_true, hSize_cons]
      omega
    · simp only [if_true, Bool.not_true, Bool.false_eq_true, if_false, hSize_cons]
      omega
theorem nSweep_size (st : NSt) : nSize st.bins - (nSweep st).1 = nSize (nSweep st).2.bins := by
  show nSize st.bins - (st.bins.map fun b => (hSweep b.2).1).sum = nSize (st.bins.map (fun b => (b.1, (hSweep b.2).2)))
  generalize st.bins = l
  induction l with
  | nil => rfl
  | cons x r ih =>
    rw [List.map_cons, List.map_cons, nSize_cons, nSize_cons, List.sum_cons, hSize_parts x.2]
    simp only
    omega
/- What is put is got. -/
theorem NInv.got {U : Int} {n : Nat} {st : NSt} (h : NInv st) (hok : NOk U n st) {nm s : List UInt8} (hm : (nm, s) ∈ st.files) : nFile st.files nm = some s ∧ ∃ l, nBin st.bins (repT s) = some l ∧ ∀ t ∈ pieces s, hGet l (idOfL t) = (t, 0) := by
  obtain ⟨l, hl⟩ := h.has _ hm
  refine ⟨nFile_of_mem h.fap hm, l, nBin_of_mem h.bap hl, fun t ht => (h.log _ hl).get (hok.bins _ hl) ?_⟩
  exact List.mem_flatMap.2 ⟨_, hm, by rw [if_pos rfl]; exact ht⟩
/- A text that is there has no new byte. -/
theorem NInv.again {U : Int} {n : Nat} {st : NSt} (h : NInv st) (hok : NOk U n st) (hU : 0 ≤ U) {nm s : List UInt8} (hm : (nm, s) ∈ st.files) (x : List UInt8) : (nPut st x s).1 = 0 := by
  obtain ⟨l, hl⟩ := h.has _ hm
  rcases nPut_cases' st x s with ⟨_, e, _⟩ | ⟨_, _, hec, e⟩
  · exact e
  · rw [e]
    rw [nBin_of_mem h.bap hl, Option.getD_some] at hec ⊢
    exact WLog.fresh (pieces s) hU (hok.bins _ hl) (h.log _ hl) (fun t ht => List.mem_flatMap.2 ⟨_, hm, by rw [if_pos rfl]; exact ht⟩) hec
end Go.Proofs.YtjdobbjdlighpabGreatDoor
