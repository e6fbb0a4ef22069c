/-
  Own text. node.putPieces by a contract: pieces are put into a bin, in order, up to the first that is refused.
-/
import Derived.Test.YteefjbdejcpepaaDoorNSize
import Derived.Test.YteefjbdejcpepaaDoorBinP
import Derived.Test.YteefjbdejcpepaaDoorCutAll
namespace Go.Proofs.YteefjbdejcpepaaDoor
open Go.RowKit Go.Maps

theorem CellsAt.off {F : Nat → Prop} {w w' : World} {v : Value} {xs : List Value} (h : CellsAt w v xs) (ho : Off F w w') (hn : ∀ k, v.ownBlock = some k → ¬ F k) : CellsAt w' v xs := by
  obtain ⟨p, c, rfl, h⟩ := h
  refine ⟨p, c, rfl, fun i hi => ?_⟩
  obtain ⟨b, o, rfl, ⟨hb, hc⟩, h0⟩ := h i hi
  exact ⟨b, o, rfl, ⟨Nat.lt_of_lt_of_le hb ho.size, hc⟩, (World.cell?_of_block (w := w) (ho.block b hb (hn b rfl))).trans h0⟩
theorem ErrE.off {F : Nat → Prop} {L : List Nat} {w w' : World} {a : Nat → Addr} (h : ErrE L w a) (ho : Off F w w') (hG : ∀ i, L.contains i = true → ¬ F (errG i)) : ErrE L w' a where
  glob i hi := (World.cell?_of_block (w := w) (ho.block _ (lt_of_cell (h.glob i hi)) (hG i hi))).trans (h.glob i hi)
/- What the program makes of pieces that it puts: how many new bytes, the error, the bin. -/
def putAll (l : List Hd) (fr : Int) : List (List UInt8) → Int × Int × List Hd
  | [] => (fr, 0, l)
  | s :: r => if (hPut l s).1.2.2 = 0 then putAll (hPut l s).2 (if (hPut l s).1.2.1 = true then fr + s.length else fr) r else (0, (hPut l s).1.2.2, (hPut l s).2)
def PutsPost (a : Nat → Addr) (w : World) (p : Addr) (F : Nat → Prop) (r : Int × Int × List Hd) (e : Ending) (w' : World) : Prop :=
  ∃ ev F', e = .returned (.tuple #[.int .i64 r.1, ev]) ∧ ErrIn w.heap.size w' a ev (r.2.1, -1) ∧ PBin0 w' p F' r.2.2 ∧ (∀ k, F' k → F k ∨ w.heap.size ≤ k) ∧ Off F w w'
set_option maxRecDepth 100000 in
set_option maxHeartbeats 4000000 in
theorem putPieces_any (a : Nat → Addr) (vl : Value) (ls : List (List UInt8)) (p : Addr) (F : Nat → Prop) (U : Int) (l : List Hd) (w : World) (hU0 : 0 ≤ U) (hU : U + ls.length ≤ 1000000) (hok : BinOk U l) (hlen : ls.length ≤ 5000) (hsz : ∀ t ∈ ls, t.length ≤ 100) (hE : ErrE [1, 6, 9] w a) (hG : ∀ i, ([1, 6, 9] : List Nat).contains i = true → ¬ F (errG i))
    (hv : CellsAt w vl (ls.map txtV)) (hrow : ∀ k, vl.ownBlock = some k → ¬ F k) (hP : PBin0 w p F l) :
    Calls Tryd.prog 77 #[.pointer (some p), vl] w (PutsPost a w p F (putAll l 0 ls)) := by
  have HV : Hid (CellsAt w vl (ls.map txtV)) := hv
  have HROW : Hid (∀ k, vl.ownBlock = some k → ¬ F k) := hrow
  have HSZ : Hid (∀ t ∈ ls, t.length ≤ 100) := hsz
  have HEE : Hid (∀ W, Off F w W → ErrE [1, 6, 9] W a) := fun W ho => hE.off ho hG
  have HP : Hid (PBin0 w p F l) := hP
  have HOK : Hid (BinOk U l) := hok
  obtain ⟨RES, hRES⟩ : ∃ RES, putAll l 0 ls = RES := ⟨_, rfl⟩
  have HRES : Hid (putAll l 0 ls = RES) := hRES
  rw [hRES]
  obtain ⟨pa, ca, hvl, _⟩ := hv
  rw [List.length_map] at hvl
  subst hvl
  have hlen' : (ls.length : Int) ≤ 5000 := by omega
  clear hsz hE hG hP hok hRES hrow
  go_enter Tryd.func77, Tryd.ntmps77
  go_wp2_with fail
  go_loopw [6, 14] (fun fv iv wr => ∃ (k : Nat) (fr : Int) (bl : List Hd) (F' : Nat → Prop), k ≤ ls.length ∧ iv = .int .i64 k ∧ fv = .int .i64 fr ∧ (0 ≤ fr ∧ fr ≤ 100 * k) ∧ Hid (putAll bl fr (ls.drop k) = RES) ∧ Hid (BinOk (U + k) bl) ∧ Hid (PBin0 wr p F' bl) ∧ Hid (∀ j, F' j → F j ∨ w.heap.size ≤ j) ∧ Hid (Off F w wr)) (fun _ iv _ => ls.length - (intOf iv).toNat)
  case atStart => exact ⟨0, 0, l, F, Nat.zero_le _, rfl, rfl, ⟨Int.le_refl _, by decide⟩, by rw [List.drop_zero]; exact HRES.out, by show BinOk _ _; rw [show U + ((0 : Nat) : Int) = U by omega]; exact HOK.out, HP.out, fun j hj => .inl hj, Off.of_below (Below.refl _ _)⟩
  case round =>
    clear HRES HP HOK
    obtain ⟨k, fr, bl, F', hk, rfl, rfl, ⟨hf0, hf1⟩, HR, HOK, HP, HF, HO⟩ := hrel
    by_cases hlt : k < ls.length
    · have hlt' : (k : Int) < (ls.length : Int) := by omega
      have hk0 : (0 : Int) ≤ (k : Int) := by omega
      obtain ⟨_, _, hve, hcell⟩ := HV.out.off HO.out HROW.out
      obtain ⟨rfl, rfl⟩ : pa = _ ∧ ca = _ := by simpa using hve
      obtain ⟨b, o, rfl, _, c0⟩ := hcell k (by simpa using hlt)
      rw [List.getElem_map] at c0
      have HT := hideN (HSZ.out ls[k] (List.getElem_mem hlt))
      have hdr : ls.drop k = ls[k] :: ls.drop (k + 1) := List.drop_eq_getElem_cons hlt
      rw [hdr] at HR
      obtain ⟨t, ht⟩ : ∃ t, ls[k] = t := ⟨_, rfl⟩
      rw [ht] at c0 HT HR
      have htl : (⟨t.toArray⟩ : ByteArray).size = t.length := by simp [ByteArray.size]
      have HPUT := hideN (pPut_any (a := a) ⟨t.toArray⟩ p F' bl wr (by rw [htl]; have := HT.out; omega) (HOK.out.mono (by omega)) (HEE.out _ HO.out) HP.out)
      have HOK2 : Hid (BinOk (U + ((k + 1 : Nat) : Int)) (hPut bl t).2) := by
        show BinOk _ _
        rw [show U + ((k + 1 : Nat) : Int) = U + k + 1 by omega]
        exact hPut_ok HOK.out t (by omega)
      have e8 : (⟨t.toArray⟩ : ByteArray).data.toList = t := by simp
      rw [e8] at HPUT
      unfold PPost at HPUT
      have htx := HT.out
      clear hdr ht hcell hve e8 HOK HP
      obtain ⟨⟨⟨ri, ra, re⟩, rl⟩, hq⟩ : ∃ q, hPut bl t = q := ⟨_, rfl⟩
      rw [putAll, hq] at HR
      rw [hq] at HPUT HOK2
      simp only at HPUT HOK2 HR
      clear hq
      obtain ⟨T, hT⟩ : ∃ T : ByteArray, (⟨t.toArray⟩ : ByteArray) = T := ⟨_, rfl⟩
      change wr.cell? ⟨b, o + k, none⟩ = some (.string ⟨t.toArray⟩) at c0
      rw [hT] at htl c0 HPUT
      clear hT
      have htl' : (T.size : Int) = (t.length : Int) := by omega
      have hw1 : IntKind.i64.wrap (fr + (t.length : Int)) = fr + (t.length : Int) := by rw [IntKind.wrap_i64]; omega
      go_wp2_with fail
      refine HPUT.out.mono ?_
      rintro e w2 ⟨ev, F2, rfl, he2, hp2, hf2, ho2⟩
      have HO2 : Hid (Off F w w2) := HO.out.trans ho2 (fun j hj hF => (HF.out j hF).resolve_right (by omega))
      have HF2 : Hid (∀ j, F2 j → F j ∨ w.heap.size ≤ j) := fun j hj => by
        rcases hf2 j hj with h | h
        · exact HF.out j h
        · exact .inr (Nat.le_trans HO.out.size h)
      have hal := (Below.refl w2.heap.size w2).alloc (Nat.le_refl _) (.cells #[.int .u32 (ri.1 : Nat), .int .i64 ri.2] 37)
      have HP2 := hideN (hp2.off (Off.of_below (F := fun _ => False) hal) (fun _ _ h => h))
      have HE2 := hideN (he2.below hal)
      have HO3 : Hid (Off F w _) := hideN (HO2.out.trans (Off.of_below (F := fun _ => False) hal) (fun _ _ h => h.elim))
      have hsw := HO.out.size
      clear HPUT hp2 hf2 ho2 he2 hal
      by_cases hre : re = 0
      · subst hre
        obtain rfl := HE2.out.nil
        rw [if_pos rfl] at HR
        cases ra with
        | true =>
          simp only [if_true] at HR
          go_wp2_with fail
          go_roundw
          case rel => exact ⟨k + 1, fr + (t.length : Int), rl, F2, hlt, by go_num, rfl, ⟨by omega, by omega⟩, HR.out, HOK2.out, HP2.out, HF2.out, HO3.out⟩
          case measure => simp [intOf]; omega
        | false =>
          simp only [Bool.false_eq_true, if_false] at HR
          go_wp2_with fail
          go_roundw
          case rel => exact ⟨k + 1, fr, rl, F2, hlt, by go_num, rfl, ⟨by omega, by omega⟩, HR.out, HOK2.out, HP2.out, HF2.out, HO3.out⟩
          case measure => simp [intOf]; omega
      · rw [if_neg hre] at HR
        obtain ⟨t1, u1, rfl⟩ : ∃ t u, ev = .iface t u := by
          rcases HE2.out with ⟨_, hf⟩ | ⟨_, _, hv, _⟩ | ⟨_, _, _, _, _, _, hv, _⟩
          · exact (hre (Prod.mk.inj hf).1).elim
          · exact ⟨_, _, hv⟩
          · exact ⟨_, _, hv⟩
        have HRE : Hid (ErrIn w.heap.size (w2.alloc (.cells #[.int .u32 (ri.1 : Nat), .int .i64 ri.2] 37)) a (.iface t1 u1) (re, -1)) := by
          rcases HE2.out with h | h | ⟨k1, pb, po, at0, h1, h2, h3, h4⟩
          · exact .inl h
          · exact .inr (.inl h)
          · exact .inr (.inr ⟨k1, pb, po, at0, h1, by omega, h3, h4⟩)
        clear HE2
        go_wp2_with fail
        go_ret2
        refine ⟨.iface t1 u1, F2, ?_, ?_, ?_, HF2.out, HO3.out⟩
        · rw [← HR.out]; rfl
        · rw [← HR.out]; exact HRE.out
        · rw [← HR.out]; exact HP2.out
    · have hge : (ls.length : Int) ≤ (k : Int) := by omega
      rw [List.drop_eq_nil_of_le (by omega), putAll] at HR
      go_wp2_with fail
      go_ret2
      refine ⟨.nilIface, F', ?_, ?_, ?_, HF.out, HO.out⟩
      · rw [← HR.out]; rfl
      · rw [← HR.out]; exact .inl ⟨rfl, rfl⟩
      · rw [← HR.out]; exact HP.out
end Go.Proofs.YteefjbdejcpepaaDoor
