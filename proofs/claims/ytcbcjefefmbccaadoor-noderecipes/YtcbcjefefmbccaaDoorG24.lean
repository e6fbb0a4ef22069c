/-
  Own text. (*node.Node).Put by a contract.
  Own text. The program's recipe.Text by a contract.
-/
import Derived.Test.YtcbcjefefmbccaaDoorG18
import Derived.Test.YtcbcjefefmbccaaDoorG22
import Derived.Test.YtcbcjefefmbccaaDoorG23
import Derived.Test.YtcbcjefefmbccaaDoorG21
import Derived.Test.YtcbcjefefmbccaaDoorG12
import Derived.Test.YtcbcjefefmbccaaDoorG07
import Derived.Laws.OwnMore
namespace Go.Proofs.YtcbcjefefmbccaaDoor
open Go.RowKit Go.Maps

/- What a node answers to a file that is put, and what it is then. -/
def nPut (st : NSt) (nm s : List UInt8) : Int × Int × NSt :=
  if (ofR nm s).2 ≠ 0 then (0, (ofR nm s).2, st) else
    match nFile st.files nm with
    | some _ => (0, 6, st)
    | none => if 30 ≤ st.files.length then (0, 7, st) else
      if (putAll ((nBin st.bins (repT s)).getD []) 0 (pieces s)).2.1 ≠ 0 then (0, (putAll ((nBin st.bins (repT s)).getD []) 0 (pieces s)).2.1, st) else
        ((putAll ((nBin st.bins (repT s)).getD []) 0 (pieces s)).1, 0, ⟨(nm, s) :: st.files, (repT s, (putAll ((nBin st.bins (repT s)).getD []) 0 (pieces s)).2.2) :: st.bins.filter (fun b => !decide (b.1 = repT s))⟩)
def NPutPost (a : Nat → Addr) (w : World) (p : Addr) (F : Nat → Prop) (r : Int × Int × NSt) (e : Ending) (w' : World) : Prop :=
  ∃ ev F', e = .returned (.tuple #[.int .i64 r.1, ev]) ∧ ErrIn w.heap.size w' a ev (r.2.1, -1) ∧ PNode w' p F' r.2.2 ∧ (∀ k, F' k → F k ∨ w.heap.size ≤ k) ∧ Off F w w'
theorem NPutPost.same {a : Nat → Addr} {w w' : World} {p : Addr} {F : Nat → Prop} {st : NSt} {r : Int × Int × NSt} {ev : Value} {c : Int} (hr : r = (0, c, st)) (hP : PNode w p F st) (hb : Below w.heap.size w w') (he : ErrIn w.heap.size w' a ev (c, -1)) : NPutPost a w p F r (.returned (.tuple #[.int .i64 0, ev])) w' := by
  subst hr
  exact ⟨ev, F, rfl, he, hP.below hb, fun k hk => .inl hk, Off.of_below hb⟩
theorem nPut_bad {st : NSt} {nm s : List UInt8} (h : (ofR nm s).2 ≠ 0) : nPut st nm s = (0, (ofR nm s).2, st) := by unfold nPut; rw [if_pos h]
theorem nPut_there {st : NSt} {nm s t : List UInt8} (h : (ofR nm s).2 = 0) (h2 : nFile st.files nm = some t) : nPut st nm s = (0, 6, st) := by unfold nPut; rw [if_neg (by rw [h]; simp), h2]
theorem nPut_full {st : NSt} {nm s : List UInt8} (h : (ofR nm s).2 = 0) (h2 : nFile st.files nm = none) (h3 : 30 ≤ st.files.length) : nPut st nm s = (0, 7, st) := by unfold nPut; rw [if_neg (by rw [h]; simp), h2]; simp only; rw [if_pos h3]
theorem piece_le {s q : List UInt8} (hq : q ∈ pieces s) : 0 < q.length ∧ q.length ≤ 64 := by
  obtain ⟨i, hi, rfl⟩ := List.getElem_of_mem hq
  exact ⟨(pieces_at s i hi).1, (pieces_at s i hi).2.1⟩
theorem repT_wf (s : List UInt8) : WfID (repT s) := by
  by_cases h : idsOf s = []
  · show WfID (repOf (idsOf s))
    rw [h]
    exact ⟨by decide, by decide, by decide⟩
  · obtain ⟨q, hq, e⟩ := List.mem_map.1 (repOf_mem _ h)
    have := piece_le hq
    show WfID (repOf (idsOf s))
    have e' : repOf (idsOf s) = (pmore 2166136261 q, (q.length : Int)) := e.symm
    rw [e']
    exact ⟨pmore_lt _ (by decide) _, by simp only; omega, by simp only; omega⟩
theorem nPut_err {st : NSt} {nm s : List UInt8} {r : Nat × Int} {BL bl : List Hd} {fr ec : Int} (h : (ofR nm s).2 = 0) (h2 : nFile st.files nm = none) (h3 : ¬ 30 ≤ st.files.length) (hr : repT s = r) (hb : (nBin st.bins r).getD [] = BL) (hp : putAll BL 0 (pieces s) = (fr, ec, bl)) (hc : ec ≠ 0) : nPut st nm s = (0, ec, st) := by
  unfold nPut
  rw [if_neg (by rw [h]; simp), h2]
  simp only
  rw [if_neg h3, hr, hb, hp, if_pos hc]
theorem nPut_ok {st : NSt} {nm s : List UInt8} {r : Nat × Int} {BL bl : List Hd} {fr : Int} (h : (ofR nm s).2 = 0) (h2 : nFile st.files nm = none) (h3 : ¬ 30 ≤ st.files.length) (hr : repT s = r) (hb : (nBin st.bins r).getD [] = BL) (hp : putAll BL 0 (pieces s) = (fr, 0, bl)) : nPut st nm s = (fr, 0, ⟨(nm, s) :: st.files, (r, bl) :: st.bins.filter (fun b => !decide (b.1 = r))⟩) := by
  unfold nPut
  rw [if_neg (by rw [h]; simp), h2]
  simp only
  rw [if_neg h3, hr, hb, hp, if_neg (by simp)]
set_option maxRecDepth 100000 in
set_option maxHeartbeats 4000000 in
theorem nodePut_any (a : Nat → Addr) (nm s : ByteArray) (p : Addr) (F : Nat → Prop) (U : Int) (st : NSt) (w : World) (hnm : nm.size ≤ 50000) (hs : s.size ≤ 50000) (hU : 0 ≤ U ∧ U + 5000 ≤ 1000000) (hok : ∀ b ∈ st.bins, BinOk U b.2) (hbn : st.bins.length ≤ 1000) (hE : ErrE [1, 3, 5, 6, 9] w a) (hP : PNode w p F st) :
    Calls Tryd.prog 47 #[.pointer (some p), .string nm, .string s] w (NPutPost a w p F (nPut st nm.data.toList s.data.toList)) := by
  have HP : Hid (PNode w p F st) := hP
  have HEE : Hid (∀ W, Below w.heap.size w W → ErrE [1, 3, 5, 6, 9] W a) := fun W hb => hE.below hb (Nat.le_refl _)
  have HOK : Hid (∀ b ∈ st.bins, BinOk U b.2) := hok
  have HOF := hideN (of_all a nm s (by unfold maxLen; omega) w (hE.sub (by decide)))
  unfold ofPost at HOF
  obtain ⟨RES, hRES⟩ : ∃ RES, nPut st nm.data.toList s.data.toList = RES := ⟨_, rfl⟩
  have HRES : Hid (nPut st nm.data.toList s.data.toList = RES) := hRES
  rw [hRES]
  clear hok hE hRES
  go_enter Tryd.func47, Tryd.ntmps47
  go_wp2_with fail
  refine HOF.out.mono ?_
  rintro e w1 ⟨vi1, ev1, rfl, hi1, he1, hb1⟩
  have HB1 := hideN hb1
  have HI1 := hideN hi1
  have HE1 := hideN he1
  clear HOF hi1 he1 hb1
  by_cases hbad : (ofR nm.data.toList s.data.toList).2 = 0
  · have hnmI : isName nm.data.toList = true := by
      cases h : isName nm.data.toList with
      | true => rfl
      | false => rw [ofR_name h] at hbad; cases hbad
    have hs4 : ¬ 4000 < s.data.toList.length := fun h => by rw [ofR_bound hnmI h] at hbad; cases hbad
    have hR := ofR_fine hnmI hs4
    have HBAD := hideN hbad
    rw [hR] at HI1 HE1 ⊢
    obtain rfl := HE1.out.nil
    simp only at HI1
    obtain ⟨P, hPP⟩ : ∃ P, pmore 2166136261 s.data.toList = P := ⟨_, rfl⟩
    have HPP := hideN hPP
    have hsl : s.data.toList.length = s.size := by rw [Array.length_toList]; rfl
    obtain ⟨pv, cv, hvi, _⟩ := HI1.out
    have hrc : rcpDV (nm.data.toList, (s.data.toList.length : Int), pmore 2166136261 s.data.toList, idsOf s.data.toList) vi1 = .agg #[.string nm, .int .i64 (s.size : Int), .int .u32 (P : Nat), .slice pv (idsOf s.data.toList).length cv] := by
      rw [hvi, ← hPP, ← hsl]
    have HS4 : Hid (s.size ≤ 4000) := by show _ ≤ _; omega
    rw [hrc]
    rw [hvi] at HI1
    have HIL : Hid (idsOf s.data.toList ≠ [] → ∀ k, (Value.slice pv (idsOf s.data.toList).length cv).ownBlock = some k → w.heap.size ≤ k ∧ k < w1.heap.size) := fun hne k hk => by
      obtain ⟨p1, c1, hv1, hc1⟩ := HI1.out
      obtain ⟨b1, o1, hp1, h1, h2, _⟩ := hc1 0 (List.length_pos_iff.2 hne)
      have hpp : pv = p1 := by have := hv1; simp at this; exact this.1
      subst hpp hp1
      have : b1 = k := by simpa [Value.ownBlock] using hk
      omega
    obtain ⟨idl, hidl⟩ : ∃ idl, (idsOf s.data.toList).length = idl := ⟨_, rfl⟩
    have HIDL := hideN hidl
    rw [hidl] at HI1 HIL ⊢
    clear HE1 hR hnmI hrc hvi hPP hsl hidl hs4 hbad hP
    have hal1 := (Below.refl w1.heap.size w1).alloc (Nat.le_refl _) (.cells #[.string nm, .int .i64 (s.size : Int), .int .u32 (P : Nat), .slice pv idl cv] 87)
    have hbr1 := Blk.new w1 #[.string nm, .int .i64 (s.size : Int), .int .u32 (P : Nat), .slice pv idl cv] 87
    obtain ⟨N, mf, mb, vi, pi, Fi, rfl, hN, hFe⟩ := HP.out
    have hN1 := (hN.below HB1.out).below hal1
    have HN1 := hideN hN1
    have q0 := hN1.blk.cell (i := 0) rfl
    have HB2 : Hid (Below w.heap.size w _) := hideN (HB1.out.trans (hal1.mono HB1.out.size))
    have hnw : WfNm nm.data.toList := by show nm.data.toList.length ≤ maxLen; rw [Array.length_toList]; show nm.size ≤ maxLen; unfold maxLen; omega
    have hnmE : (⟨nm.data.toList.toArray⟩ : ByteArray) = nm := by simp
    cases hf : nFile st.files nm.data.toList with
    | some t0 =>
      have HR : Hid (RES = (0, 6, st)) := HRES.out.symm.trans (nPut_there HBAD.out hf)
      have l0 : (Instr.lookup 131 (.map (some mf)) (.string nm) true).run Tryd.prog (w1.alloc (.cells #[.string nm, .int .i64 (s.size : Int), .int .u32 (P : Nat), .slice pv idl cv] 87)) = .ok (.tuple #[rwV (rwOf (nm.data.toList, t0) (vi nm.data.toList)), .bool true]) (w1.alloc (.cells #[.string nm, .int .i64 (s.size : Int), .int .u32 (P : Nat), .slice pv idl cv] 87)) := by
        have := hN1.files.look_some Tryd.underlying131 (rcpZero _) (List.mem_map.2 ⟨_, nFile_some hf, rfl⟩)
        change (Instr.lookup _ _ (.string ⟨nm.data.toList.toArray⟩) true).run _ _ = _ at this
        rw [hnmE] at this
        exact this
      obtain ⟨pv0, cv0, hv0, _⟩ := hN.ids _ (nFile_some hf)
      obtain ⟨A0, L0, P0, n0, hrv⟩ : ∃ (A0 : ByteArray) (L0 P0 : Int) (n0 : Nat), rwV (rwOf (nm.data.toList, t0) (vi nm.data.toList)) = .agg #[.string A0, .int .i64 L0, .int .u32 P0, .slice pv0 n0 cv0] := ⟨_, _, _, _, by simp only at hv0; unfold rwOf; rw [hv0]⟩
      rw [hrv] at l0
      have hal2 := (Below.refl (w1.alloc (.cells #[.string nm, .int .i64 (s.size : Int), .int .u32 (P : Nat), .slice pv idl cv] 87)).heap.size (w1.alloc (.cells #[.string nm, .int .i64 (s.size : Int), .int .u32 (P : Nat), .slice pv idl cv] 87))).alloc (Nat.le_refl _) (.cells #[.string A0, .int .i64 L0, .int .u32 P0, .slice pv0 n0 cv0] 87)
      have HB3 : Hid (Below w.heap.size w _) := hideN (HB2.out.trans (hal2.mono HB2.out.size))
      have g5 := (HEE.out _ HB3.out).glob 5 rfl
      change World.cell? _ ⟨5, 0, none⟩ = _ at g5
      clear hN hN1 hf hal1 hbr1 hrv hv0 hal2
      go_wp2_with fail
      generalize (w1.alloc (.cells #[.string nm, .int .i64 (s.size : Int), .int .u32 (P : Nat), .slice pv idl cv] 87)).alloc (.cells #[.string A0, .int .i64 L0, .int .u32 P0, .slice pv0 n0 cv0] 87) = W at *
      go_region
      go_wp2_with fail
      go_ret2
      exact NPutPost.same HR.out HP.out HB3.out.drew (.inr (.inl ⟨5, by decide, rfl, rfl⟩))
    | none =>
      have l0 : (Instr.lookup 131 (.map (some mf)) (.string nm) true).run Tryd.prog (w1.alloc (.cells #[.string nm, .int .i64 (s.size : Int), .int .u32 (P : Nat), .slice pv idl cv] 87)) = .ok (.tuple #[.agg #[.string ⟨#[]⟩, .int .i64 0, .int .u32 0, .slice none 0 0], .bool false]) (w1.alloc (.cells #[.string nm, .int .i64 (s.size : Int), .int .u32 (P : Nat), .slice pv idl cv] 87)) := by
        have := hN1.files.look_none Tryd.underlying131 (rcpZero _) hnw (fun y hy => by
          obtain ⟨f, hfm, rfl⟩ := List.mem_map.1 hy
          exact nFile_none hf f hfm)
        change (Instr.lookup _ _ (.string ⟨nm.data.toList.toArray⟩) true).run _ _ = _ at this
        rw [hnmE] at this
        exact this
      have hal2 := (Below.refl (w1.alloc (.cells #[.string nm, .int .i64 (s.size : Int), .int .u32 (P : Nat), .slice pv idl cv] 87)).heap.size (w1.alloc (.cells #[.string nm, .int .i64 (s.size : Int), .int .u32 (P : Nat), .slice pv idl cv] 87))).alloc (Nat.le_refl _) (.cells #[.string ⟨#[]⟩, .int .i64 0, .int .u32 0, .slice none 0 0] 87)
      have HB3 : Hid (Below w.heap.size w _) := hideN (HB2.out.trans (hal2.mono HB2.out.size))
      have hN2 := hN1.below hal2
      have q2 := hN2.blk.cell (i := 0) rfl
      have hbr2 := hbr1.next hal2
      have HF := hideN hf
      have HN2 := hideN hN2
      have HI2 := hideN ((HI1.out.below hal1).below hal2)
      have hlenf : (st.files.map fun f => (f.1, rwOf f (vi f.1))).length = st.files.length := List.length_map ..
      have ln := hN2.files.len Tryd.underlying131 3
      rw [hlenf] at ln
      clear hN hN1 hf hal1 hbr1 hal2 hN2 HN1 HI1 hlenf
      by_cases hfull : 30 ≤ st.files.length
      · have hfull' : (30 : Int) ≤ (st.files.length : Int) := by omega
        have HR : Hid (RES = (0, 7, st)) := HRES.out.symm.trans (nPut_full HBAD.out HF.out hfull)
        have g6 := (HEE.out _ HB3.out).glob 6 rfl
        change World.cell? _ ⟨6, 0, none⟩ = _ at g6
        clear hfull
        go_wp2_with fail
        generalize (w1.alloc (.cells #[.string nm, .int .i64 (s.size : Int), .int .u32 (P : Nat), .slice pv idl cv] 87)).alloc (.cells #[.string ⟨#[]⟩, .int .i64 0, .int .u32 0, .slice none 0 0] 87) = W at *
        go_region
        go_wp2_with fail
        go_ret2
        exact NPutPost.same HR.out HP.out HB3.out.drew (.inr (.inl ⟨6, by decide, rfl, rfl⟩))
      have hfull' : ¬ (30 : Int) ≤ (st.files.length : Int) := by omega
      have HFULL := hideN hfull
      have hidz : (idsOf s.data.toList).length ≤ maxLen := by
        have h1 := pieces_len_le s.data.toList
        have h2 : s.data.toList.length = s.size := by rw [Array.length_toList]; rfl
        unfold idsOf maxLen
        rw [List.length_map]
        omega
      have HREP := hideN (fun W (hv : IdsAt W (.slice pv idl cv) (idsOf s.data.toList)) => rep_any nm (s.size : Int) (P : Int) (.slice pv idl cv) (idsOf s.data.toList) W hv hidz)
      have HWR := hideN (repT_wf s.data.toList)
      obtain ⟨⟨rp, rl⟩, hrep⟩ : ∃ r, repT s.data.toList = r := ⟨_, rfl⟩
      have HRP := hideN hrep
      change Hid (∀ W, _ → Calls _ _ _ W fun e w' => e = .returned (idV ((repT s.data.toList).1 : Nat) (repT s.data.toList).2) ∧ _) at HREP
      rw [hrep] at HREP HWR
      simp only at HREP
      clear hidz hrep
      go_wp2_with fail
      generalize (w1.alloc (.cells #[.string nm, .int .i64 (s.size : Int), .int .u32 (P : Nat), .slice pv idl cv] 87)).alloc (.cells #[.string ⟨#[]⟩, .int .i64 0, .int .u32 0, .slice none 0 0] 87) = W2 at *
      refine (HREP.out W2 HI2.out.at).mono ?_
      rintro e w3 ⟨rfl, hb3⟩
      have hal3 := (Below.refl w3.heap.size w3).alloc (Nat.le_refl _) (.cells #[.int .u32 (rp : Nat), .int .i64 rl] 37)
      have hbi3 := Blk.new w3 #[.int .u32 (rp : Nat), .int .i64 rl] 37
      have HB4 : Hid (Below w.heap.size w _) := hideN ((HB3.out.trans (hb3.mono HB3.out.size)).trans (hal3.mono (Nat.le_trans HB3.out.size hb3.size)))
      have HN4 := hideN ((HN2.out.below hb3).below hal3)
      have HI4 := hideN ((HI2.out.below hb3).below hal3)
      have hbr4 := (hbr2.next hb3).next hal3
      have HWW3 := hideN (Nat.le_trans HB3.out.size hb3.size)
      have hw31a : w3.heap.size ≠ w1.heap.size := by have := (hbr2.next hb3).lt; omega
      have hsz4 : w3.heap.size < (w3.alloc (.cells #[.int .u32 (rp : Nat), .int .i64 rl] 37)).heap.size := by simp
      clear hal3 hb3 HREP HN2 HI2 hbr2 ln q2 q0 l0 HB3
      go_wp2_with fail
      generalize w3.alloc (.cells #[.int .u32 (rp : Nat), .int .i64 rl] 37) = W4 at *
      have hrB : w1.heap.size < W4.heap.size := hbr4.lt
      have HW31 : Hid (w3.heap.size ≠ w1.heap.size) := hw31a
      clear hw31a
      refine (nodeBin_any (rp, rl) ⟨N, 0, none⟩ F st W4 HWR.out ⟨N, mf, mb, vi, pi, Fi, rfl, HN4.out, hFe⟩).mono ?_
      rintro e w5 ⟨hr5, hb5⟩
      have HB5 : Hid (Below w.heap.size w w5) := HB4.out.trans (hb5.mono HB4.out.size)
      have HN5 := hideN (HN4.out.below hb5)
      have HI5 := hideN (HI4.out.below hb5)
      have hbr5 := hbr4.next hb5
      have hbi5 := hbi3.next hb5
      have HW45 := hideN hb5.size
      have HWW4 := hideN HB4.out.size
      clear hb5 HN4 HI4 hbr4 hbi3 HB4
      obtain ⟨BO, hBO⟩ : ∃ BO, nBin st.bins (rp, rl) = BO := ⟨_, rfl⟩
      have HBO := hideN hBO
      rw [hBO] at hr5
      clear hBO
      have HOKB : Hid (BinOk U (BO.getD [])) := by
        show BinOk _ _
        cases hb : BO with
        | none => exact BinOk.nil _
        | some l0 => exact HOK.out _ (nBin_some (HBO.out.trans hb))
      obtain ⟨BL, hBL⟩ : ∃ BL, BO.getD [] = BL := ⟨_, rfl⟩
      have HBL : Hid ((nBin st.bins (rp, rl)).getD [] = BL) := by show _ = _; rw [HBO.out]; exact hBL
      rw [hBL] at HOKB
      cases BO with
      | none =>
        have hBL2 : ([] : List Hd) = BL := hBL
        clear hBL
        obtain rfl : e = .returned (.pointer none) := hr5
        go_wp2_with fail
        refine (pNew_any w5).mono ?_
        rintro e w6 ⟨q, Fq, rfl, hPq, hFq, hb6⟩
        have HB6 : Hid (Below w.heap.size w w6) := HB5.out.trans (hb6.mono HB5.out.size)
        have HN6 := hideN (HN5.out.below hb6)
        have HI6 := hideN (HI5.out.below hb6)
        have hbr6 := hbr5.next hb6
        have hbi6 := hbi5.next hb6
        have HPQ : Hid (PBin0 w6 q Fq BL) := by show PBin0 _ _ _ _; rw [← hBL2]; exact hPq
        have HFQ : Hid (∀ k, Fq k → W4.heap.size ≤ k) := fun k hk => Nat.le_trans HW45.out (hFq k hk)
        have HW46 : Hid (W4.heap.size ≤ w6.heap.size) := Nat.le_trans HW45.out hb6.size
        clear hb6 HN5 HI5 hbr5 hbi5 HB5 hPq hFq hBL2
        go_wp2_with fail
        refine (pieces_any s hs w6).mono ?_
        rintro e w7 ⟨vl, rfl, hrow7, hb7⟩
        have HB7 : Hid (Below w.heap.size w w7) := HB6.out.trans (hb7.mono HB6.out.size)
        have HN7 := hideN (HN6.out.below hb7)
        have HI7 := hideN (HI6.out.below hb7)
        have hbr7 := hbr6.next hb7
        have hbi7 := hbi6.next hb7
        have HB67 := hideN hb7.size
        have HPQ7 := hideN (HPQ.out.off (Off.of_below (F := fun _ => False) hb7) (fun _ _ h => h))
        have HV7 : Hid (CellsAt w7 vl ((pieces s.data.toList).map txtV)) := CellsAt.of_row hrow7
        have HRW7 : Hid (∀ k, vl.ownBlock = some k → ¬ Fq k) := fun k hk hF => by have h1 := HPQ.out.lt k hF; have h2 := (hrow7.lt k hk).1; omega
        clear hrow7 hb7 HPQ HN6 HI6 hbr6 hbi6 HB6
        go_wp2_with fail
        have hpl := pieces_len_le s.data.toList
        have hsl : s.data.toList.length = s.size := by rw [Array.length_toList]; rfl
        have hs4 := HS4.out
        refine (putPieces_any a vl (pieces s.data.toList) q Fq U BL w7 hU.1 (by omega) HOKB.out (by omega) (fun t ht => by have := piece_le ht; omega) ((HEE.out _ HB7.out).sub (by decide)) (fun i hi hF => by
          have h1 := HFQ.out _ hF
          have h2 := lt_of_cell ((HEE.out w (Below.refl _ _)).glob i (by revert hi; simp; omega))
          have h3 := HWW4.out
          omega) HV7.out HRW7.out HPQ7.out).mono ?_
        rintro e w8 ⟨ev8, F8, rfl, he8, hp8, hf8, ho8⟩
        have HB8 : Hid (Below w.heap.size w w8) := HB7.out.trans (ho8.below HB7.out.size (fun j hj hF => by have h1 := HFQ.out j hF; have h2 := HWW4.out; omega))
        have HN8 := hideN (HN7.out.off ho8 (fun k hk hF => by
          have h1 := HFQ.out k hF
          have h2 := HP.out.lt k (by rw [hFe]; exact hk)
          have h3 := HWW4.out
          omega))
        have HI8 := hideN (HI7.out.at.off ho8 (fun hne k hk hF => by
          have h1 := HFQ.out k hF
          have h2 := HIL.out hne k hk
          omega))
        have hbr8 := ho8.blk hbr7 (fun hF => by have h1 := HFQ.out _ hF; omega)
        have hbi8 := ho8.blk hbi7 (fun hF => by have h1 := HFQ.out _ hF; omega)
        have HP8 := hideN hp8
        have HF8 : Hid (∀ k, F8 k → W4.heap.size ≤ k) := fun k hk => by
          rcases hf8 k hk with h | h
          · exact HFQ.out k h
          · have h1 := HW46.out
            have h2 := HB67.out
            omega
        have HE8 := hideN he8
        have hs78 := ho8.size
        have hw7 := HB7.out.size
        clear hpl hsl hs4 ho8 hp8 hf8 he8 HN7 HI7 hbr7 hbi7 HPQ7 HV7 HRW7
        obtain ⟨⟨fr, ec, bl8⟩, hpa⟩ : ∃ r, putAll BL 0 (pieces s.data.toList) = r := ⟨_, rfl⟩
        rw [hpa] at HE8 HP8 ⊢
        simp only at HE8 HP8 ⊢
        by_cases hec : ec = 0
        · subst hec
          have HR := hideN (HRES.out.symm.trans (nPut_ok HBAD.out HF.out HFULL.out HRP.out HBL.out hpa))
          obtain rfl := HE8.out.nil
          clear hpa HE8
          have i0 := hbi8.cell (i := 0) rfl
          have i1 := hbi8.cell (i := 1) rfl
          have x0 := hbr8.cell (i := 0) rfl
          have x1 := hbr8.cell (i := 1) rfl
          have x2 := hbr8.cell (i := 2) rfl
          have x3 := hbr8.cell (i := 3) rfl
          have hal9 := (Below.refl w8.heap.size w8).alloc (Nat.le_refl _) (.cells #[.string nm, .int .i64 (s.size : Int), .int .u32 (P : Nat), .slice pv idl cv] 87)
          have hR9 := Blk.new w8 #[.string nm, .int .i64 (s.size : Int), .int .u32 (P : Nat), .slice pv idl cv] 87
          have HN9 := hideN (HN8.out.below hal9)
          have HI9 := hideN (HI8.out.below hal9)
          have HP9 := hideN (HP8.out.off (Off.of_below (F := fun _ => False) hal9) (fun _ _ h => h))
          have HB9 : Hid (Below w.heap.size w _) := hideN (HB8.out.trans (hal9.mono HB8.out.size))
          have HR9 := hideN hR9
          have HWL8 : Hid (w.heap.size ≤ w8.heap.size) := HB8.out.size
          clear hal9 hR9 HN8 HI8 HP8 HB8
          go_wp2_with fail
          obtain ⟨W9, hW9⟩ : ∃ W9, w8.alloc (.cells #[.string nm, .int .i64 (s.size : Int), .int .u32 (P : Nat), .slice pv idl cv] 87) = W9 := ⟨_, rfl⟩
          rw [hW9] at HN9 HI9 HP9 HB9 HR9 ⊢
          obtain ⟨RB, hRB⟩ : ∃ RB, w8.heap.size = RB := ⟨_, rfl⟩
          rw [hRB] at HR9 HWL8 ⊢
          clear hW9 hRB i0 i1 x0 x1 x2 x3
          have hnew := nFile_none HF.out
          have hltF : ∀ k, nFoot N mf mb vi Fi st k → k < w.heap.size := fun k hk => HP.out.lt k (by rw [hFe]; exact hk)
          have hw4 := HWW4.out
          have hmfl : mf < w.heap.size := hltF mf (.inr (.inl rfl))
          have hRV : ∀ W, Off (fun k => k = mf) W9 W → RcpsAt W (.slice (some ⟨RB, 0, none⟩) 1 1) [rcpOf (nm.data.toList, s.data.toList)] := fun W ho => by
            refine ⟨some ⟨RB, 0, none⟩, 1, rfl, fun i hi => ⟨RB, 0, .slice pv idl cv, rfl, ?_⟩⟩
            obtain rfl : i = 0 := by simp at hi; exact hi
            have hb := ho.blk HR9.out (fun e => by have := HWL8.out; omega)
            have h2 : s.data.toList.length = s.size := by rw [Array.length_toList]; rfl
            refine ⟨hb.lt, ?_, ?_, ?_, hb.cell (i := 3) rfl, HI9.out.off ho (fun hne k hk e => by have := HIL.out hne k hk; omega)⟩
            · have e : (⟨nm.data.toList.toArray⟩ : ByteArray) = nm := by simp
              show W.cell? _ = some (.string ⟨nm.data.toList.toArray⟩)
              rw [e]
              exact hb.cell (i := 0) rfl
            · show W.cell? _ = some (.int .i64 (s.data.toList.length : Int))
              rw [h2]
              exact hb.cell (i := 1) rfl
            · show W.cell? _ = some (.int .u32 ((pmore 2166136261 s.data.toList : Nat) : Int))
              rw [HPP.out]
              exact hb.cell (i := 2) rfl
          refine (keep_any N mf mb vi pi Fi (st.files.map rcpOf) st.bins (rp, rl) q F8 bl8 _ _ W9 HWR.out HN9.out.toR HP9.out (fun k hk hf => by have h1 := HF8.out k hk; have h2 := hltF k (rFoot_iff.1 hf); omega) hRV
            (fun r hr g hg => by
              rw [List.mem_singleton.1 hr]
              obtain ⟨f, hf, rfl⟩ := List.mem_map.1 hg
              exact hnew f hf)
            (List.pairwise_singleton _ _)
            (fun r hr => by
              rw [List.mem_singleton.1 hr]
              show nm.data.toList.length ≤ 50000
              rw [Array.length_toList]
              exact hnm)
            (fun r hr => by
              rw [List.mem_singleton.1 hr]
              show (idsOf s.data.toList).length ≤ 50000
              have h1 := pieces_len_le s.data.toList
              have h2 : s.data.toList.length = s.size := by rw [Array.length_toList]; rfl
              unfold idsOf
              rw [List.length_map]
              omega)
            (by simp) (by rw [List.length_map]; have := HFULL.out; omega) hbn).mono ?_
          rintro e w10 ⟨rfl, vi', pi', Fi', hR10, hF10, hO10⟩
          have HNO : Hid (PNode w10 ⟨N, 0, none⟩ (rFoot N mf mb vi' Fi' (((nm.data.toList, s.data.toList) :: st.files).map rcpOf) (((rp, rl), bl8) :: st.bins.filter (fun b => !decide (b.1 = (rp, rl))))) ⟨(nm.data.toList, s.data.toList) :: st.files, ((rp, rl), bl8) :: st.bins.filter (fun b => !decide (b.1 = (rp, rl)))⟩) := NAtR.node (fl := (nm.data.toList, s.data.toList) :: st.files) hR10
          have HFO : Hid (∀ k, rFoot N mf mb vi' Fi' (((nm.data.toList, s.data.toList) :: st.files).map rcpOf) (((rp, rl), bl8) :: st.bins.filter (fun b => !decide (b.1 = (rp, rl)))) k → F k ∨ w.heap.size ≤ k) := fun k hk => by
            rcases hF10 k hk with h | h | h
            · exact .inl (by rw [hFe]; exact rFoot_iff.1 h)
            · exact .inr (by have := HF8.out k h; omega)
            · exact .inr (Nat.le_trans HB9.out.size h)
          have HOO : Hid (Off F w w10) := (Off.of_below HB9.out).trans hO10 (fun i _ h => by
            rw [hFe]
            rcases h with h | h
            · exact .inr (.inl h)
            · exact .inr (.inr (.inl h)))
          clear hR10 hF10 hO10 hRV hnew hltF hw4 hmfl
          go_wp2_with fail
          go_ret2
          refine ⟨.nilIface, _, ?_, ?_, ?_, HFO.out, HOO.out⟩
          · rw [HR.out]
            rfl
          · rw [HR.out]
            exact .inl ⟨rfl, rfl⟩
          · rw [HR.out]
            exact HNO.out
        · have HR := hideN (HRES.out.symm.trans (nPut_err HBAD.out HF.out HFULL.out HRP.out HBL.out hpa hec))
          obtain ⟨t8, u8, rfl⟩ : ∃ t u, ev8 = .iface t u := by
            rcases HE8.out with ⟨_, hf⟩ | ⟨_, _, hv, _⟩ | ⟨_, _, _, _, _, _, hv, _⟩
            · exact (hec (Prod.mk.inj hf).1).elim
            · exact ⟨_, _, hv⟩
            · exact ⟨_, _, hv⟩
          have HRE : Hid (ErrIn w.heap.size w8 a (.iface t8 u8) (ec, -1)) := by
            rcases HE8.out with h | h | ⟨k1, pb, po, at0, h1, h2, h3, h4⟩
            · exact .inl h
            · exact .inr (.inl h)
            · exact .inr (.inr ⟨k1, pb, po, at0, h1, by omega, h3, h4⟩)
          clear hpa hec HE8
          go_wp2_with fail
          go_ret2
          exact NPutPost.same HR.out HP.out HB8.out HRE.out
      | some l0 =>
        have hBL2 : l0 = BL := hBL
        clear hBL
        obtain ⟨q, Fq, rfl, hPq, hFq⟩ := hr5
        have HB6 := HB5
        have HN6 := HN5
        have HI6 := HI5
        have hbr6 := hbr5
        have hbi6 := hbi5
        have HPQ : Hid (PBin0 w5 q Fq BL) := by show PBin0 _ _ _ _; rw [← hBL2]; exact hPq
        have HFQ := hideN hFq
        have HW46 := HW45
        clear HN5 HI5 hbr5 hbi5 HB5 hPq hFq HW45 hBL2
        go_wp2_with fail
        generalize w5 = w6 at *
        refine (pieces_any s hs w6).mono ?_
        rintro e w7 ⟨vl, rfl, hrow7, hb7⟩
        have HB7 : Hid (Below w.heap.size w w7) := HB6.out.trans (hb7.mono HB6.out.size)
        have HN7 := hideN (HN6.out.below hb7)
        have HI7 := hideN (HI6.out.below hb7)
        have hbr7 := hbr6.next hb7
        have hbi7 := hbi6.next hb7
        have HB67 := hideN hb7.size
        have HPQ7 := hideN (HPQ.out.off (Off.of_below (F := fun _ => False) hb7) (fun _ _ h => h))
        have HV7 : Hid (CellsAt w7 vl ((pieces s.data.toList).map txtV)) := CellsAt.of_row hrow7
        have HRW7 : Hid (∀ k, vl.ownBlock = some k → ¬ Fq k) := fun k hk hF => by have h1 := HPQ.out.lt k hF; have h2 := (hrow7.lt k hk).1; omega
        clear hrow7 hb7 HPQ HN6 HI6 hbr6 hbi6 HB6
        go_wp2_with fail
        have hpl := pieces_len_le s.data.toList
        have hsl : s.data.toList.length = s.size := by rw [Array.length_toList]; rfl
        have hs4 := HS4.out
        refine (putPieces_any a vl (pieces s.data.toList) q Fq U BL w7 hU.1 (by omega) HOKB.out (by omega) (fun t ht => by have := piece_le ht; omega) ((HEE.out _ HB7.out).sub (by decide)) (fun i hi hF => by
          have h1 := HFQ.out _ hF
          have h2 := lt_of_cell ((HEE.out w (Below.refl _ _)).glob i (by revert hi; simp; omega))
          have h3 := HWW4.out
          omega) HV7.out HRW7.out HPQ7.out).mono ?_
        rintro e w8 ⟨ev8, F8, rfl, he8, hp8, hf8, ho8⟩
        have HB8 : Hid (Below w.heap.size w w8) := HB7.out.trans (ho8.below HB7.out.size (fun j hj hF => by have h1 := HFQ.out j hF; have h2 := HWW4.out; omega))
        have HN8 := hideN (HN7.out.off ho8 (fun k hk hF => by
          have h1 := HFQ.out k hF
          have h2 := HP.out.lt k (by rw [hFe]; exact hk)
          have h3 := HWW4.out
          omega))
        have HI8 := hideN (HI7.out.at.off ho8 (fun hne k hk hF => by
          have h1 := HFQ.out k hF
          have h2 := HIL.out hne k hk
          omega))
        have hbr8 := ho8.blk hbr7 (fun hF => by have h1 := HFQ.out _ hF; omega)
        have hbi8 := ho8.blk hbi7 (fun hF => by have h1 := HFQ.out _ hF; omega)
        have HP8 := hideN hp8
        have HF8 : Hid (∀ k, F8 k → W4.heap.size ≤ k) := fun k hk => by
          rcases hf8 k hk with h | h
          · exact HFQ.out k h
          · have h1 := HW46.out
            have h2 := HB67.out
            omega
        have HE8 := hideN he8
        have hs78 := ho8.size
        have hw7 := HB7.out.size
        clear hpl hsl hs4 ho8 hp8 hf8 he8 HN7 HI7 hbr7 hbi7 HPQ7 HV7 HRW7
        obtain ⟨⟨fr, ec, bl8⟩, hpa⟩ : ∃ r, putAll BL 0 (pieces s.data.toList) = r := ⟨_, rfl⟩
        rw [hpa] at HE8 HP8 ⊢
        simp only at HE8 HP8 ⊢
        by_cases hec : ec = 0
        · subst hec
          have HR := hideN (HRES.out.symm.trans (nPut_ok HBAD.out HF.out HFULL.out HRP.out HBL.out hpa))
          obtain rfl := HE8.out.nil
          clear hpa HE8
          have i0 := hbi8.cell (i := 0) rfl
          have i1 := hbi8.cell (i := 1) rfl
          have x0 := hbr8.cell (i := 0) rfl
          have x1 := hbr8.cell (i := 1) rfl
          have x2 := hbr8.cell (i := 2) rfl
          have x3 := hbr8.cell (i := 3) rfl
          have hal9 := (Below.refl w8.heap.size w8).alloc (Nat.le_refl _) (.cells #[.string nm, .int .i64 (s.size : Int), .int .u32 (P : Nat), .slice pv idl cv] 87)
          have hR9 := Blk.new w8 #[.string nm, .int .i64 (s.size : Int), .int .u32 (P : Nat), .slice pv idl cv] 87
          have HN9 := hideN (HN8.out.below hal9)
          have HI9 := hideN (HI8.out.below hal9)
          have HP9 := hideN (HP8.out.off (Off.of_below (F := fun _ => False) hal9) (fun _ _ h => h))
          have HB9 : Hid (Below w.heap.size w _) := hideN (HB8.out.trans (hal9.mono HB8.out.size))
          have HR9 := hideN hR9
          have HWL8 : Hid (w.heap.size ≤ w8.heap.size) := HB8.out.size
          clear hal9 hR9 HN8 HI8 HP8 HB8
          go_wp2_with fail
          obtain ⟨W9, hW9⟩ : ∃ W9, w8.alloc (.cells #[.string nm, .int .i64 (s.size : Int), .int .u32 (P : Nat), .slice pv idl cv] 87) = W9 := ⟨_, rfl⟩
          rw [hW9] at HN9 HI9 HP9 HB9 HR9 ⊢
          obtain ⟨RB, hRB⟩ : ∃ RB, w8.heap.size = RB := ⟨_, rfl⟩
          rw [hRB] at HR9 HWL8 ⊢
          clear hW9 hRB i0 i1 x0 x1 x2 x3
          have hnew := nFile_none HF.out
          have hltF : ∀ k, nFoot N mf mb vi Fi st k → k < w.heap.size := fun k hk => HP.out.lt k (by rw [hFe]; exact hk)
          have hw4 := HWW4.out
          have hmfl : mf < w.heap.size := hltF mf (.inr (.inl rfl))
          have hRV : ∀ W, Off (fun k => k = mf) W9 W → RcpsAt W (.slice (some ⟨RB, 0, none⟩) 1 1) [rcpOf (nm.data.toList, s.data.toList)] := fun W ho => by
            refine ⟨some ⟨RB, 0, none⟩, 1, rfl, fun i hi => ⟨RB, 0, .slice pv idl cv, rfl, ?_⟩⟩
            obtain rfl : i = 0 := by simp at hi; exact hi
            have hb := ho.blk HR9.out (fun e => by have := HWL8.out; omega)
            have h2 : s.data.toList.length = s.size := by rw [Array.length_toList]; rfl
            refine ⟨hb.lt, ?_, ?_, ?_, hb.cell (i := 3) rfl, HI9.out.off ho (fun hne k hk e => by have := HIL.out hne k hk; omega)⟩
            · have e : (⟨nm.data.toList.toArray⟩ : ByteArray) = nm := by simp
              show W.cell? _ = some (.string ⟨nm.data.toList.toArray⟩)
              rw [e]
              exact hb.cell (i := 0) rfl
            · show W.cell? _ = some (.int .i64 (s.data.toList.length : Int))
              rw [h2]
              exact hb.cell (i := 1) rfl
            · show W.cell? _ = some (.int .u32 ((pmore 2166136261 s.data.toList : Nat) : Int))
              rw [HPP.out]
              exact hb.cell (i := 2) rfl
          refine (keep_any N mf mb vi pi Fi (st.files.map rcpOf) st.bins (rp, rl) q F8 bl8 _ _ W9 HWR.out HN9.out.toR HP9.out (fun k hk hf => by have h1 := HF8.out k hk; have h2 := hltF k (rFoot_iff.1 hf); omega) hRV
            (fun r hr g hg => by
              rw [List.mem_singleton.1 hr]
              obtain ⟨f, hf, rfl⟩ := List.mem_map.1 hg
              exact hnew f hf)
            (List.pairwise_singleton _ _)
            (fun r hr => by
              rw [List.mem_singleton.1 hr]
              show nm.data.toList.length ≤ 50000
              rw [Array.length_toList]
              exact hnm)
            (fun r hr => by
              rw [List.mem_singleton.1 hr]
              show (idsOf s.data.toList).length ≤ 50000
              have h1 := pieces_len_le s.data.toList
              have h2 : s.data.toList.length = s.size := by rw [Array.length_toList]; rfl
              unfold idsOf
              rw [List.length_map]
              omega)
            (by simp) (by rw [List.length_map]; have := HFULL.out; omega) hbn).mono ?_
          rintro e w10 ⟨rfl, vi', pi', Fi', hR10, hF10, hO10⟩
          have HNO : Hid (PNode w10 ⟨N, 0, none⟩ (rFoot N mf mb vi' Fi' (((nm.data.toList, s.data.toList) :: st.files).map rcpOf) (((rp, rl), bl8) :: st.bins.filter (fun b => !decide (b.1 = (rp, rl))))) ⟨(nm.data.toList, s.data.toList) :: st.files, ((rp, rl), bl8) :: st.bins.filter (fun b => !decide (b.1 = (rp, rl)))⟩) := NAtR.node (fl := (nm.data.toList, s.data.toList) :: st.files) hR10
          have HFO : Hid (∀ k, rFoot N mf mb vi' Fi' (((nm.data.toList, s.data.toList) :: st.files).map rcpOf) (((rp, rl), bl8) :: st.bins.filter (fun b => !decide (b.1 = (rp, rl)))) k → F k ∨ w.heap.size ≤ k) := fun k hk => by
            rcases hF10 k hk with h | h | h
            · exact .inl (by rw [hFe]; exact rFoot_iff.1 h)
            · exact .inr (by have := HF8.out k h; omega)
            · exact .inr (Nat.le_trans HB9.out.size h)
          have HOO : Hid (Off F w w10) := (Off.of_below HB9.out).trans hO10 (fun i _ h => by
            rw [hFe]
            rcases h with h | h
            · exact .inr (.inl h)
            · exact .inr (.inr (.inl h)))
          clear hR10 hF10 hO10 hRV hnew hltF hw4 hmfl
          go_wp2_with fail
          go_ret2
          refine ⟨.nilIface, _, ?_, ?_, ?_, HFO.out, HOO.out⟩
          · rw [HR.out]
            rfl
          · rw [HR.out]
            exact .inl ⟨rfl, rfl⟩
          · rw [HR.out]
            exact HNO.out
        · have HR := hideN (HRES.out.symm.trans (nPut_err HBAD.out HF.out HFULL.out HRP.out HBL.out hpa hec))
          obtain ⟨t8, u8, rfl⟩ : ∃ t u, ev8 = .iface t u := by
            rcases HE8.out with ⟨_, hf⟩ | ⟨_, _, hv, _⟩ | ⟨_, _, _, _, _, _, hv, _⟩
            · exact (hec (Prod.mk.inj hf).1).elim
            · exact ⟨_, _, hv⟩
            · exact ⟨_, _, hv⟩
          have HRE : Hid (ErrIn w.heap.size w8 a (.iface t8 u8) (ec, -1)) := by
            rcases HE8.out with h | h | ⟨k1, pb, po, at0, h1, h2, h3, h4⟩
            · exact .inl h
            · exact .inr (.inl h)
            · exact .inr (.inr ⟨k1, pb, po, at0, h1, by omega, h3, h4⟩)
          clear hpa hec HE8
          go_wp2_with fail
          go_ret2
          exact NPutPost.same HR.out HP.out HB8.out HRE.out
  · obtain ⟨t1, u1, rfl⟩ : ∃ t u, ev1 = .iface t u := by
      rcases HE1.out with ⟨_, hf⟩ | ⟨_, _, hv, _⟩ | ⟨_, _, _, _, _, _, hv, _⟩
      · exact (hbad (Prod.mk.inj hf).1).elim
      · exact ⟨_, _, hv⟩
      · exact ⟨_, _, hv⟩
    have HR : Hid (RES = (0, (ofR nm.data.toList s.data.toList).2, st)) := HRES.out.symm.trans (nPut_bad hbad)
    clear hbad
    generalize ofR nm.data.toList s.data.toList = R at *
    obtain ⟨⟨r1, r2, r3, r4⟩, rc⟩ := R
    simp only at HI1 HE1 HR ⊢
    obtain ⟨pv, cv, rfl, _⟩ := HI1.out
    have hal1 := (Below.refl w1.heap.size w1).alloc (Nat.le_refl _) (.cells #[.string ⟨r1.toArray⟩, .int .i64 r2, .int .u32 (r3 : Nat), .slice pv r4.length cv] 87)
    go_wp2_with fail
    go_ret2
    exact NPutPost.same HR.out HP.out (HB1.out.trans (hal1.mono HB1.out.size)) (HE1.out.below hal1)
end Go.Proofs.YtcbcjefefmbccaaDoor
namespace Go.Proofs.YtcbcjefefmbccaaDoor
open Go.RowKit

theorem ErrIn.not_nil {base : Nat} {w : World} {a : Nat → Addr} {v : Value} {f : Int × Int} (h : ErrIn base w a v f) (hf : 0 < f.1) : ∃ t u, v = .iface t u := by
  rcases h with ⟨_, rfl⟩ | ⟨k, _, rfl, _⟩ | ⟨k, pb, po, at0, _, _, rfl, _⟩
  · simp at hf
  · exact ⟨_, _, rfl⟩
  · exact ⟨_, _, rfl⟩
theorem ErrIn.is_nil {base : Nat} {w : World} {a : Nat → Addr} {v : Value} (h : ErrIn base w a v (0, -1)) : v = .nilIface := by
  rcases h with ⟨rfl, _⟩ | ⟨k, _, _, hf⟩ | ⟨k, pb, po, at0, _, _, _, _, _, hf⟩
  · rfl
  · have := congrArg Prod.fst hf; simp at this; omega
  · have := congrArg Prod.fst hf; simp at this; omega
theorem ErrIn.low {base base' : Nat} {w : World} {a : Nat → Addr} {v : Value} {f : Int × Int} (h : ErrIn base w a v f) (hb : base' ≤ base) : ErrIn base' w a v f := by
  rcases h with h | h | ⟨k, pb, po, at0, hk, hl, hv, h0, h1, hf⟩
  · exact .inl h
  · exact .inr (.inl h)
  · exact .inr (.inr ⟨k, pb, po, at0, hk, Nat.le_trans hb hl, hv, h0, h1, hf⟩)
theorem idsText_le : ∀ (ids : List (Nat × Int)), (∀ x ∈ ids, x.2.toNat ≤ 9223372036854775807) → (idsText ids).length ≤ 29 * ids.length
  | [], _ => by simp [idsText]
  | x :: r, h => by
    have ih := idsText_le r fun y hy => h y (by simp [hy])
    have h1 := idText_len x.1 x.2.toNat (h x (by simp))
    have e : idsText (x :: r) = 32 :: idText x.1 x.2.toNat ++ idsText r := rfl
    rw [e, List.length_append, List.length_cons, List.length_cons]
    omega
def idTexts (ids : List (Nat × Int)) : List (List UInt8) := ids.map fun x => idText x.1 x.2.toNat
theorem join_rcp (nm : List UInt8) (len : Int) (p : Nat) (ids : List (Nat × Int)) : Lib.join (nm :: Lib.decDigits len.toNat :: hexLast p 8 :: idTexts ids) [32] = rcpText nm len p ids := by
  rw [Lib.join_cons]
  unfold Lib.joinTail rcpText idsText idTexts
  rw [List.map_cons, List.map_cons, List.map_map, List.flatten_cons, List.flatten_cons]
  have e : ((fun x => [32] ++ x) ∘ fun (x : Nat × Int) => idText x.1 x.2.toNat) = fun (x : Nat × Int) => (32 : UInt8) :: idText x.1 x.2.toNat := rfl
  rw [e]
  simp
def textPost (a : Nat → Addr) (nm : ByteArray) (len : Int) (p : Nat) (ids : List (Nat × Int)) (w : World) (e : Ending) (w' : World) : Prop := ∃ ev, e = .returned (.tuple #[.string ⟨(textR nm.data.toList len p ids).toArray⟩, ev]) ∧ ErrIn w.heap.size w' a ev (recFault nm.data.toList len ids) ∧ Below w.heap.size w w'

def wordsOf (nm D X : ByteArray) (ids : List (Nat × Int)) : List ByteArray := nm :: D :: X :: (idTexts ids).map fun l => ⟨l.toArray⟩
theorem wordsOf_length (nm D X : ByteArray) (ids : List (Nat × Int)) : (wordsOf nm D X ids).length = ids.length + 3 := by simp [wordsOf, idTexts]
theorem wordsOf_snoc (nm D X : ByteArray) (ids : List (Nat × Int)) (k : Nat) (h : k < ids.length) : (wordsOf nm D X (ids.take (k + 1))).map Value.string = (wordsOf nm D X (ids.take k)).map Value.string ++ [.string ⟨(idText ids[k].1 ids[k].2.toNat).toArray⟩] := by
  rw [List.take_succ_eq_append_getElem h]
  simp only [wordsOf, idTexts, List.map_append, List.map_cons, List.map_nil, List.cons_append]

end Go.Proofs.YtcbcjefefmbccaaDoor
