/-
  Own text. NodeActs over the contracts of both nodes: it returns true whatever the acts, the name and the rep.
-/
import Derived.Test.YtjdobbjdlighpabGreatDoorH38
namespace Go.Proofs.YtjdobbjdlighpabGreatDoor
open Go.RowKit Go.Maps

theorem MNode.made (w : World) : MNode (w.alloc (.cells #[.slice none 0 0, .slice none 0 0] 34)) ⟨w.heap.size, 0, none⟩ (mFoot w.heap.size (.slice none 0 0) (.slice none 0 0) [] []) ⟨[], []⟩ :=
  ⟨w.heap.size, _, _, [], [], rfl, ⟨Blk.new w _ _, World.ownsRow_nil _ _ _ _, World.ownsRow_nil _ _ _ _, fun q hq => by simp at hq, fun x hx => by simp at hx, by simp [Value.ownBlock], by simp [Value.ownBlock], fun k hk => by simp [Value.ownBlock] at hk, fun k ⟨x, hx, _⟩ => by simp at hx, List.Pairwise.nil, fun k ⟨q, hq, _⟩ => by simp at hq⟩, rfl, rfl⟩
theorem mFoot_made {M k : Nat} (h : mFoot M (.slice none 0 0) (.slice none 0 0) [] [] k) : k = M := by
  rcases h with h | h | h | ⟨x, hx, _⟩ | ⟨q, hq, _⟩
  · exact h
  · simp [Value.ownBlock] at h
  · simp [Value.ownBlock] at h
  · simp at hx
  · simp at hq
theorem kFindI_none {κ β : Type} [DecidableEq κ] {l : List (κ × β)} {x : κ} (h : kFind l x = none) : kFindI l x = -1 := by unfold kFindI; rw [h]
theorem kFindI_some {κ β : Type} [DecidableEq κ] {l : List (κ × β)} {x : κ} {k : Nat} (h : kFind l x = some k) : kFindI l x = (k : Int) := by unfold kFindI; rw [h]
theorem kFind_file {l : List NFile} {x : List UInt8} (h : nFile l x = none) : kFind l x = none := by
  cases hk : kFind l x with
  | none => rfl
  | some k =>
    obtain ⟨h1, h2⟩ := kFind_some hk
    exact absurd h2 (nFile_none h _ (List.getElem_mem h1))
theorem kFind_file' {l : List NFile} {x s : List UInt8} (h : nFile l x = some s) : ∃ k, kFind l x = some k := by
  cases hk : kFind l x with
  | some k => exact ⟨k, rfl⟩
  | none => exact absurd rfl (kFind_not hk _ (nFile_some h))
theorem kFind_bin {l : List NBin} {x : Nat × Int} (h : nBin l x = none) : kFind l x = none := by
  cases hk : kFind l x with
  | none => rfl
  | some k =>
    obtain ⟨h1, h2⟩ := kFind_some hk
    exact absurd h2 (nBin_none h _ (List.getElem_mem h1))
theorem kFind_bin' {l : List NBin} {x : Nat × Int} {s : List Hd} (h : nBin l x = some s) : ∃ k, kFind l x = some k := by
  cases hk : kFind l x with
  | some k => exact ⟨k, rfl⟩
  | none => exact absurd rfl (kFind_not hk _ (nBin_some h))
theorem mnFind {w : World} {M : Nat} {G : Nat → Prop} {sm : NSt} (h : MNode w ⟨M, 0, none⟩ G sm) (nm : ByteArray) (hpn : sm.files.length ≤ 1000) :
    Calls Tryz.prog 15 #[.pointer (some ⟨M, 0, none⟩), .string nm] w fun e w' => e = .returned (.int .i64 (kFindI sm.files nm.data.toList)) ∧ w' = w := by
  obtain ⟨M', vf, vb, ps, bs, hm, h, rfl, rfl⟩ := h
  obtain rfl : M = M' := by simpa using hm
  exact mFind_any M vf vb ps bs nm w (by rw [← mFs_length]; exact hpn) h
theorem mnFindBin {w : World} {M : Nat} {G : Nat → Prop} {sm : NSt} (h : MNode w ⟨M, 0, none⟩ G sm) (x : Nat × Int) (hbn : sm.bins.length ≤ 1000) :
    Calls Tryz.prog 17 #[.pointer (some ⟨M, 0, none⟩), idV (x.1 : Nat) x.2] w fun e w' => e = .returned (.int .i64 (kFindI sm.bins x)) ∧ Below w.heap.size w w' := by
  obtain ⟨M', vf, vb, ps, bs, hm, h, rfl, rfl⟩ := h
  obtain rfl : M = M' := by simpa using hm
  exact mFindBin_any M vf vb ps bs x w (by rw [← mBs_length]; exact hbn) h
theorem ActI.wfs {k : Nat} {st sm : NSt} (h : ActI k st sm) : ∀ b ∈ st.bins, WfID b.1 := fun b hb => by
  obtain ⟨f, _, e⟩ := h.full.bhas b hb
  rw [← e]
  exact repT_wf f.2
/- Two tests that come out alike. -/
def bothOr (b : Bool) (z : Int) : Prop := (b = true ∧ 0 ≤ z) ∨ (b = false ∧ z = -1)
set_option maxRecDepth 100000 in
set_option maxHeartbeats 16000000 in
theorem nodeActs_any (a : Nat → Addr) (vl : Value) (l : List Act3) (nm : ByteArray) (x : Nat × Int) (w : World) (hx : WfID x) (hE : ErrW w a) (hv : Acts3At w vl l) :
    Calls Tryz.prog 3 #[vl, .string nm, idV (x.1 : Nat) x.2] w fun e w' => e = .returned (.bool true) ∧ Below w.heap.size w w' := by
  have HEE : Hid (∀ W, Below w.heap.size w W → ErrW W a) := fun W hb => hE.below hb (Nat.le_refl _)
  have HV : Hid (Acts3At w vl l) := hv
  have HWX := hideN hx
  obtain ⟨pa, ca, rfl, _⟩ := hv
  have HGL : Hid (∀ i, ([4, 10] : List Nat).contains i = true → errG i < w.heap.size) := fun i hi => lt_of_cell ((hE.on (L := [4, 10]) (by decide)).glob i hi)
  obtain ⟨xp, xl⟩ := x
  have hal := (Below.refl w.heap.size w).alloc (Nat.le_refl _) (.cells #[.int .u32 (xp : Nat), .int .i64 xl] 25)
  have HB0 := hideN hal
  have HX0 := hideN (Blk.new w #[.int .u32 (xp : Nat), .int .i64 xl] 25)
  clear hE hx hal
  go_enter Tryz.func3, Tryz.ntmps3
  go_wp2_with fail
  obtain ⟨W0, hW0⟩ : ∃ W0, w.alloc (.cells #[.int .u32 (xp : Nat), .int .i64 xl] 25) = W0 := ⟨_, rfl⟩
  rw [hW0] at HB0 HX0 ⊢
  obtain ⟨XB, hXB⟩ : ∃ XB, w.heap.size = XB := ⟨_, rfl⟩
  have HXB : Hid (w.heap.size = XB) := hXB
  rw [hXB] at HX0 ⊢
  clear hW0 hXB
  have HE0 : Hid (∀ W, Below W0.heap.size W0 W → ErrW W a) := fun W hb => HEE.out W (HB0.out.trans (hb.mono HB0.out.size))
  have HENV : Hid (DoEnv a W0) := ⟨HE0.out, fun i hi => Nat.lt_of_lt_of_le (HGL.out i hi) HB0.out.size⟩
  have HXC : Hid (∀ W, Below W0.heap.size W0 W → W.cell? ⟨XB, 0, none⟩ = some (.int .u32 (xp : Nat)) ∧ W.cell? ⟨XB, 1, none⟩ = some (.int .i64 xl)) := fun W hb => ⟨(HX0.out.next hb).cell (i := 0) rfl, (HX0.out.next hb).cell (i := 1) rfl⟩
  refine (noded_any a W0 ((HE0.out _ (Below.refl _ _)).on (by decide))).mono ?_
  rintro e w1 ⟨rfl, hb1⟩
  have HB1 := hideN hb1
  clear hb1 HX0
  go_wp2_with fail
  refine (longActs3_any _ l 60 w1 (by decide) (HV.out.below (HB0.out.trans (HB1.out.mono HB0.out.size)))).mono ?_
  rintro e w2 ⟨n, rfl, hw2, hn, h0⟩
  subst hw2
  rcases hn with rfl | rfl
  rotate_left
  · go_wp2_with fail
    go_ret
    exact ⟨rfl, HB0.out.trans (HB1.out.mono HB0.out.size)⟩
  obtain ⟨hlen, hfit⟩ := h0 rfl
  have HFIT := hideN hfit
  have hlen' : (l.length : Int) ≤ 60 := by omega
  clear h0 hfit
  by_cases hnm : (30 : Int) < (nm.size : Int)
  · go_wp2_with fail
    go_ret
    exact ⟨rfl, HB0.out.trans (HB1.out.mono HB0.out.size)⟩
  have HNM : Hid (nm.size ≤ 30) := by show _ ≤ _; omega
  go_wp2_with fail
  refine (nNew_any w2).mono ?_
  rintro e w3 ⟨p, F0, rfl, hP3, hF3, hb3⟩
  have HB3 : Hid (Below W0.heap.size W0 w3) := HB1.out.trans (hb3.mono HB1.out.size)
  have HP3 := hideN hP3
  have HF3 : Hid (∀ k, F0 k → W0.heap.size ≤ k) := fun k hk => Nat.le_trans HB1.out.size (hF3 k hk)
  have hal4 := (Below.refl w3.heap.size w3).alloc (Nat.le_refl _) (.cells #[.slice none 0 0, .slice none 0 0] 34)
  have HT4 : Hid (TwoN W0 (w3.alloc (.cells #[.slice none 0 0, .slice none 0 0] 34)) p F0 ⟨[], []⟩ w3.heap.size (mFoot w3.heap.size (.slice none 0 0) (.slice none 0 0) [] []) ⟨[], []⟩) :=
    ⟨HB3.out.trans (hal4.mono HB3.out.size), HP3.out.below hal4, MNode.made w3, HF3.out, fun k hk => by rw [mFoot_made hk]; exact HB3.out.size, fun k hk hg => by have h1 := HP3.out.lt k hk; rw [mFoot_made hg] at h1; omega⟩
  clear hP3 hF3 hb3 HB1 HB3 HP3 HF3 hal4
  go_wp2_with fail
  obtain ⟨W4, hW4⟩ : ∃ W4, w3.alloc (.cells #[.slice none 0 0, .slice none 0 0] 34) = W4 := ⟨_, rfl⟩
  rw [hW4] at HT4 ⊢
  obtain ⟨M, hM⟩ : ∃ M, w3.heap.size = M := ⟨_, rfl⟩
  rw [hM] at HT4 ⊢
  clear hW4 hM
  go_loopw [10] (fun iv wr => ∃ (k : Nat) (F G : Nat → Prop) (st sm : NSt), k ≤ l.length ∧ iv = .int .i64 k ∧ Hid (TwoN W0 wr p F st M G sm) ∧ Hid (ActI k st sm)) (fun iv _ => l.length - (intOf iv).toNat)
  case atStart => exact ⟨0, _, _, _, _, Nat.zero_le _, rfl, HT4.out, ActI.start⟩
  case round =>
    clear HT4
    obtain ⟨k, F, G, st, sm, hk, rfl, HT, HI⟩ := hrel
    by_cases hlt : k < l.length
    · have hlt' : (k : Int) < (l.length : Int) := by omega
      have hk0 : (0 : Int) ≤ (k : Int) := by omega
      obtain ⟨_, _, hve, hcell⟩ := HV.out.below (HB0.out.trans (HT.out.below.mono HB0.out.size))
      obtain ⟨rfl, rfl⟩ : pa = _ ∧ ca = _ := by simpa using hve
      obtain ⟨b, o, rfl, _, c0, c1, c2⟩ := hcell k hlt
      obtain ⟨ht1, ht2⟩ := HFIT.out k hlt
      obtain ⟨⟨y1, y2, y3⟩, hy⟩ : ∃ y, l[k] = y := ⟨_, rfl⟩
      rw [hy] at c0 c1 c2 ht1 ht2
      simp only at c0 c1 c2 ht1 ht2
      have HDO := hideN (do_any a W0 wr p F st M G sm k y1 y2 y3 (by omega) ht1 ht2 HT.out HI.out HENV.out)
      clear hy hcell hve ht1 ht2
      go_wp2_with fail
      refine HDO.out.mono ?_
      rintro e w5 ⟨rfl, F5, st5, G5, sm5, hT5, hI5⟩
      have HT5 := hideN hT5
      have HI5 := hideN hI5
      clear hT5 hI5 HDO c0 c1 c2
      go_wp2_with fail
      go_roundw
      case rel => exact ⟨k + 1, F5, G5, st5, sm5, hlt, by go_num, HT5.out, HI5.out⟩
      case measure => simp [intOf]; omega
    · have hge : (l.length : Int) ≤ (k : Int) := by omega
      have HKH : Hid (k ≤ 100) := by show _ ≤ _; omega
      have hff := HI.out.rel.file nm.data.toList
      have hbb := HI.out.rel.bin (xp, xl)
      have hsz1 := HI.out.ok.many
      have hsz2 := HI.out.rel.bins.length_eq
      have hsz3 := HI.out.rel.files.length_eq
      have hsz4 := HI.out.full.fmany
      have hrec := nodeRecipe_any a nm p F st wr (by have := HNM.out; omega) (fun f hf => by have h1 := pieces_len_le f.2; have h2 := (HI.out.ok.files f hf).1; unfold idsOf; rw [List.length_map]; omega) ((HE0.out _ HT.out.below).on (by decide)) HT.out.node
      obtain ⟨Z1, hZ1⟩ : ∃ Z, kFindI sm.files nm.data.toList = Z := ⟨_, rfl⟩
      obtain ⟨Z2, hZ2⟩ : ∃ Z, kFindI sm.bins (xp, xl) = Z := ⟨_, rfl⟩
      have HREC : Hid (Calls Tryz.prog 12 #[.pointer (some p), .string nm] wr fun e w' => ∃ (X : ByteArray) (L P : Int) (q : Option Addr) (n c : Nat) (ev : Value), e = .returned (.tuple #[rcpV X L P (.slice q n c), ev]) ∧ Below wr.heap.size wr w' ∧ ((ev = .nilIface ∧ 0 ≤ Z1) ∨ ((∃ t u, ev = .iface t u) ∧ Z1 = -1))) := by
        refine hrec.mono ?_
        unfold RecPost
        cases hf : nFile st.files nm.data.toList with
        | none =>
          rintro e w' ⟨⟨ev, rfl, he⟩, hb⟩
          refine ⟨_, _, _, _, _, _, ev, rfl, hb, .inr ⟨?_, ?_⟩⟩
          · rcases he with ⟨_, h⟩ | ⟨_, _, hv, _⟩ | ⟨_, _, _, _, _, _, hv, _⟩
            · cases h
            · exact ⟨_, _, hv⟩
            · exact ⟨_, _, hv⟩
          · rw [← hZ1]
            exact kFindI_none (kFind_file (hff.trans hf))
        | some s =>
          rintro e w' ⟨⟨v, rfl, hi⟩, hb⟩
          obtain ⟨q, c, rfl, _⟩ := hi
          obtain ⟨k, hk⟩ := kFind_file' (hff.trans hf)
          exact ⟨_, _, _, q, _, c, .nilIface, rfl, hb, .inl ⟨rfl, by rw [← hZ1, kFindI_some hk]; omega⟩⟩
      have HBB : Hid ((Hid (∀ W, PNode W p F st → Calls Tryz.prog 16 #[.pointer (some p), idV (xp : Nat) xl] W fun e w' => e = .returned (.pointer none) ∧ Below W.heap.size W w') ∧ Z2 = -1) ∨ (Hid (∀ W, PNode W p F st → Calls Tryz.prog 16 #[.pointer (some p), idV (xp : Nat) xl] W fun e w' => ∃ q, e = .returned (.pointer (some q)) ∧ Below W.heap.size W w') ∧ 0 ≤ Z2)) := by
        show _ ∨ _
        cases hf : nBin st.bins (xp, xl) with
        | none =>
          refine .inl ⟨fun W hP => ?_, by rw [← hZ2]; exact kFindI_none (kFind_bin (hbb.trans hf))⟩
          have := nodeBin_any (xp, xl) p F st W HWX.out hP
          rw [hf] at this
          exact this
        | some s =>
          obtain ⟨k, hk⟩ := kFind_bin' (hbb.trans hf)
          refine .inr ⟨fun W hP => ?_, by rw [← hZ2, kFindI_some hk]; omega⟩
          have := nodeBin_any (xp, xl) p F st W HWX.out hP
          rw [hf] at this
          exact this.mono fun e w' ⟨⟨q, F', h1, _⟩, h2⟩ => ⟨q, h1, h2⟩
      have HFD : Hid (∀ W, TwoN W0 W p F st M G sm → Calls Tryz.prog 15 #[.pointer (some ⟨M, 0, none⟩), .string nm] W fun e w' => e = .returned (.int .i64 Z1) ∧ w' = W) := fun W h => by
        have := mnFind h.doc nm (by omega)
        rw [hZ1] at this
        exact this
      have HFB : Hid (∀ W, TwoN W0 W p F st M G sm → Calls Tryz.prog 17 #[.pointer (some ⟨M, 0, none⟩), idV (xp : Nat) xl] W fun e w' => e = .returned (.int .i64 Z2) ∧ Below W.heap.size W w') := fun W h => by
        have := mnFindBin h.doc (xp, xl) (by omega)
        rw [hZ2] at this
        exact this
      have HSN : Hid (∀ W q F', TwoN W0 W p F st M G sm → PNode W q F' st → Calls Tryz.prog 13 #[.pointer (some q), .pointer (some ⟨M, 0, none⟩)] W fun e w' => e = .returned (.int .i64 1) ∧ Below W.heap.size W w') := fun W q F' h hq => sameNode_any a W0 W q F' st M G sm k HKH.out HE0.out h.below hq h.doc HI.out
      have HCP : Hid (∀ W, TwoN W0 W p F st M G sm → Calls Tryz.prog 14 #[.pointer (some p)] W fun e w' => ∃ p' F', e = .returned (.pointer (some p')) ∧ PNode w' p' F' st ∧ Below W.heap.size W w') := fun W h => nodeCopy_any p F st W (by omega) HI.out.wfs h.node
      clear hrec hff hbb hsz1 hsz2 hsz3 hsz4 hZ1 hZ2 hlt
      go_wp2_with fail
      refine HREC.out.mono ?_
      rintro e w6 ⟨X, L, P, q6, n6, c6, ev, rfl, hb6, hev⟩
      have HT6 := hideN (HT.out.next hb6)
      have hal7 := (Below.refl w6.heap.size w6).alloc (Nat.le_refl _) (.cells #[.string X, .int .i64 L, .int .u32 P, .slice q6 n6 c6] 40)
      have HT7 := hideN (HT6.out.next hal7)
      have HEV := hideN hev
      clear hb6 hal7 HT6 HREC hev
      rcases HEV.out with ⟨rfl, hz1⟩ | ⟨⟨te, ue, rfl⟩, rfl⟩
      all_goals
        go_wp2_with fail
        obtain ⟨W7, hW7⟩ : ∃ W7, w6.alloc (.cells #[.string X, .int .i64 L, .int .u32 P, .slice q6 n6 c6] 40) = W7 := ⟨_, rfl⟩
        rw [hW7] at HT7 ⊢
        clear hW7
        have HTD := hideN (HT7.out.next (Below.refl _ W7).drew)
        obtain ⟨d0, d1⟩ := HXC.out _ HT7.out.below
        rcases HBB.out with ⟨HBN, rfl⟩ | ⟨HBS, hz2⟩
        all_goals
          go_region_held3 (fun W => W.cell? ⟨XB, 0, none⟩ = some (.int .u32 (xp : Nat)) ∧ W.cell? ⟨XB, 1, none⟩ = some (.int .i64 xl)) (first | exact HXC.out _ HTF.out.below | exact HXC.out _ HTB.out.below | exact HXC.out _ HTA.out.below | exact HXC.out _ HT9.out.below | exact HXC.out _ HT8.out.below | exact HXC.out _ HTD.out.below | go_keep) (first
            | (go_at_call 13; refine (HSN.out _ p9 F9 HT9.out HP9.out).mono ?_; rintro e wa ⟨rfl, hba⟩; have HTA := hideN (HT9.out.next hba); clear hba)
            | (go_at_call 13; refine (HSN.out _ p F HTD.out HTD.out.node).mono ?_; rintro e w8 ⟨rfl, hb8⟩; have HT8 := hideN (HTD.out.next hb8); clear hb8)
            | (go_at_call 14; refine (HCP.out _ HT8.out).mono ?_; rintro e w9 ⟨p9, F9, rfl, hp9, hb9⟩; have HT9 := hideN (HT8.out.next hb9); have HP9 := hideN hp9; clear hb9 hp9)
            | (go_at_call 15; refine (HFD.out _ HTA.out).mono ?_; rintro e wz ⟨rfl, hwz⟩; subst hwz)
            | (go_at_call 16; refine (HBN.out _ HTA.out.node).mono ?_; rintro e wb ⟨rfl, hbb⟩; have HTB := hideN (HTA.out.next hbb); clear hbb)
            | (go_at_call 16; refine (HBS.out _ HTA.out.node).mono ?_; rintro e wb ⟨qb, rfl, hbb⟩; have HTB := hideN (HTA.out.next hbb); clear hbb)
            | (go_at_call 17; refine (HFB.out _ HTB.out).mono ?_; rintro e wf ⟨rfl, hbf⟩; have HTF := hideN (HTB.out.next hbf); clear hbf))
          go_wp2_with fail
          go_ret
          exact ⟨rfl, HB0.out.trans (HTF.out.below.mono HB0.out.size)⟩
end Go.Proofs.YtjdobbjdlighpabGreatDoor
