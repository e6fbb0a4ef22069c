/-
  Own text. (*node.Node).hasFileOf by a contract.
  Own text. (*node.Node).Drop by a contract.
  Own text. (*node.Node).Sweep by a contract: each bin is swept, in place.
-/
import Derived.Test.YtjdobbjdlighpabGreatDoorH34
import Derived.Test.YtjdobbjdlighpabGreatDoorH24
import Derived.Deep.RegionHeld3
import Derived.Test.YtjdobbjdlighpabGreatDoorH13
import Derived.Test.YtjdobbjdlighpabGreatDoorH27
import Derived.Test.YtjdobbjdlighpabGreatDoorH16
namespace Go.Proofs.YtjdobbjdlighpabGreatDoor
open Go.RowKit Go.Maps

set_option maxRecDepth 100000 in
set_option maxHeartbeats 4000000 in
theorem hasFileOf_any (x : Nat × Int) (p : Addr) (F : Nat → Prop) (st : NSt) (w : World) (hlen : ∀ f ∈ st.files, (idsOf f.2).length ≤ 4000) (hP : PNode w p F st) :
    Calls Tryz.prog 78 #[.pointer (some p), idV (x.1 : Nat) x.2] w fun e w' => e = .returned (.bool (st.files.any (fun f => decide (repT f.2 = x)))) ∧ Below w.heap.size w w' := by
  obtain ⟨N, mf, mb, vi, pi, Fi, rfl, h, _⟩ := hP
  obtain ⟨xp, xl⟩ := x
  simp only
  have hal := (Below.refl w.heap.size w).alloc (Nat.le_refl _) (.cells #[.int .u32 (xp : Nat), .int .i64 xl] 25)
  have hbx := Blk.new w #[.int .u32 (xp : Nat), .int .i64 xl] 25
  have h1 := h.below hal
  have q0 := h1.blk.cell (i := 0) rfl
  have hM := h1.files
  have HH := hideN h1
  have HLEN := hideN hlen
  have HB0 := hideN hal
  have HBX := hideN hbx
  obtain ⟨L, hL⟩ : ∃ L, (st.files.map fun f => (f.1, rwOf f (vi f.1))) = L := ⟨_, rfl⟩
  have HL : Hid ((st.files.map fun f => (f.1, rwOf f (vi f.1))) = L) := hL
  rw [hL] at hM
  clear h h1 hL hlen hal hbx
  obtain ⟨RES, hRES⟩ : ∃ RES, st.files.any (fun f => decide (repT f.2 = (xp, xl))) = RES := ⟨_, rfl⟩
  have HRES := hideN hRES
  rw [hRES]
  clear hRES
  go_enter Tryz.func78, Tryz.ntmps78
  go_wp2_with (first
    | (at_range; refine wp_range_kit strRcps _ rfl _ 99 rfl 40 Tryz.underlying99 mf L rfl hM ?_; intro w0 hr0 hg0 hs0)
    | go_in)
  go_frame
  generalize w.alloc (.cells #[.int .u32 (xp : Nat), .int .i64 xl] 25) = W at *
  go_loopw [12] (fun _ wr => ∃ (left : List UInt8 → Bool) (cnt : Nat), strRcps.Rng wr mf W.heap.size L left cnt ∧ Hid (∀ f ∈ st.files, left f.1 = false → repT f.2 ≠ (xp, xl)) ∧ Hid (W.grownBy wr none)) (fun _ wr => wr.rangeLeft mf W.heap.size)
  case atStart =>
    refine ⟨_, _, hr0, fun f hf hl => ?_, hg0⟩
    have hm : f.1 ∈ L.map (·.1) := List.mem_map.2 ⟨(f.1, rwOf f (vi f.1)), by rw [← HL.out]; exact List.mem_map.2 ⟨f, hf, rfl⟩, rfl⟩
    simp only [decide_eq_false_iff_not] at hl
    exact absurd hm hl
  case round =>
    obtain ⟨left, cnt, hrg, HNO, HG⟩ := hrel
    go_wp2_with (first
      | (at_next; refine wp_next_kit strRcps _ rfl _ rfl mf W.heap.size L left cnt rfl hrg ?_ ?_)
      | go_in)
    · intro h0
      have HR0 : Hid (RES = false) := by
        show _ = _
        rw [← HRES.out, List.any_eq_false]
        intro f hf
        have := HNO.out f hf (h0 f.1 _ _ _ _ (by rw [← HL.out]; exact List.mem_map.2 ⟨f, hf, rfl⟩))
        simp [this]
      clear h0
      go_wp2_with fail
      go_ret
      exact ⟨by rw [HR0.out]; rfl, HB0.out.trans ((below_of_grown HG.out).mono HB0.out.size)⟩
    · intro fn c1 c2 c3 c4 w1 cnt1 hm hlx hrg1 hlt hg1 hs1 hen
      clear hs1
      rw [← HL.out] at hm
      obtain ⟨⟨fn', s⟩, hf, hfe⟩ := List.mem_map.1 hm
      obtain ⟨rfl, rfl, rfl, rfl, rfl⟩ : fn' = fn ∧ fn' = c1 ∧ (s.length : Int) = c2 ∧ ((pmore 2166136261 s : Nat) : Int) = c3 ∧ vi fn' = c4 := by simpa [rwOf] using hfe
      obtain ⟨pv0, cv0, hv0, _⟩ := HH.out.ids _ hf
      have HI := hideN (HH.out.ids _ hf)
      have HF := hideN hf
      have HLX := hideN hlx
      simp only at hv0 HI
      change (Instr.entry (.pointer (some ⟨W.heap.size, 0, none⟩))).run Tryz.prog w1 = .ok (.tuple #[.string ⟨fn'.toArray⟩, .agg #[.string ⟨fn'.toArray⟩, .int .i64 (s.length : Int), .int .u32 ((pmore 2166136261 s : Nat) : Int), vi fn']]) w1 at hen
      rw [hv0] at hen HI
      have HLS := hideN (HLEN.out _ hf)
      simp only at HLS
      obtain ⟨P, hPP⟩ : ∃ P, pmore 2166136261 s = P := ⟨_, rfl⟩
      obtain ⟨LL, hLL⟩ : ∃ LL, (s.length : Int) = LL := ⟨_, rfl⟩
      obtain ⟨idl, hidl⟩ : ∃ idl, (idsOf s).length = idl := ⟨_, rfl⟩
      obtain ⟨⟨rp, rl⟩, hrep⟩ : ∃ r, repT s = r := ⟨_, rfl⟩
      obtain ⟨FN, hFN⟩ : ∃ FN : ByteArray, (⟨fn'.toArray⟩ : ByteArray) = FN := ⟨_, rfl⟩
      have HID := hideN hidl
      have HRP := hideN hrep
      have HREP := hideN (fun W (hv : IdsAt W (.slice pv0 idl cv0) (idsOf s)) => rep_any FN LL (P : Int) (.slice pv0 idl cv0) (idsOf s) W hv (by have := HLS.out; unfold maxLen; omega))
      change Hid (∀ W, _ → Calls _ _ _ W fun e w' => e = .returned (idV ((repT s).1 : Nat) (repT s).2) ∧ _) at HREP
      rw [hrep] at HREP
      simp only at HREP
      rw [hPP, hLL, hidl, hFN] at hen
      rw [hidl] at HI
      have HG1 : Hid (W.grownBy w1 none) := HG.out.andThen hg1 (fun j hj => by cases hj; exact .inl (Nat.le_refl _))
      clear hfe hv0 hPP hLL hidl hrep hFN hf hm hlx
      have hal := (Below.refl w1.heap.size w1).alloc (Nat.le_refl _) (.cells #[.string FN, .int .i64 LL, .int .u32 (P : Nat), .slice pv0 idl cv0] 40)
      have hbr := Blk.new w1 #[.string FN, .int .i64 LL, .int .u32 (P : Nat), .slice pv0 idl cv0] 40
      have hB1 := below_of_grown HG1.out
      have HI1 := hideN ((HI.out.below hB1).below hal)
      have HBX1 := hideN ((HBX.out.next hB1).next hal)
      have hrg2 := hrg1.kept (grown_of_below hal) (by simp) (by simp)
      have HG2 : Hid (W.grownBy _ none) := hideN (HG1.out.andThen (grown_of_below hal) (fun j hj => by cases hj))
      have hc : (rp = xp ∧ rl = xl) ∨ ((rp : Int) == (xp : Int)) = false ∨ (((rp : Int) == (xp : Int)) = true ∧ (rl == xl) = false) := by
        by_cases h : rp = xp
        · by_cases h2 : rl = xl
          · exact .inl ⟨h, h2⟩
          · exact .inr (.inr ⟨by rw [beq_iff_eq]; omega, by rw [beq_eq_false_iff_ne]; exact h2⟩)
        · exact .inr (.inl (by rw [beq_eq_false_iff_ne]; omega))
      have HNEW : Hid ((rp, rl) ≠ (xp, xl) → ∀ f ∈ st.files, (left f.1 && !decide (f.1 = fn')) = false → repT f.2 ≠ (xp, xl)) := fun hne f hf hl => by
        by_cases e : f.1 = fn'
        · have hap : st.files.Pairwise (fun p q => p.1 ≠ q.1) := by
            have := HH.out.files.apart
            rw [List.pairwise_map] at this
            exact this
          obtain ⟨f1, f2⟩ := f
          simp only at e
          subst e
          have h1 := nFile_of_mem hap hf
          rw [nFile_of_mem hap HF.out] at h1
          rw [← Option.some.inj h1, HRP.out]
          exact hne
        · exact HNO.out f hf (by simpa [e] using hl)
      have HCE : Hid (∀ W', Blk W' w1.heap.size #[.string FN, .int .i64 LL, .int .u32 (P : Nat), .slice pv0 idl cv0] 40 → Blk W' w.heap.size #[.int .u32 (xp : Nat), .int .i64 xl] 25 → W'.cell? ⟨w1.heap.size, 0, none⟩ = some (.string FN) ∧ W'.cell? ⟨w1.heap.size, 1, none⟩ = some (.int .i64 LL) ∧ W'.cell? ⟨w1.heap.size, 2, none⟩ = some (.int .u32 (P : Nat)) ∧ W'.cell? ⟨w1.heap.size, 3, none⟩ = some (.slice pv0 idl cv0) ∧ W'.cell? ⟨w.heap.size, 0, none⟩ = some (.int .u32 (xp : Nat)) ∧ W'.cell? ⟨w.heap.size, 1, none⟩ = some (.int .i64 xl)) := fun W' h1 h2 => ⟨h1.cell (i := 0) rfl, h1.cell (i := 1) rfl, h1.cell (i := 2) rfl, h1.cell (i := 3) rfl, h2.cell (i := 0) rfl, h2.cell (i := 1) rfl⟩
      have HBR := hideN hbr
      have HTRUE : Hid ((rp, rl) = (xp, xl) → RES = true) := fun e => by
        rw [← HRES.out, List.any_eq_true]
        exact ⟨_, HF.out, by simp only; rw [HRP.out, e]; simp⟩
      clear hal hbr hB1 HI HBX HF
      go_wp2_with fail
      generalize w1.alloc (.cells #[.string FN, .int .i64 LL, .int .u32 (P : Nat), .slice pv0 idl cv0] 40) = W2 at *
      generalize w1.heap.size = RB at *
      obtain ⟨z0, z1, z2, z3, z4, z5⟩ := HCE.out _ HBR.out HBX1.out
      rcases hc with ⟨rfl, rfl⟩ | hc | ⟨hc, hd⟩
      · go_region_held3 (fun w' => w'.cell? ⟨RB, 0, none⟩ = some (.string FN) ∧ w'.cell? ⟨RB, 1, none⟩ = some (.int .i64 LL) ∧ w'.cell? ⟨RB, 2, none⟩ = some (.int .u32 (P : Nat)) ∧ w'.cell? ⟨RB, 3, none⟩ = some (.slice pv0 idl cv0) ∧ w'.cell? ⟨w.heap.size, 0, none⟩ = some (.int .u32 (rp : Nat)) ∧ w'.cell? ⟨w.heap.size, 1, none⟩ = some (.int .i64 rl)) (first | exact HCE.out _ HBR3.out HBX3.out | go_keep) (first
          | (go_at_call 73; refine (HREP.out _ (HI1.out.below (Below.refl _ W2).drew)).mono ?_; rintro e w3 ⟨rfl, hb3⟩; have hB3 : Below W2.heap.size W2 w3 := (Below.refl _ W2).drew.trans hb3; have HBR3 := hideN (HBR.out.next hB3); have HBX3 := hideN (HBX1.out.next hB3); have HG3 : Hid (W.grownBy w3 none) := HG2.out.andThen (grown_of_below hB3) (fun j hj => by cases hj); clear hb3 hB3))
        go_wp2_with fail
        go_ret
        exact ⟨by rw [HTRUE.out (by trivial)]; rfl, HB0.out.trans ((below_of_grown HG3.out).mono HB0.out.size)⟩
      all_goals
        go_region_held3 (fun w' => w'.cell? ⟨RB, 0, none⟩ = some (.string FN) ∧ w'.cell? ⟨RB, 1, none⟩ = some (.int .i64 LL) ∧ w'.cell? ⟨RB, 2, none⟩ = some (.int .u32 (P : Nat)) ∧ w'.cell? ⟨RB, 3, none⟩ = some (.slice pv0 idl cv0) ∧ w'.cell? ⟨w.heap.size, 0, none⟩ = some (.int .u32 (xp : Nat)) ∧ w'.cell? ⟨w.heap.size, 1, none⟩ = some (.int .i64 xl)) (first | exact HCE.out _ HBR3.out HBX3.out | go_keep) (first
          | (go_at_call 73; refine (HREP.out _ (HI1.out.below (Below.refl _ W2).drew)).mono ?_; rintro e w3 ⟨rfl, hb3⟩; have hB3 : Below W2.heap.size W2 w3 := (Below.refl _ W2).drew.trans hb3; have HBR3 := hideN (HBR.out.next hB3); have HBX3 := hideN (HBX1.out.next hB3); have HG3 : Hid (W.grownBy w3 none) := HG2.out.andThen (grown_of_below hB3) (fun j hj => by cases hj); have hrg3 := hrg2.kept (grown_of_below hB3) (by simp) (by simp); clear hb3 hB3))
        have HNE : Hid ((rp, rl) ≠ (xp, xl)) := fun e => by
          obtain ⟨e1, e2⟩ := Prod.mk.inj e
          subst e1 e2
          simp at *
        go_wp2_with fail
        go_roundw
        case rel => exact ⟨_, cnt1, hrg3, HNEW.out HNE.out, HG3.out⟩
        case measure => rw [hrg3.left_eq, hrg.left_eq]; exact hlt
end Go.Proofs.YtjdobbjdlighpabGreatDoor
namespace Go.Proofs.YtjdobbjdlighpabGreatDoor
open Go.RowKit Go.Maps

theorem MapKit.Of.drop {P : Program} {k : TypeId} {κ β : Type} {M : MapKit P k κ β} [DecidableEq κ] {w : World} {b : Nat} {l : List (κ × β)} {t e : TypeId} (h : M.Of w b l) (ht : P.underlying t = some (.map k e)) {x : κ} (hx : M.wf x) :
    ∃ w', (∀ ty, (Builtin.delete_ #[t, k] ty #[.map (some b), M.mkK x]).run P w = .ok (.tuple #[]) w') ∧ M.Of w' b (l.filter (fun h => !decide (h.1 = x))) ∧ w.grownBy w' (some b) := by
  obtain ⟨ds, ho, hp⟩ := h.own
  obtain ⟨w', hrun, ho', hturn⟩ := ho.drop M.K ht (M.key_kl hx) 0
  refine ⟨w', fun ty => hrun, ⟨⟨_, ownsMap_tight ho', ?_⟩, fun z hz => h.wf z (List.mem_filter.1 hz).1⟩, hturn.grown⟩
  rw [← filter_ents hx l h.wf]
  exact hp.filter _
theorem nDrop_none {st : NSt} {nm : List UInt8} (h : nFile st.files nm = none) : nDrop st nm = (5, st) := by unfold nDrop; rw [h]
theorem nDrop_last {st : NSt} {nm s : List UInt8} (h : nFile st.files nm = some s) (ha : (st.files.filter (fun f => !decide (f.1 = nm))).any (fun f => decide (repT f.2 = repT s)) = false) : nDrop st nm = (0, ⟨st.files.filter (fun f => !decide (f.1 = nm)), st.bins.filter (fun b => !decide (b.1 = repT s))⟩) := by
  unfold nDrop
  rw [h]
  simp only
  rw [if_neg (by rw [ha]; simp)]
theorem nDrop_more {st : NSt} {nm s : List UInt8} {l : List Hd} (h : nFile st.files nm = some s) (hap : st.bins.Pairwise (fun f g => f.1 ≠ g.1)) (hm : (repT s, l) ∈ st.bins) (ha : (st.files.filter (fun f => !decide (f.1 = nm))).any (fun f => decide (repT f.2 = repT s)) = true) : nDrop st nm = (0, ⟨st.files.filter (fun f => !decide (f.1 = nm)), binTo st.bins (repT s) (dropAll l (idsOf s))⟩) := by
  unfold nDrop
  rw [h]
  simp only
  rw [if_pos ha]
  have e : st.bins.map (fun b => if b.1 = repT s then (b.1, dropAll b.2 (idsOf s)) else b) = binTo st.bins (repT s) (dropAll l (idsOf s)) := List.map_congr_left fun b hb => by
    by_cases e : b.1 = repT s
    · obtain ⟨b1, b2⟩ := b
      simp only at e
      subst e
      have h1 := nBin_of_mem hap hb
      rw [nBin_of_mem hap hm] at h1
      rw [Option.some.inj h1]
    · simp only [if_neg e]
  rw [e]
def NDropPost (a : Nat → Addr) (w : World) (p : Addr) (F : Nat → Prop) (r : Int × NSt) (e : Ending) (w' : World) : Prop :=
  ∃ ev F', e = .returned ev ∧ ErrIn w.heap.size w' a ev (r.1, -1) ∧ PNode w' p F' r.2 ∧ (∀ k, F' k → F k ∨ w.heap.size ≤ k) ∧ Off F w w'
set_option maxRecDepth 100000 in
set_option maxHeartbeats 8000000 in
theorem nodeDrop_any (a : Nat → Addr) (nm : ByteArray) (p : Addr) (F : Nat → Prop) (st : NSt) (w : World) (hnm : nm.size ≤ 50000) (hok : ∀ b ∈ st.bins, BinOk 1000000 b.2) (hfl : ∀ f ∈ st.files, f.2.length ≤ 4000) (hhas : ∀ f ∈ st.files, ∃ l, (repT f.2, l) ∈ st.bins) (hE : ErrE [4, 10] w a) (hG : ∀ i, ([4, 10] : List Nat).contains i = true → ¬ F (errG i)) (hP : PNode w p F st) :
    Calls Tryz.prog 29 #[.pointer (some p), .string nm] w (NDropPost a w p F (nDrop st nm.data.toList)) := by
  have HP := hideN hP
  have HEO : Hid (∀ W, Off F w W → ErrE [4, 10] W a) := fun W ho => hE.off ho hG
  have HOK := hideN hok
  have HLEN : Hid (∀ f ∈ st.files, (idsOf f.2).length ≤ 4000) := fun f hf => by
    have h1 := pieces_len_le f.2
    have h2 := hfl f hf
    unfold idsOf
    rw [List.length_map]
    omega
  obtain ⟨N, mf, mb, vi, pi, Fi, rfl, h, hFe⟩ := hP
  have HH := hideN h
  have HFE := hideN hFe
  have q0 := h.blk.cell (i := 0) rfl
  have hnw : WfNm nm.data.toList := by show nm.data.toList.length ≤ maxLen; rw [Array.length_toList]; show nm.size ≤ maxLen; unfold maxLen; omega
  have hnmE : (⟨nm.data.toList.toArray⟩ : ByteArray) = nm := by simp
  obtain ⟨RES, hRES⟩ : ∃ RES, nDrop st nm.data.toList = RES := ⟨_, rfl⟩
  have HRES := hideN hRES
  rw [hRES]
  clear hRES hok hfl hE hG hFe
  cases hf : nFile st.files nm.data.toList with
  | none =>
    have HR : Hid (RES = (5, st)) := HRES.out.symm.trans (nDrop_none hf)
    have l0 : (Instr.lookup 99 (.map (some mf)) (.string nm) true).run Tryz.prog w = .ok (.tuple #[.agg #[.string ⟨#[]⟩, .int .i64 0, .int .u32 0, .slice none 0 0], .bool false]) w := by
      have := h.files.look_none Tryz.underlying99 (rcpZero _) hnw (fun y hy => by
        obtain ⟨f, hfm, rfl⟩ := List.mem_map.1 hy
        exact nFile_none hf f hfm)
      change (Instr.lookup _ _ (.string ⟨nm.data.toList.toArray⟩) true).run _ _ = _ at this
      rw [hnmE] at this
      exact this
    have hal := (Below.refl w.heap.size w).alloc (Nat.le_refl _) (.cells #[.string ⟨#[]⟩, .int .i64 0, .int .u32 0, .slice none 0 0] 40)
    have HB := hideN hal
    have g4 := (HEO.out _ (Off.of_below hal)).glob 4 rfl
    change World.cell? _ ⟨0, 0, none⟩ = _ at g4
    clear h hf hnmE hal
    go_enter Tryz.func29, Tryz.ntmps29
    go_wp2_with fail
    go_ret
    refine ⟨_, F, rfl, ?_, ?_, fun k hk => .inl hk, Off.of_below HB.out⟩
    · rw [HR.out]
      exact .inr (.inl ⟨4, by decide, rfl, rfl⟩)
    · rw [HR.out]
      exact HP.out.below HB.out
  | some s =>
    obtain ⟨pv0, cv0, hv0, _⟩ := h.ids _ (nFile_some hf)
    have HMEM := hideN (nFile_some hf)
    have HI := hideN (h.ids _ (nFile_some hf))
    have HROW := hideN (h.rows _ (nFile_some hf))
    have HLS := hideN (HLEN.out _ (nFile_some hf))
    have HF := hideN hf
    obtain ⟨bl0, hbl0⟩ := hhas _ (nFile_some hf)
    have hapB : st.bins.Pairwise (fun p q => p.1 ≠ q.1) := by
      have := h.bins.apart
      rw [List.pairwise_map] at this
      exact this
    have HAPB := hideN hapB
    simp only at hv0 HI HROW HLS hbl0
    have l0 : (Instr.lookup 99 (.map (some mf)) (.string nm) true).run Tryz.prog w = .ok (.tuple #[.agg #[.string nm, .int .i64 (s.length : Int), .int .u32 ((pmore 2166136261 s : Nat) : Int), .slice pv0 (idsOf s).length cv0], .bool true]) w := by
      have := h.files.look_some Tryz.underlying99 (rcpZero _) (List.mem_map.2 ⟨_, nFile_some hf, rfl⟩)
      change (Instr.lookup _ _ (.string ⟨nm.data.toList.toArray⟩) true).run _ _ = .ok (.tuple #[rcpV ⟨nm.data.toList.toArray⟩ (s.length : Int) ((pmore 2166136261 s : Nat) : Int) (vi nm.data.toList), .bool true]) _ at this
      rw [hnmE, hv0] at this
      exact this
    rw [hv0] at HI HROW
    obtain ⟨P, hPP⟩ : ∃ P, pmore 2166136261 s = P := ⟨_, rfl⟩
    obtain ⟨LL, hLL⟩ : ∃ LL, (s.length : Int) = LL := ⟨_, rfl⟩
    obtain ⟨idl, hidl⟩ : ∃ idl, (idsOf s).length = idl := ⟨_, rfl⟩
    obtain ⟨⟨rp, rl⟩, hrep⟩ : ∃ r, repT s = r := ⟨_, rfl⟩
    have HID := hideN hidl
    have HRP := hideN hrep
    have HWR := hideN (repT_wf s)
    have HREP := hideN (fun W (hv : IdsAt W (.slice pv0 idl cv0) (idsOf s)) => rep_any nm LL (P : Int) (.slice pv0 idl cv0) (idsOf s) W hv (by have := HLS.out; unfold maxLen; omega))
    change Hid (∀ W, _ → Calls _ _ _ W fun e w' => e = .returned (idV ((repT s).1 : Nat) (repT s).2) ∧ _) at HREP
    rw [hrep] at HREP HWR hbl0
    simp only at HREP
    have HBL0 := hideN hbl0
    rw [hPP, hLL, hidl] at l0
    rw [hidl] at HI HROW HLS
    have hal := (Below.refl w.heap.size w).alloc (Nat.le_refl _) (.cells #[.string nm, .int .i64 LL, .int .u32 (P : Nat), .slice pv0 idl cv0] 40)
    have hbr := Blk.new w #[.string nm, .int .i64 LL, .int .u32 (P : Nat), .slice pv0 idl cv0] 40
    have h1 := h.below hal
    have q1 := h1.blk.cell (i := 0) rfl
    obtain ⟨w2, hdel, hof2, hg2⟩ := h1.files.drop Tryz.underlying99 hnw
    change ∀ ty, (Builtin.delete_ _ ty #[.map (some mf), .string ⟨nm.data.toList.toArray⟩]).run _ _ = _ at hdel
    rw [hnmE] at hdel
    have ho2 : Off (fun k => k = mf) (w.alloc (.cells #[.string nm, .int .i64 LL, .int .u32 (P : Nat), .slice pv0 idl cv0] 40)) w2 := off_of_grown hg2 rfl
    have HN2 := hideN (h1.unfile ho2 hof2)
    have hmfl : mf < w.heap.size := h.files.lt
    have HBR2 := hideN (ho2.blk hbr (fun e => by omega))
    have HI2 := hideN ((HI.out.below hal).off ho2 (fun hne k hk e => (HROW.out hne k hk).2.2.1 e))
    have HO2 : Hid (Off F w w2) := (Off.of_below hal).trans ho2 (fun k hk e => by rw [HFE.out, e]; exact .inr (.inl rfl))
    have HSZ2 : Hid (w.heap.size < w2.heap.size) := Nat.lt_of_lt_of_le hbr.lt ho2.size
    have b0 := HBR2.out.cell (i := 0) rfl
    have b1 := HBR2.out.cell (i := 1) rfl
    have b2 := HBR2.out.cell (i := 2) rfl
    have b3 := HBR2.out.cell (i := 3) rfl
    clear h hf hhas hv0 hPP hLL hidl hrep hbl0 hal hbr h1 hof2 hg2 ho2 hnmE
    go_enter Tryz.func29, Tryz.ntmps29
    go_wp2_with fail
    refine (HREP.out w2 HI2.out).mono ?_
    rintro e w3 ⟨rfl, hb3⟩
    have hal3 := (Below.refl w3.heap.size w3).alloc (Nat.le_refl _) (.cells #[.int .u32 (rp : Nat), .int .i64 rl] 25)
    have HBI4 := hideN (Blk.new w3 #[.int .u32 (rp : Nat), .int .i64 rl] 25)
    have HN4 := hideN ((HN2.out.below hb3).below hal3)
    have HBR4 := hideN ((HBR2.out.next hb3).next hal3)
    have HI4 := hideN ((HI2.out.below hb3).below hal3)
    have HO4 : Hid (Off F w _) := hideN ((HO2.out.trans (Off.of_below (F := fun _ => False) hb3) (fun _ _ h => h.elim)).trans (Off.of_below (F := fun _ => False) hal3) (fun _ _ h => h.elim))
    have HSZ3 : Hid (w.heap.size < w3.heap.size) := Nat.lt_of_lt_of_le HSZ2.out hb3.size
    have i0 := HBI4.out.cell (i := 0) rfl
    have i1 := HBI4.out.cell (i := 1) rfl
    clear b0 b1 b2 b3 hal3 hb3 HN2 HBR2 HI2 HO2 HREP l0 hdel q0 q1
    obtain ⟨FS, hFS⟩ : ∃ FS, st.files.filter (fun f => !decide (f.1 = nm.data.toList)) = FS := ⟨_, rfl⟩
    have HFS := hideN hFS
    rw [hFS] at HN4
    obtain ⟨AN, hAN⟩ : ∃ AN, FS.any (fun f => decide (repT f.2 = (rp, rl))) = AN := ⟨_, rfl⟩
    have HAN := hideN hAN
    clear hFS hAN
    go_wp2_with fail
    generalize w3.alloc (.cells #[.int .u32 (rp : Nat), .int .i64 rl] 25) = W4 at *
    generalize w3.heap.size = IB at *
    have HHAS := hideN (hasFileOf_any (rp, rl) ⟨N, 0, none⟩ (nFoot N mf mb vi Fi ⟨FS, st.bins⟩) ⟨FS, st.bins⟩ W4 (fun f hf => by rw [← HFS.out] at hf; exact HLEN.out f (List.mem_filter.1 hf).1) ⟨N, mf, mb, vi, pi, Fi, rfl, HN4.out, rfl⟩)
    simp only at HHAS
    rw [HAN.out] at HHAS
    refine HHAS.out.mono ?_
    rintro e w5 ⟨rfl, hb5⟩
    have HN5 := hideN (HN4.out.below hb5)
    have HBR5 := hideN (HBR4.out.next hb5)
    have HI5 := hideN (HI4.out.below hb5)
    have HBI5 := hideN (HBI4.out.next hb5)
    have HO5 : Hid (Off F w w5) := HO4.out.trans (Off.of_below (F := fun _ => False) hb5) (fun _ _ h => h.elim)
    clear i0 i1 hb5 HN4 HBR4 HI4 HBI4 HO4 HHAS
    have i0 := HBI5.out.cell (i := 0) rfl
    have i1 := HBI5.out.cell (i := 1) rfl
    have q1 := HN5.out.blk.cell (i := 1) rfl
    have b3 := HBR5.out.cell (i := 3) rfl
    have HLF : Hid (∀ k, nFoot N mf mb vi Fi st k → k < w.heap.size) := HH.out.lt
    have HSUB : Hid (∀ k, nFoot N mf mb vi Fi ⟨FS, st.bins⟩ k → F k) := fun k hk => by rw [HFE.out]; rw [← HFS.out] at hk; exact nFoot_unfile hk
    cases AN with
    | false =>
      have HR : Hid (RES = (0, ⟨FS, st.bins.filter (fun b => !decide (b.1 = (rp, rl)))⟩)) := by
        show _ = _
        rw [← HRES.out, nDrop_last HF.out (by rw [HFS.out, HRP.out]; exact HAN.out), HFS.out, HRP.out]
      obtain ⟨w6, hdel6, hof6, hg6⟩ := (ofB_drew HN5.out.bins).drop Tryz.underlying100 HWR.out
      change ∀ ty, (Builtin.delete_ _ ty #[.map (some mb), idV (rp : Nat) rl]).run _ _ = _ at hdel6
      have ho6 : Off (fun k => k = mb) w5 w6 := off_of_grown (grown_drew hg6) rfl
      have HN6 := hideN (HN5.out.unbin ho6 hof6)
      have HO6 : Hid (Off F w w6) := HO5.out.trans ho6 (fun k _ e => by rw [HFE.out, e]; exact .inr (.inr (.inl rfl)))
      clear hof6 hg6 ho6
      go_wp2_with fail
      go_region
      all_goals
        go_wp2_with fail
        go_ret
        refine ⟨.nilIface, nFoot N mf mb vi Fi ⟨FS, st.bins.filter (fun b => !decide (b.1 = (rp, rl)))⟩, rfl, ?_, ?_, fun k hk => .inl (HSUB.out k (nFoot_unbin (st := ⟨FS, st.bins⟩) hk)), HO6.out⟩
        · rw [HR.out]
          exact .inl ⟨rfl, rfl⟩
        · rw [HR.out]
          exact ⟨N, mf, mb, vi, pi, Fi, rfl, HN6.out, rfl⟩
    | true =>
      obtain ⟨RR, hRR⟩ : ∃ RR, dropAll bl0 (idsOf s) = RR := ⟨_, rfl⟩
      have HRR := hideN hRR
      have HR : Hid (RES = (0, ⟨FS, binTo st.bins (rp, rl) RR⟩)) := by
        show _ = _
        rw [← HRES.out, nDrop_more HF.out HAPB.out (by rw [HRP.out]; exact HBL0.out) (by rw [HFS.out, HRP.out]; exact HAN.out), HFS.out, HRP.out, HRR.out]
      have HPB := hideN (HN5.out.bin _ HBL0.out)
      obtain ⟨q, hq⟩ : ∃ q, pi (rp, rl) = q := ⟨_, rfl⟩
      have HQ := hideN hq
      simp only at HPB
      rw [hq] at HPB
      have HAPF := hideN (HN5.out.apart _ HBL0.out)
      simp only at HAPF
      have HOK0 := hideN (HOK.out _ HBL0.out)
      have HFR : Hid (∀ k, Fi (rp, rl) k → k < w.heap.size ∧ F k) := fun k hk => by
        have h1 : nFoot N mf mb vi Fi st k := .inr (.inr (.inr (.inl ⟨_, HBL0.out, hk⟩)))
        exact ⟨HLF.out k h1, by rw [HFE.out]; exact h1⟩
      have hidl4 : (idl : Int) ≤ 4000 := by have := HLS.out; omega
      have HPL : Hid ((pieces s).length = idl) := by
        show _ = _
        rw [← HID.out]
        unfold idsOf
        rw [List.length_map]
      clear hRR hq HRES HAN
      go_wp2_with fail
      clear i0 i1 q1 b3
      go_loopw [41] (fun iv wr => ∃ (k : Nat) (bl : List Hd) (Fj : Nat → Prop), k ≤ idl ∧ iv = .int .i64 k ∧ Hid (dropAll bl ((idsOf s).drop k) = RR) ∧ Hid (BinOk 1000000 bl) ∧ Hid (PBin0 wr q Fj bl) ∧ Hid (∀ j, Fj j → Fi (rp, rl) j ∨ w5.heap.size ≤ j) ∧ Hid (Off (Fi (rp, rl)) w5 wr)) (fun iv _ => idl - (intOf iv).toNat)
      case atStart => exact ⟨0, bl0, Fi (rp, rl), Nat.zero_le _, rfl, by rw [List.drop_zero]; exact HRR.out, HOK0.out, HPB.out, fun j hj => .inl hj, Off.refl _ _⟩
      case round =>
        clear HRR HOK0 HPB
        obtain ⟨k, bl, Fj, hk, rfl, HRD, HOKB, HPB, HFJ, HO⟩ := hrel
        by_cases hlt : k < idl
        · have hlt' : (k : Int) < (idl : Int) := by omega
          have hk0 : (0 : Int) ≤ (k : Int) := by omega
          have hIr := HI5.out.off HO.out (fun hne j hj hf => (HROW.out hne j hj).2.2.2.2 _ HBL0.out hf)
          obtain ⟨pq, cq, hve, hcell⟩ := hIr
          obtain ⟨b, o, hpq, hbl, c0, c1⟩ := hcell k (by rw [HID.out]; exact hlt)
          obtain ⟨rfl, rfl⟩ : pv0 = pq ∧ cv0 = cq := by have := hve; simp at this; exact ⟨this.1, this.2.2⟩
          subst hpq
          have hkp : k < (pieces s).length := by rw [HPL.out]; exact hlt
          obtain ⟨t, ht⟩ : ∃ t, (pieces s)[k] = t := ⟨_, rfl⟩
          have hid : (idsOf s)[k]'(by rw [HID.out]; exact hlt) = (pmore 2166136261 t, (t.length : Int)) := by
            unfold idsOf
            rw [List.getElem_map, ht]
          rw [hid] at c0 c1
          simp only at c0 c1
          have HTL := hideN (piece_le (s := s) (q := t) (by rw [← ht]; exact List.getElem_mem hkp))
          have hdr : (idsOf s).drop k = (idsOf s)[k]'(by rw [HID.out]; exact hlt) :: (idsOf s).drop (k + 1) := List.drop_eq_getElem_cons (by rw [HID.out]; exact hlt)
          rw [hdr, hid, dropAll] at HRD
          obtain ⟨xp, hxp⟩ : ∃ xp, pmore 2166136261 t = xp := ⟨_, rfl⟩
          obtain ⟨xl, hxl⟩ : ∃ xl, (t.length : Int) = xl := ⟨_, rfl⟩
          have HXW : Hid (WfID (xp, xl)) := ⟨by rw [← hxp]; exact pmore_lt _ (by decide) _, by rw [← hxl]; simp only; omega, by rw [← hxl]; have := HTL.out; simp only; omega⟩
          rw [hxp] at c0 HRD
          rw [hxl] at c1 HRD
          clear hcell hve hid ht hkp hxp hxl hdr hbl
          have hal4 := (Below.refl wr.heap.size wr).alloc (Nat.le_refl _) (.cells #[.int .u32 (xp : Nat), .int .i64 xl] 25)
          have HBJ := hideN (Blk.new wr #[.int .u32 (xp : Nat), .int .i64 xl] 25)
          have HPB4 := hideN (HPB.out.off (Off.of_below (F := fun _ => False) hal4) (fun _ _ h => h))
          have HO4 : Hid (Off (Fi (rp, rl)) w5 _) := hideN (HO.out.trans (Off.of_below (F := fun _ => False) hal4) (fun _ _ h => h.elim))
          have HSZO := hideN HO.out.size
          have HJN0 : Hid (¬ Fj wr.heap.size) := fun hf => by have := HPB.out.lt _ hf; omega
          clear hal4
          go_wp2_with fail
          generalize wr.alloc (.cells #[.int .u32 (xp : Nat), .int .i64 xl] 25) = W at *
          have HJB : Hid (w5.heap.size ≤ wr.heap.size) := HSZO.out
          generalize wr.heap.size = JB at *
          have HJN : Hid (¬ Fj JB) := HJN0.out
          have HIBL : Hid (w.heap.size < IB) := HSZ3.out
          have HCE : Hid (∀ W', Off (Fi (rp, rl)) w5 W' → Blk W' JB #[.int .u32 (xp : Nat), .int .i64 xl] 25 → (W'.cell? ⟨N, 1, none⟩ = some (.map (some mb)) ∧ W'.cell? ⟨IB, 0, none⟩ = some (.int .u32 (rp : Nat)) ∧ W'.cell? ⟨IB, 1, none⟩ = some (.int .i64 rl) ∧ W'.cell? ⟨JB, 0, none⟩ = some (.int .u32 (xp : Nat)) ∧ W'.cell? ⟨JB, 1, none⟩ = some (.int .i64 xl))) := fun W' h1 h2 => by
            have hN := h1.blk HN5.out.blk HAPF.out.1
            have hI := h1.blk HBI5.out (fun hf => by have := (HFR.out _ hf).1; have := HIBL.out; omega)
            exact ⟨hN.cell (i := 1) rfl, hI.cell (i := 0) rfl, hI.cell (i := 1) rfl, h2.cell (i := 0) rfl, h2.cell (i := 1) rfl⟩
          have HLK : Hid (∀ W', Off (Fi (rp, rl)) w5 W' → (Instr.lookup 100 (.map (some mb)) (idV (rp : Nat) rl) false).run Tryz.prog W' = .ok (.pointer (some q)) W') := fun W' h1 => by
            have := look1 (HN5.out.bins.moved (h1.block mb HN5.out.bins.lt HAPF.out.2.2)) Tryz.underlying100 (ptrZero W') (List.mem_map.2 ⟨_, HBL0.out, rfl⟩)
            change (Instr.lookup 100 (.map (some mb)) (idV (rp : Nat) rl) false).run Tryz.prog W' = .ok (.pointer (some (pi (rp, rl)))) W' at this
            rw [HQ.out] at this
            exact this
          have hod : Off (Fi (rp, rl)) w5 W.drew := HO4.out.trans (Off.of_below (F := fun _ => False) (Below.refl _ W).drew) (fun _ _ h => h.elim)
          have HOD := hideN hod
          have l0 := HLK.out W HO4.out
          have l1 := HLK.out W.drew hod
          obtain ⟨z1, z2, z3, z4, z5⟩ := HCE.out W HO4.out HBJ.out
          have HEW : Hid (ErrE [4, 10] W.drew a) := HEO.out _ (HO5.out.trans hod (fun j _ hf => (HFR.out j hf).2))
          have HDR := hideN (pDrop_any (a := a) (xp, xl) q Fj bl W.drew HXW.out HOKB.out HEW.out (HPB4.out.off (Off.of_below (F := fun _ => False) (Below.refl _ W).drew) (fun _ _ h => h)))
          have HOK2 := hideN (hDrop_ok HOKB.out (xp, xl))
          have HSZW : Hid (w5.heap.size ≤ W.heap.size) := HO4.out.size
          clear hod c0 c1
          go_region_held3 (fun W' => W'.cell? ⟨N, 1, none⟩ = some (.map (some mb)) ∧ W'.cell? ⟨IB, 0, none⟩ = some (.int .u32 (rp : Nat)) ∧ W'.cell? ⟨IB, 1, none⟩ = some (.int .i64 rl) ∧ W'.cell? ⟨JB, 0, none⟩ = some (.int .u32 (xp : Nat)) ∧ W'.cell? ⟨JB, 1, none⟩ = some (.int .i64 xl)) (first | exact HCE.out _ HO6.out HBJ6.out | go_keep) (first
            | (go_at_call 79; refine HDR.out.mono ?_; rintro e w6 ⟨ev6, F6, rfl, _, hp6, hf6, ho6⟩; have HP6 := hideN hp6; have HO6 : Hid (Off (Fi (rp, rl)) w5 w6) := HOD.out.trans ho6 (fun j hj hf => (HFJ.out j hf).resolve_right (by omega)); have HBJ6 : Hid (Blk w6 JB #[.int .u32 (xp : Nat), .int .i64 xl] 25) := ho6.blk (Blk.next (W := W) HBJ.out (Below.refl _ W).drew) (fun hf => HJN.out hf); have HF6 : Hid (∀ j, F6 j → Fi (rp, rl) j ∨ w5.heap.size ≤ j) := fun j hj => (hf6 j hj).elim (HFJ.out j) (fun h => .inr (Nat.le_trans HSZW.out h)); clear hp6 hf6 ho6))
          go_wp2_with fail
          go_roundw
          case rel => exact ⟨k + 1, _, F6, hlt, by go_num, HRD.out, HOK2.out, HP6.out, HF6.out, HO6.out⟩
          case measure => simp [intOf]; omega
        · have hge : (idl : Int) ≤ (k : Int) := by omega
          rw [List.drop_eq_nil_of_le (by rw [HID.out]; omega), dropAll] at HRD
          go_wp2_with fail
          go_ret
          have hn := HN5.out.bin1 HBL0.out HO.out (by rw [HQ.out]; exact HPB.out) HFJ.out
          rw [HRD.out] at hn
          have hsz5 := HO5.out.size
          refine ⟨.nilIface, nFoot N mf mb vi (fun x => if x = (rp, rl) then Fj else Fi x) ⟨FS, binTo st.bins (rp, rl) RR⟩, rfl, ?_, ?_, fun j hj => ?_, HO5.out.trans HO.out (fun j _ hf => (HFR.out j hf).2)⟩
          · rw [HR.out]
            exact .inl ⟨rfl, rfl⟩
          · rw [HR.out]
            exact ⟨N, mf, mb, vi, pi, _, rfl, hn, rfl⟩
          · rcases nFoot_bin1 (st := ⟨FS, st.bins⟩) HBL0.out HFJ.out hj with h | h
            · exact .inl (HSUB.out j h)
            · exact .inr (by omega)
end Go.Proofs.YtjdobbjdlighpabGreatDoor
namespace Go.Proofs.YtjdobbjdlighpabGreatDoor
open Go.RowKit Go.Maps

/- Bins of which those that 'left' does not name were swept. -/
def sweepOf (l : List NBin) (left : Nat × Int → Bool) : List NBin := l.map (fun b => if left b.1 = true then b else (b.1, (hSweep b.2).2))
def sweptOf (l : List NBin) (left : Nat × Int → Bool) : Int := ((l.filter (fun b => !left b.1)).map fun b => (hSweep b.2).1).sum
theorem sweepOf_key (left : Nat × Int → Bool) (b : NBin) : (if left b.1 = true then b else (b.1, (hSweep b.2).2)).1 = b.1 := by split <;> rfl
theorem sweepOf_flip {l : List NBin} (hap : l.Pairwise (fun p q => p.1 ≠ q.1)) {left : Nat × Int → Bool} {x : Nat × Int} {bl : List Hd} (hm : (x, bl) ∈ l) (hl : left x = true) : binTo (sweepOf l left) x (hSweep bl).2 = sweepOf l (fun y => left y && !decide (y = x)) := by
  unfold binTo sweepOf
  rw [List.map_map]
  refine List.map_congr_left fun b hb => ?_
  simp only [Function.comp, sweepOf_key]
  by_cases e : b.1 = x
  · have eb : b = (x, bl) := by
      obtain ⟨b1, b2⟩ := b
      simp only at e
      subst e
      have h1 := nBin_of_mem hap hb
      have h2 := nBin_of_mem hap hm
      rw [h1] at h2
      rw [Option.some.inj h2]
    subst eb
    simp
  · rw [if_neg e]
    simp [e]
theorem sum_perm {a b : List Int} (h : a.Perm b) : a.sum = b.sum := by
  induction h with
  | nil => rfl
  | cons x _ ih => rw [List.sum_cons, List.sum_cons, ih]
  | swap x y l => rw [List.sum_cons, List.sum_cons, List.sum_cons, List.sum_cons]; omega
  | trans _ _ h1 h2 => rw [h1, h2]
theorem sweptOf_flip {l : List NBin} (hap : l.Pairwise (fun p q => p.1 ≠ q.1)) {left : Nat × Int → Bool} {x : Nat × Int} {bl : List Hd} (hm : (x, bl) ∈ l) (hl : left x = true) : sweptOf l (fun y => left y && !decide (y = x)) = (hSweep bl).1 + sweptOf l left := by
  unfold sweptOf
  have := sum_perm ((filter_flip hap (p := left) hm hl).map fun b : NBin => (hSweep b.2).1)
  rw [List.map_cons, List.sum_cons] at this
  exact this
theorem sweptOf_bound (l : List NBin) (left : Nat × Int → Bool) (h : ∀ b ∈ l, BinOk 1000000 b.2) (hn : l.length ≤ 1000) : 0 ≤ sweptOf l left ∧ sweptOf l left ≤ 16000000 := by
  have hall : ∀ m : List NBin, (∀ b ∈ m, BinOk 1000000 b.2) → 0 ≤ (m.map fun b => (hSweep b.2).1).sum ∧ (m.map fun b => (hSweep b.2).1).sum ≤ m.length * 16000 := by
    intro m
    induction m with
    | nil => intro _; simp
    | cons b r ih =>
      intro hm
      have h1 := ih (fun c hc => hm c (List.mem_cons_of_mem _ hc))
      have h2 := hSize_filter_bound (hm b (List.mem_cons_self ..)) unused
      have e : (hSweep b.2).1 = hSize (b.2.filter unused) := rfl
      rw [List.map_cons, List.sum_cons, List.length_cons, e]
      omega
  have h1 := hall (l.filter (fun b => !left b.1)) (fun b hb => h b (List.mem_filter.1 hb).1)
  have h2 := List.length_filter_le (fun b : NBin => !left b.1) l
  unfold sweptOf
  omega
theorem rng_off {P : Program} {k : TypeId} {κ β : Type} {M : MapKit P k κ β} {w w' : World} {b r : Nat} {l : List (κ × β)} {left : κ → Bool} {cnt : Nat} {F : Nat → Prop} (h : M.Rng w b r l left cnt) (ho : Off F w w') (hb : ¬ F b) (hr : ¬ F r) : M.Rng w' b r l left cnt := by
  have hbl := h.of.lt
  have hrl := h.lt
  obtain ⟨ds, n, lf, ⟨es, clock, since, seen, c0, e1, h2, h3, h4, e5, rest⟩, hp, hl⟩ := h.at'
  exact ⟨⟨ds, n, lf, ⟨es, clock, since, seen, c0, (ho.block b hbl hb).trans e1, h2, h3, h4, (ho.block r hrl hr).trans e5, rest⟩, hp, hl⟩, h.wf⟩
def NSweepPost (w : World) (p : Addr) (F : Nat → Prop) (r : Int × NSt) (e : Ending) (w' : World) : Prop :=
  ∃ F', e = .returned (.int .i64 r.1) ∧ PNode w' p F' r.2 ∧ (∀ k, F' k → F k ∨ w.heap.size ≤ k) ∧ Off F w w'
set_option maxRecDepth 100000 in
set_option maxHeartbeats 4000000 in
theorem nodeSweep_any (p : Addr) (F : Nat → Prop) (st : NSt) (w : World) (hok : ∀ b ∈ st.bins, BinOk 1000000 b.2) (hn : st.bins.length ≤ 1000) (hP : PNode w p F st) :
    Calls Tryz.prog 30 #[.pointer (some p)] w (NSweepPost w p F (nSweep st)) := by
  obtain ⟨N, mf, mb, vi, pi, Fi, rfl, h, hFe⟩ := hP
  have q1 := h.blk.cell (i := 1) rfl
  have hM := h.bins
  have hap : st.bins.Pairwise (fun p q => p.1 ≠ q.1) := by
    have := hM.apart
    rw [List.pairwise_map] at this
    exact this
  have hbl := hM.lt
  have HH := hideN h
  have HOK : Hid (∀ b ∈ st.bins, BinOk 1000000 b.2) := hok
  have HNB : Hid (∀ left, 0 ≤ sweptOf st.bins left ∧ sweptOf st.bins left ≤ 16000000) := fun left => sweptOf_bound st.bins left hok hn
  have HFE := hideN hFe
  obtain ⟨L, hL⟩ : ∃ L, (st.bins.map fun b => (b.1, some (pi b.1))) = L := ⟨_, rfl⟩
  have HL : Hid ((st.bins.map fun b => (b.1, some (pi b.1))) = L) := hL
  rw [hL] at hM
  clear hok h hL hFe
  go_enter Tryz.func30, Tryz.ntmps30
  go_wp2_with (first
    | (at_range; refine wp_range_kit idBins _ rfl _ 100 rfl 47 Tryz.underlying100 mb L rfl hM ?_; intro w0 hr0 hg0 hs0)
    | go_in)
  go_frame
  go_loopw [3] (fun n wr => ∃ (left : Nat × Int → Bool) (cnt : Nat) (Fj : Nat × Int → Nat → Prop), n = .int .i64 (sweptOf st.bins left) ∧ idBins.Rng wr mb w.heap.size L left cnt ∧ Hid (NAt wr N mf mb vi pi Fj ⟨st.files, sweepOf st.bins left⟩) ∧ Hid (∀ k, nFoot N mf mb vi Fj ⟨st.files, sweepOf st.bins left⟩ k → F k ∨ w.heap.size < k) ∧ Hid (Off F w wr)) (fun _ wr => wr.rangeLeft mb w.heap.size)
  case atStart =>
    have H : ∀ left : Nat × Int → Bool, (∀ b ∈ st.bins, left b.1 = true) → sweepOf st.bins left = st.bins ∧ sweptOf st.bins left = 0 := fun left hl => by
      refine ⟨?_, ?_⟩
      · unfold sweepOf
        rw [List.map_congr_left (g := id) (fun b hb => by rw [if_pos (hl b hb)]; rfl), List.map_id]
      · unfold sweptOf
        rw [List.filter_eq_nil_iff.2 (fun b hb => by simp [hl b hb])]
        rfl
    obtain ⟨left0, hl0, hr⟩ : ∃ left0 : Nat × Int → Bool, (∀ b ∈ st.bins, left0 b.1 = true) ∧ idBins.Rng w0 mb w.heap.size L left0 L.length := by
      refine ⟨_, ?_, hr0⟩
      intro b hb
      simp only [decide_eq_true_eq]
      exact List.mem_map.2 ⟨(b.1, some (pi b.1)), by rw [← HL.out]; exact List.mem_map.2 ⟨b, hb, rfl⟩, rfl⟩
    obtain ⟨h1, h2⟩ := H left0 hl0
    refine ⟨left0, _, Fi, by rw [h2], hr, ?_, ?_, Off.of_below (below_of_grown hg0)⟩
    · show NAt _ _ _ _ _ _ _ _
      rw [h1]
      exact HH.out.below (below_of_grown hg0)
    · show ∀ k, _
      rw [h1]
      exact fun k hk => .inl (by rw [HFE.out]; exact hk)
  case round =>
    obtain ⟨left, cnt, Fj, rfl, hrg, HN, HFT, HO⟩ := hrel
    obtain ⟨n1, n2⟩ := HNB.out left
    obtain ⟨Z, hZ⟩ : ∃ Z, sweptOf st.bins left = Z := ⟨_, rfl⟩
    have HZ : Hid (sweptOf st.bins left = Z) := hZ
    rw [hZ] at n1 n2 ⊢
    clear hZ
    go_wp2_with (first
      | (at_next; refine wp_next_kit idBins _ rfl _ rfl mb w.heap.size L left cnt rfl hrg ?_ ?_)
      | go_in)
    · intro h0
      have HL0 : Hid (∀ b ∈ st.bins, left b.1 = false) := fun b hb => h0 b.1.1 b.1.2 (some (pi b.1)) (by rw [← HL.out]; exact List.mem_map.2 ⟨b, hb, rfl⟩)
      clear h0
      go_wp2_with fail
      go_ret
      have e1 : (⟨st.files, sweepOf st.bins left⟩ : NSt) = (nSweep st).2 := by
        unfold sweepOf nSweep
        simp only [NSt.mk.injEq, true_and]
        exact List.map_congr_left fun b hb => by rw [if_neg (by rw [HL0.out b hb]; simp)]
      have e2 : Z = (nSweep st).1 := by
        rw [← HZ.out]
        unfold sweptOf nSweep
        rw [List.filter_eq_self.2 (fun b hb => by rw [HL0.out b hb]; rfl)]
      refine ⟨_, by rw [e2]; rfl, ⟨N, mf, mb, vi, pi, Fj, rfl, by rw [← e1]; exact HN.out, rfl⟩, fun k hk => ?_, HO.out⟩
      rw [← e1] at hk
      rcases HFT.out k hk with h | h
      · exact .inl h
      · exact .inr (Nat.le_of_lt h)
    · intro xp xl c w1 cnt1 hm hlx hrg1 hlt hg1 hs1 hen
      rw [← HL.out] at hm
      obtain ⟨⟨y, bl⟩, hyb, hye⟩ := List.mem_map.1 hm
      obtain ⟨hy, rfl⟩ : y = (xp, xl) ∧ some (pi y) = c := by simpa using hye
      subst hy
      change (Instr.entry (.pointer (some ⟨w.heap.size, 0, none⟩))).run Tryz.prog w1 = .ok (.tuple #[idV (xp : Nat) xl, .pointer (some (pi (xp, xl)))]) w1 at hen
      have HF1 := hideN (sweepOf_flip hap (left := left) hyb hlx)
      have HS : Hid (sweptOf st.bins (fun y => left y && !decide (y = (xp, xl))) = (hSweep bl).1 + Z) := by
        show _ = _
        rw [sweptOf_flip hap hyb hlx, HZ.out]
      obtain ⟨m1, m2⟩ := HNB.out (fun y => left y && !decide (y = (xp, xl)))
      rw [HS.out] at m1 m2
      have hw : IntKind.i64.wrap (Z + (hSweep bl).1) = Z + (hSweep bl).1 := by rw [IntKind.wrap_i64]; omega
      have HLT := hideN HH.out.lt
      have hrn : ¬ nFoot N mf mb vi Fj ⟨st.files, sweepOf st.bins left⟩ w.heap.size := fun hk => by
        rcases HFT.out _ hk with h | h
        · rw [HFE.out] at h
          have := HLT.out _ h
          omega
        · omega
      have ho1 : Off (fun k => k = w.heap.size) wr w1 := off_of_grown hg1 rfl
      have HN1 := hideN (HN.out.off ho1 (fun k hk e => hrn (e ▸ hk)))
      have HO1 : Hid (Off F w w1) := HO.out.trans ho1 (fun k hk e => by omega)
      have hmem : ((xp, xl), bl) ∈ sweepOf st.bins left := List.mem_map.2 ⟨_, hyb, by simp [hlx]⟩
      have HMEM := hideN hmem
      have HC := hideN (pSweep_any (pi (xp, xl)) (Fj (xp, xl)) bl w1 (HOK.out _ hyb) (HN1.out.bin _ hmem))
      have HPI : Hid (∃ q, q = pi (xp, xl)) := ⟨_, rfl⟩
      obtain ⟨q, hq⟩ : ∃ q, pi (xp, xl) = q := ⟨_, rfl⟩
      have HQ := hideN hq
      rw [hq] at HC hen
      obtain ⟨hb, hhb⟩ : ∃ hb, (hSweep bl).1 = hb := ⟨_, rfl⟩
      have HHB := hideN hhb
      rw [hhb] at HC hw m1 m2 HS
      have hrf : ¬ Fj (xp, xl) w.heap.size := fun hk => hrn (.inr (.inr (.inr (.inl ⟨_, hmem, hk⟩))))
      have hmf : ¬ Fj (xp, xl) mb := (HN1.out.apart _ hmem).2.2
      have HRF := hideN hrf
      have HMF := hideN hmf
      clear hM hr0 hg0 hm hye hq hhb hmem hrn ho1 hrf hmf HPI
      go_wp2_with fail
      refine HC.out.mono ?_
      rintro e w2 ⟨F2, rfl, hP2, hF2, ho2⟩
      have hrg2 : idBins.Rng w2 mb w.heap.size L (fun y => left y && !decide (y = (xp, xl))) cnt1 := rng_off hrg1 ho2 HMF.out HRF.out
      have hn2 := HN1.out.bin1 HMEM.out ho2 (by rw [HQ.out]; exact hP2) hF2
      rw [HF1.out] at hn2
      have HN2 := hideN hn2
      have hw1s : w.heap.size < w1.heap.size := hrg1.lt
      have HFT2 : Hid (∀ k, nFoot N mf mb vi (fun x => if x = (xp, xl) then F2 else Fj x) ⟨st.files, sweepOf st.bins (fun y => left y && !decide (y = (xp, xl)))⟩ k → F k ∨ w.heap.size < k) := fun k hk => by
        have hk' : nFoot N mf mb vi (fun x => if x = (xp, xl) then F2 else Fj x) ⟨st.files, binTo (sweepOf st.bins left) (xp, xl) (hSweep bl).2⟩ k := by rw [HF1.out]; exact hk
        rcases nFoot_bin1 (st := ⟨st.files, sweepOf st.bins left⟩) HMEM.out hF2 hk' with h | h
        · exact HFT.out k h
        · exact .inr (by omega)
      have HO2 : Hid (Off F w w2) := HO1.out.trans ho2 (fun k hk hf => by
        rcases HFT.out k (.inr (.inr (.inr (.inl ⟨_, HMEM.out, hf⟩)))) with h | h
        · exact h
        · omega)
      clear hn2 hP2 hF2 ho2 HC
      go_wp2_with fail
      go_roundw
      case rel => exact ⟨_, cnt1, _, by rw [HS.out, Int.add_comm], hrg2, HN2.out, HFT2.out, HO2.out⟩
      case measure => rw [hrg2.left_eq, hrg.left_eq]; exact hlt
end Go.Proofs.YtjdobbjdlighpabGreatDoor
