/-
  Own text. The document's FillFault by a contract.
-/
import Derived.Test.YtmjdgakokldliaaGreatDoorBinHelds
import Derived.Test.YtmjdgakokldliaaGreatDoorRecName
namespace Go.Proofs.YtmjdgakokldliaaGreatDoor
open Go.RowKit

def oddHeld (h : Hd) : Prop := h.2.2.length < 1 ∨ 64 < h.2.2.length ∨ h.2.1 < 0
def fillE (l : List Hd) (i : Nat) : Int :=
  match l[i]? with
  | none => 0
  | some h => if h.2.2.length < 1 ∨ 64 < h.2.2.length ∨ h.2.1 < 0 then 2 else markE l i
def fillFrom (l : List Hd) : Nat → Nat → Int × Int
  | _, 0 => (0, -1)
  | i, n + 1 => if 0 < fillE l i then (fillE l i, (i : Int)) else fillFrom l (i + 1) n
def fillF (l : List Hd) : Int × Int := if 250 < l.length then (7, -1) else fillFrom l 0 l.length
theorem markE_cases (l : List Hd) (i : Nat) : markE l i = 0 ∨ markE l i = 8 ∨ markE l i = 9 := by
  unfold markE
  split
  · exact .inl rfl
  · split
    · exact .inr (.inr rfl)
    · split
      · exact .inl rfl
      · split
        · exact .inl rfl
        · split
          · exact .inl rfl
          · exact .inr (.inl rfl)
theorem fillFrom_at (l : List Hd) : ∀ (n i k : Nat), k < n → (∀ j, i ≤ j → j < i + k → ¬ 0 < fillE l j) → 0 < fillE l (i + k) → fillFrom l i n = (fillE l (i + k), ((i + k : Nat) : Int))
  | 0, _, _, h, _, _ => by omega
  | n + 1, i, 0, _, _, h => by
    have h' : 0 < fillE l i := h
    rw [fillFrom, if_pos h']
    rfl
  | n + 1, i, k + 1, h, ha, he => by
    rw [fillFrom, if_neg (ha i (Nat.le_refl _) (by omega)), fillFrom_at l n (i + 1) k (by omega) (fun j h1 h2 => ha j (by omega) (by omega)) (by rw [show i + 1 + k = i + (k + 1) by omega]; exact he), show i + 1 + k = i + (k + 1) by omega]
theorem fillFrom_none (l : List Hd) : ∀ (n i : Nat), (∀ j, i ≤ j → j < i + n → ¬ 0 < fillE l j) → fillFrom l i n = (0, -1)
  | 0, _, _ => rfl
  | n + 1, i, ha => by rw [fillFrom, if_neg (ha i (Nat.le_refl _) (by omega)), fillFrom_none l n (i + 1) (fun j h1 h2 => ha j (by omega) (by omega))]

set_option maxRecDepth 100000 in
set_option maxHeartbeats 4000000 in
theorem fillFault_any (v : Value) (l : List Hd) (w : World) (hlen : l.length ≤ 50000) (ht : ∀ h ∈ l, h.2.2.length ≤ 50000) (hv : HeldsAt w v l) :
    Calls Tryz.prog 40 #[v] w fun e w' => e = .returned (faultV (fillF l).1 (fillF l).2) ∧ Below w.heap.size w w' := by
  have HV : Hid (HeldsAt w v l) := hv
  obtain ⟨p, c, rfl, _⟩ := hv
  have HLN : Hid (l.length ≤ 50000) := hlen
  have HTN : Hid (∀ h ∈ l, h.2.2.length ≤ 50000) := ht
  have hl2 : (l.length : Int) ≤ 50000 := by omega
  have hX := Blk.new w #[.int .i64 0, .int .i64 0] 46
  have hal := (Below.refl w.heap.size w).alloc (Nat.le_refl _) (.cells #[.int .i64 0, .int .i64 0] 46)
  have HX : Hid (Blk (w.alloc (.cells #[.int .i64 0, .int .i64 0] 46)) w.heap.size #[.int .i64 0, .int .i64 0] 46) := hX
  have HAL : Hid (Below w.heap.size w (w.alloc (.cells #[.int .i64 0, .int .i64 0] 46))) := hal
  clear hlen ht hX hal
  by_cases h3 : 250 < l.length
  · have h3' : (250 : Int) < (l.length : Int) := by omega
    have HR : Hid (fillF l = (7, -1)) := by show _ = _; unfold fillF; rw [if_pos h3]
    clear h3
    go_enter Tryz.func40, Tryz.ntmps40
    go_wp2_with fail
    refine (bare_any 7 _).mono ?_
    rintro e w2 ⟨rfl, hb2⟩
    have hX2 := HX.out.next hb2
    have k0 := hX2.cell (i := 0) rfl
    have k1 := hX2.cell (i := 1) rfl
    have f0 := hX2.frozen 0
    have f1 := hX2.frozen 1
    have HB2 : Hid (Below w.heap.size w w2) := HAL.out.trans (hb2.mono (by simp))
    clear hb2 hX2
    go_wp2_with fail
    exact bodyPost_ret (v := faultV 7 (-1)) (by simp [results, Tryz.results40, go_sem, k0, k1]) rfl ⟨by rw [HR.out], (HB2.out.setCell (p := ⟨w.heap.size, 0, none⟩) (Nat.le_refl _) _).setCell (p := ⟨w.heap.size, 1, none⟩) (Nat.le_refl _) _⟩
  · have h3' : ¬ (250 : Int) < (l.length : Int) := by omega
    have HF : Hid (fillF l = fillFrom l 0 l.length) := by show _ = _; unfold fillF; rw [if_neg h3]
    clear h3
    go_enter Tryz.func40, Tryz.ntmps40
    go_wp2_with fail
    go_loopw [3] (fun i wr => ∃ j : Nat, j ≤ l.length ∧ i = .int .i64 j ∧ (∀ k, k < j → ¬ 0 < fillE l k) ∧ Below w.heap.size w wr ∧ Blk wr w.heap.size #[.int .i64 0, .int .i64 0] 46) (fun i _ => l.length - (intOf i).toNat)
    case atStart => exact ⟨0, Nat.zero_le _, rfl, fun k h => by omega, HAL.out, HX.out⟩
    case round =>
      clear HX HAL
      obtain ⟨j, hj, rfl, hno, hbr, hX⟩ := hrel
      have HNO : Hid (∀ k, k < j → ¬ 0 < fillE l k) := hno
      have HBR : Hid (Below w.heap.size w wr) := hbr
      have HX : Hid (Blk wr w.heap.size #[.int .i64 0, .int .i64 0] 46) := hX
      clear hno hbr hX
      by_cases hlt : j < l.length
      · have hlt' : (j : Int) < (l.length : Int) := by omega
        have hj0 : (0 : Int) ≤ (j : Int) := by omega
        have HLK : Hid (l[j]? = some (l[j]'hlt)) := List.getElem?_eq_getElem hlt
        have HHIT : Hid (0 < fillE l j → fillF l = (fillE l j, (j : Int))) := fun h => by
          have := fillFrom_at l l.length 0 j hlt (fun k _ hk => HNO.out k (by omega)) (by rw [Nat.zero_add]; exact h)
          rw [HF.out, this, Nat.zero_add]
        have HMISS : Hid (¬ 0 < fillE l j → ∀ k, k < j + 1 → ¬ 0 < fillE l k) := fun h k hk => by
          rcases Nat.lt_or_ge k j with h' | h'
          · exact HNO.out k h'
          · obtain rfl : k = j := by omega
            exact h
        have hmt := HTN.out _ (List.getElem_mem hlt)
        have HMT : Hid ((l[j]'hlt).2.2.length ≤ 50000) := hmt
        have HFE : Hid (fillE l j = if (l[j]'hlt).2.2.length < 1 ∨ 64 < (l[j]'hlt).2.2.length ∨ (l[j]'hlt).2.1 < 0 then 2 else markE l j) := by show _ = _; unfold fillE; rw [HLK.out]
        have HMC : Hid (markE l j = 0 ∨ markE l j = 8 ∨ markE l j = 9) := markE_cases l j
        go_wp2_with fail
        refine (marked_any _ l j wr hlt HLN.out hmt (HV.out.below HBR.out)).mono ?_
        rintro e w2 ⟨rfl, hb2⟩
        have HB2 : Hid (Below w.heap.size w w2) := HBR.out.trans (hb2.mono HBR.out.size)
        have HX2 : Hid (Blk w2 w.heap.size #[.int .i64 0, .int .i64 0] 46) := HX.out.next hb2
        have k0 := HX2.out.cell (i := 0) rfl
        have k1 := HX2.out.cell (i := 1) rfl
        have f0 := HX2.out.frozen 0
        have f1 := HX2.out.frozen 1
        obtain ⟨_, _, hve, hcell⟩ := HV.out.below HB2.out
        obtain ⟨rfl, rfl⟩ : p = _ ∧ c = _ := by simpa using hve
        obtain ⟨b, o, rfl, _, _, _, c2, c3⟩ := hcell j hlt
        obtain ⟨t, htt⟩ : ∃ t : ByteArray, (⟨(l[j]'hlt).2.2.toArray⟩ : ByteArray) = t := ⟨_, rfl⟩
        have hts : t.size = (l[j]'hlt).2.2.length := by rw [← htt]; simp [ByteArray.size]
        rw [htt] at c3
        obtain ⟨u, hu⟩ : ∃ u, (l[j]'hlt).2.1 = u := ⟨_, rfl⟩
        rw [hu] at c2 HFE
        rw [← hts] at HFE
        obtain ⟨m, hm⟩ : ∃ m, markE l j = m := ⟨_, rfl⟩
        rw [hm] at HFE HMC ⊢
        clear htt hts hu hm hmt hcell hve hb2 HX HBR HLK HMT
        by_cases g1 : t.size < 1
        · have g1' : (t.size : Int) < 1 := by omega
          have HE : Hid (fillE l j = 2) := by show _ = _; rw [HFE.out, if_pos (.inl g1)]
          have HR : Hid (fillF l = (2, (j : Int))) := by
            have := HHIT.out (by rw [HE.out]; decide)
            rwa [HE.out] at this
          clear HHIT HMISS HFE HMC HNO
          go_wp2_with fail
          exact bodyPost_ret (v := faultV 2 (j : Int)) (by simp [results, Tryz.results40, go_sem, k0, k1]) rfl ⟨by rw [HR.out], (HB2.out.setCell (p := ⟨w.heap.size, 0, none⟩) (Nat.le_refl _) _).setCell (p := ⟨w.heap.size, 1, none⟩) (Nat.le_refl _) _⟩
        · have g1' : ¬ (t.size : Int) < 1 := by omega
          by_cases g2 : 64 < t.size
          · have g2' : (64 : Int) < (t.size : Int) := by omega
            have HE : Hid (fillE l j = 2) := by show _ = _; rw [HFE.out, if_pos (.inr (.inl g2))]
            have HR : Hid (fillF l = (2, (j : Int))) := by
              have := HHIT.out (by rw [HE.out]; decide)
              rwa [HE.out] at this
            clear HHIT HMISS HFE HMC HNO
            go_wp2_with fail
            exact bodyPost_ret (v := faultV 2 (j : Int)) (by simp [results, Tryz.results40, go_sem, k0, k1]) rfl ⟨by rw [HR.out], (HB2.out.setCell (p := ⟨w.heap.size, 0, none⟩) (Nat.le_refl _) _).setCell (p := ⟨w.heap.size, 1, none⟩) (Nat.le_refl _) _⟩
          · have g2' : ¬ (64 : Int) < (t.size : Int) := by omega
            by_cases g3 : u < 0
            · have HE : Hid (fillE l j = 2) := by show _ = _; rw [HFE.out, if_pos (.inr (.inr g3))]
              have HR : Hid (fillF l = (2, (j : Int))) := by
                have := HHIT.out (by rw [HE.out]; decide)
                rwa [HE.out] at this
              clear HHIT HMISS HFE HMC HNO
              go_wp2_with fail
              exact bodyPost_ret (v := faultV 2 (j : Int)) (by simp [results, Tryz.results40, go_sem, k0, k1]) rfl ⟨by rw [HR.out], (HB2.out.setCell (p := ⟨w.heap.size, 0, none⟩) (Nat.le_refl _) _).setCell (p := ⟨w.heap.size, 1, none⟩) (Nat.le_refl _) _⟩
            · have HE0 : Hid (fillE l j = m) := by show _ = _; rw [HFE.out, if_neg (by omega)]
              have HMM : Hid (m = 0 ∨ m = 8 ∨ m = 9) := HMC.out
              clear HMC HFE
              rcases HMM.out with rfl | rfl | rfl
              · have HN : Hid (∀ k, k < j + 1 → fillE l k ≤ 0) := HMISS.out (by rw [HE0.out]; decide)
                clear HHIT HMISS HMM HNO
                go_wp2_with fail
                go_roundw
                case rel => exact ⟨j + 1, by omega, by go_num, fun k hk => by have := HN.out k hk; omega, HB2.out, HX2.out⟩
                case measure => simp [intOf]; omega
              · have HE : Hid (fillE l j = 8) := HE0.out
                have HFE := HE
                have HMC := HE
                have HR : Hid (fillF l = (8, (j : Int))) := by
                  have := HHIT.out (by rw [HE.out]; decide)
                  rwa [HE.out] at this
                clear HHIT HMISS HFE HMC HNO
                go_wp2_with fail
                exact bodyPost_ret (v := faultV 8 (j : Int)) (by simp [results, Tryz.results40, go_sem, k0, k1]) rfl ⟨by rw [HR.out], (HB2.out.setCell (p := ⟨w.heap.size, 0, none⟩) (Nat.le_refl _) _).setCell (p := ⟨w.heap.size, 1, none⟩) (Nat.le_refl _) _⟩
              · have HE : Hid (fillE l j = 9) := HE0.out
                have HFE := HE
                have HMC := HE
                have HR : Hid (fillF l = (9, (j : Int))) := by
                  have := HHIT.out (by rw [HE.out]; decide)
                  rwa [HE.out] at this
                clear HHIT HMISS HFE HMC HNO
                go_wp2_with fail
                exact bodyPost_ret (v := faultV 9 (j : Int)) (by simp [results, Tryz.results40, go_sem, k0, k1]) rfl ⟨by rw [HR.out], (HB2.out.setCell (p := ⟨w.heap.size, 0, none⟩) (Nat.le_refl _) _).setCell (p := ⟨w.heap.size, 1, none⟩) (Nat.le_refl _) _⟩
      · have hge : ¬ ((j : Int) < (l.length : Int)) := by omega
        have HR : Hid (fillF l = (0, -1)) := by show _ = _; rw [HF.out, fillFrom_none l l.length 0 (fun k _ hk => HNO.out k (by omega))]
        go_wp2_with fail
        refine (fine_any _).mono ?_
        rintro e w2 ⟨rfl, hb2⟩
        have hX2 := HX.out.next hb2
        have k0 := hX2.cell (i := 0) rfl
        have k1 := hX2.cell (i := 1) rfl
        have f0 := hX2.frozen 0
        have f1 := hX2.frozen 1
        have HB2 : Hid (Below w.heap.size w w2) := HBR.out.trans (hb2.mono HBR.out.size)
        clear hb2 hX2
        go_wp2_with fail
        exact bodyPost_ret (v := faultV 0 (-1)) (by simp [results, Tryz.results40, go_sem, k0, k1]) rfl ⟨by rw [HR.out], (HB2.out.setCell (p := ⟨w.heap.size, 0, none⟩) (Nat.le_refl _) _).setCell (p := ⟨w.heap.size, 1, none⟩) (Nat.le_refl _) _⟩
end Go.Proofs.YtmjdgakokldliaaGreatDoor
