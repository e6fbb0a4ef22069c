/-
  Own text. The document's bin by contracts: Put whatever the text; Sweep.
-/
import Derived.Test.YtpkaflbdcoffdaaDoorBinPutNew
namespace Go.Proofs.YtpkaflbdcoffdaaDoor
open Go.RowKit

theorem rPut_any (B : Nat) (v : Value) (l : List Hd) (s : ByteArray) (w : World) (hn : l.length ≤ 250) (hu : ∀ h ∈ l, 0 ≤ h.2.1 ∧ h.2.1 ≤ 1000000) (h : RBin w B v l) :
    Calls Tryd.prog 37 #[.pointer (some ⟨B, 0, none⟩), .string s] w (PutPost w B v (hPut l s.data.toList)) := by
  by_cases hs : s.size < 1 ∨ 64 < s.size
  · exact rPut_bound B v l s w hs h
  · cases hf : hFind l (idOfL s.data.toList) with
    | some k => exact rPut_found B v l s w (by omega) (by omega) (by unfold maxLen; omega) hu k hf h
    | none =>
      by_cases hl : 250 ≤ l.length
      · exact rPut_full B v l s w (by omega) (by omega) (by unfold maxLen; omega) hf hl h
      · exact rPut_new B v l s w (by omega) (by omega) hf (by omega) h

theorem filter_snoc {p : Hd → Bool} (l : List Hd) (k : Nat) (h : k < l.length) : (l.take (k + 1)).filter p = (l.take k).filter p ++ (if p l[k] = true then [l[k]] else []) := by
  rw [List.take_succ_eq_append_getElem h, List.filter_append]
  congr 1
  by_cases hp : p l[k] = true
  · simp [hp]
  · simp [hp]

set_option maxRecDepth 100000 in
set_option maxHeartbeats 4000000 in
theorem rSweep_any (B : Nat) (v : Value) (l : List Hd) (w : World) (hn : l.length ≤ 250) (hs : ∀ h ∈ l, 0 ≤ h.1.2 ∧ h.1.2 ≤ 64) (h : RBin w B v l) :
    Calls Tryd.prog 39 #[.pointer (some ⟨B, 0, none⟩)] w fun e w' => ∃ v', e = .returned (.int .i64 (hSweep l).1) ∧ RBin w' B v' (hSweep l).2 ∧ (∀ k, v'.ownBlock = some k → w.heap.size ≤ k) ∧ Off (RBin.Of B v) w w' := by
  obtain ⟨ti, hi, hz0, hz1, hz2⟩ := info_parts infoHeld
  obtain ⟨pa, c, hv, hcell⟩ := h.at
  have HR : Hid (RBin w B v l) := h
  have hB0 := h.blk.cell (i := 0) rfl
  have hBf := h.blk.frozen 0
  have hBl := h.blk.lt
  rw [hv] at hB0
  have hl2 : (l.length : Int) ≤ 250 := by omega
  have HL : Hid (l.length ≤ 250) := hn
  have HC : Hid (∀ W', Below w.heap.size w W' → ∀ i (h : i < l.length), ∃ b o, pa = some ⟨b, o, none⟩ ∧ W'.cell? ⟨b, o + i * 4, none⟩ = some (.int .u32 (l[i].1.1 : Nat)) ∧ W'.cell? ⟨b, o + i * 4 + 1, none⟩ = some (.int .i64 l[i].1.2) ∧
    W'.cell? ⟨b, o + i * 4 + 2, none⟩ = some (.int .i64 l[i].2.1) ∧ W'.cell? ⟨b, o + i * 4 + 3, none⟩ = some (.string ⟨l[i].2.2.toArray⟩)) := fun W' hb i hi => by
    obtain ⟨b, o, hp, ⟨hl', _⟩, a0, a1, a2, a3⟩ := hcell i hi
    exact ⟨b, o, hp, (hb.cell (p := ⟨b, o + i * 4, none⟩) hl').trans a0, (hb.cell (p := ⟨b, o + i * 4 + 1, none⟩) hl').trans a1, (hb.cell (p := ⟨b, o + i * 4 + 2, none⟩) hl').trans a2, (hb.cell (p := ⟨b, o + i * 4 + 3, none⟩) hl').trans a3⟩
  have HB : Hid (∀ k, k ≤ l.length → 0 ≤ hSize ((l.take k).filter unused) ∧ hSize ((l.take k).filter unused) ≤ 16000) := fun k hk => by
    have := hSize_bound ((l.take k).filter unused) 64 (by decide) (fun h hm => hs h (List.mem_of_mem_take (List.mem_filter.1 hm).1))
    have h2 := List.length_filter_le unused (l.take k)
    rw [List.length_take, Nat.min_eq_left hk] at h2
    omega
  have HKL : Hid (∀ k, k ≤ l.length → ((l.take k).filter (fun h => !unused h)).length ≤ k) := fun k hk => by
    have h2 := List.length_filter_le (fun h => !unused h) (l.take k)
    rw [List.length_take, Nat.min_eq_left hk] at h2
    exact h2
  have HS : Hid (∀ h ∈ l, 0 ≤ h.1.2 ∧ h.1.2 ≤ 64) := hs
  clear hcell h hn hs
  go_enter Tryd.func39, Tryd.ntmps39
  go_wp2_with fail
  go_loopw [3, 4, 5] (fun n u i wr => ∃ j : Nat, j ≤ l.length ∧ i = .int .i64 j ∧ n = .int .i64 (hSize ((l.take j).filter unused)) ∧ Below w.heap.size w wr ∧ wr.ownsRow w.heap.size 77 4 u ((l.take j).filter (fun h => !unused h)).length (heldCells ((l.take j).filter (fun h => !unused h)))) (fun _ _ i _ => l.length - (intOf i).toNat)
  case atStart => exact ⟨0, Nat.zero_le _, rfl, rfl, Below.refl _ _, World.ownsRow_nil _ _ _ _⟩
  case round =>
    obtain ⟨j, hj, rfl, rfl, hbr, hown⟩ := hrel
    have q0 := (hbr.cell (p := ⟨B, 0, none⟩) hBl).trans hB0
    have HBR : Hid (Below w.heap.size w wr) := hbr
    have HO : Hid (wr.ownsRow w.heap.size 77 4 u4 ((l.take j).filter (fun h => !unused h)).length (heldCells ((l.take j).filter (fun h => !unused h)))) := hown
    obtain ⟨p4, c4, hu4, _⟩ := HeldsAt.of_row hown
    have HU4 : Hid (u4 = .slice p4 ((l.take j).filter (fun h => !unused h)).length c4) := hu4
    clear hown hbr hu4
    by_cases hlt : j < l.length
    · have hlt' : (j : Int) < (l.length : Int) := by omega
      obtain ⟨b, o, rfl, a0, a1, a2, a3⟩ := HC.out wr HBR.out j hlt
      have HF1 : Hid ((l.take (j + 1)).filter unused = (l.take j).filter unused ++ (if unused l[j] = true then [l[j]] else [])) := filter_snoc l j hlt
      have HF2 : Hid ((l.take (j + 1)).filter (fun h => !unused h) = (l.take j).filter (fun h => !unused h) ++ (if (!unused l[j]) = true then [l[j]] else [])) := filter_snoc l j hlt
      obtain ⟨n1, n2⟩ := HB.out j hj
      obtain ⟨m1, m2⟩ := HB.out (j + 1) hlt
      have HK := HKL.out j hj
      by_cases hz : l[j].2.1 = 0
      · have hun : unused l[j] = true := by unfold unused; rw [hz]; rfl
        have HE1 : Hid (hSize ((l.take (j + 1)).filter unused) = hSize ((l.take j).filter unused) + l[j].1.2) := by
          show _ = _
          rw [HF1.out, hun, if_pos rfl, hSize, List.map_append, List.sum_append]
          simp [hSize]
        have HE2 : Hid ((l.take (j + 1)).filter (fun h => !unused h) = (l.take j).filter (fun h => !unused h)) := by show _ = _; rw [HF2.out, hun]; simp
        rw [HE1.out] at m1 m2
        rw [hz] at a2
        clear HF1 HF2 hun hz HK
        generalize hSize ((l.take j).filter unused) = n at *
        obtain ⟨y, hy⟩ : ∃ y, l[j].1.2 = y := ⟨_, rfl⟩
        rw [hy] at a1 m1 m2 HE1
        clear hy a0 a3
        have HW : IntKind.i64.wrap (n + y) = n + y := by rw [IntKind.wrap_i64]; omega
        go_wp2_with fail
        go_roundw
        case rel => exact ⟨j + 1, by omega, by go_num, by rw [HE1.out], HBR.out, by rw [HE2.out]; exact HO.out⟩
        case measure => simp [intOf]; omega
      · have hun : unused l[j] = false := by unfold unused; exact decide_eq_false hz
        have HE1 : Hid (hSize ((l.take (j + 1)).filter unused) = hSize ((l.take j).filter unused)) := by show _ = _; rw [HF1.out, hun]; simp
        have HE2 : Hid ((l.take (j + 1)).filter (fun h => !unused h) = (l.take j).filter (fun h => !unused h) ++ [l[j]]) := by show _ = _; rw [HF2.out, hun]; simp
        have hz' : (l[j].2.1 == 0) = false := beq_eq_false_iff_ne.2 hz
        clear HF1 HF2 hun hz m1 m2 n1 n2
        obtain ⟨y, hy⟩ : ∃ y, l[j] = y := ⟨_, rfl⟩
        rw [hy] at a0 a1 a2 a3 HE2 hz'
        clear hy
        generalize hSize ((l.take j).filter unused) = n at *
        generalize (l.take j).filter (fun h => !unused h) = ks at *
        have HKK : Hid (ks.length ≤ j) := HK
        clear HK
        have HJL : Hid (j < l.length) := hlt
        go_wp2_with (at_builtin; refine wpList_append_own _ rfl (.tmp 35) (.tmp 43) 63 rfl w.heap.size 77 ti (heldV ((0, 0), 0, [])) 4 40 Tryd.underlying63 hi hz0 hz1 hz2 rfl (by decide) u4 ks.length (heldCells ks) rfl (HO.out.alloc _) ⟨wr.heap.size, 0, none⟩ 1 1 (heldCells [y]) rfl rfl (four_new wr y _ _ rfl) (heldCells_one _) (by have := HL.out; have := HKK.out; have := HJL.out; unfold maxLen; omega) (by have := HL.out; have := HKK.out; have := HJL.out; omega) (by have := HBR.out.size; simp; omega) ?_; intro v5 w5 ho5 hg5 _; have hB5 : Below w.heap.size w w5 := (HBR.out.alloc HBR.out.size _).grown hg5 (by have := HBR.out.size; simp; omega) (fun k hk => (HO.out.lt k hk).1); have HO5 : Hid (w5.ownsRow w.heap.size 77 4 v5 (ks.length + 1) (heldCells ks ++ heldCells [y])) := ho5; have HB5 : Hid (Below w.heap.size w w5) := hB5; clear hg5 ho5 hB5)
        go_roundw
        case rel => exact ⟨j + 1, by omega, by go_num, by rw [HE1.out], HB5.out, by rw [HE2.out, heldCells_append, List.length_append]; exact HO5.out⟩
        case measure => simp [intOf]; omega
    · have hge : ¬ ((j : Int) < (l.length : Int)) := by omega
      have HT : Hid (l.take j = l) := List.take_of_length_le (by omega)
      rw [HT.out] at HO HU4 ⊢
      have e2 : Hid (hSweep l = (hSize (l.filter unused), l.filter (fun h => !unused h))) := rfl
      generalize hSize (l.filter unused) = n at *
      generalize l.filter (fun h => !unused h) = ks at *
      have hf := (HBR.out.frozen (p := ⟨B, 0, none⟩) hBl).trans hBf
      obtain rfl := HU4.out
      go_wp2_with fail
      go_ret
      refine ⟨by rw [e2.out]; rfl, .slice p4 ks.length c4, ?_, fun k hk => (HO.out.lt k hk).1, (Off.of_below HBR.out).setCell (p := ⟨B, 0, none⟩) (.inl (.inl rfl)) _⟩
      rw [e2.out]
      exact ⟨(HR.out.blk.below HBR.out hBl).set 0 _, ownsRow_low (ownsRow_setCell_below HO.out (a := ⟨B, 0, none⟩) hBl _) (Nat.zero_le _)⟩
end Go.Proofs.YtpkaflbdcoffdaaDoor
