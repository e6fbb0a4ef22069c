/-
  Own text. CutWhole by a contract: it returns true; no old memory turns.
-/
import Derived.Test.YtjbnehgpadajkaaCutTells
import Derived.Deep.RegionHeld3
namespace Go.Proofs.Ytjbnehgpadajkaa
open Go.RowKit

/- A row that holds something: its slice written out. -/
theorem row_open {w : World} {base : Nat} {e : TypeId} {v : Value} {n : Nat} {xs : List Value} (h : w.ownsRow base e 1 v n xs) (hn : 1 ≤ n) :
    ∃ g cap, v = .slice (some ⟨g, 0, none⟩) n cap ∧ n ≤ cap ∧ cap ≤ maxLen ∧ g < w.heap.size ∧ ∀ j (hj : j < xs.length), w.cell? ⟨g, j, none⟩ = some xs[j] := by
  obtain ⟨p, c, hv, hc⟩ := CellsAt.of_row h
  obtain ⟨hl, h⟩ := h
  rw [Nat.mul_one] at hl
  rcases h with ⟨_, h0⟩ | ⟨g, cap, cur, rfl, hg, hb, h1, h2, h3, h4⟩
  · omega
  have hp : p = some ⟨g, 0, none⟩ := by
    have := hv
    simp at this
    exact this.1.symm
  refine ⟨g, cap, rfl, h1, h2, ?_, fun j hj => ?_⟩
  · obtain ⟨b, o, hp', hlt, _⟩ := hc 0 (by omega)
    rw [hp] at hp'
    cases hp'
    exact hlt
  · obtain ⟨b, o, hp', _, hcell⟩ := hc j hj
    rw [hp] at hp'
    cases hp'
    rw [Nat.zero_add] at hcell
    exact hcell
theorem sl_from (g n c i : Nat) (hi : i < n) (hc : n ≤ c) : ∃ P4 c4, (∀ w : World, (Instr.slice 25 (.slice (some ⟨g, 0, none⟩) n c) (some (.int .i64 ((i : Int) + 1))) none none).run Try.prog w = .ok (.slice P4 (n - (i + 1)) c4) w) ∧ (i + 1 < n → P4 = some ⟨g, i + 1, none⟩) := by
  have hj1 : (0 : Int) ≤ (i : Int) + 1 := by omega
  have hj2 : (i : Int) + 1 ≤ (n : Int) := by omega
  have hj4 : ((i : Int) + 1).toNat = i + 1 := by omega
  by_cases hcap : c = i + 1
  · refine ⟨some ⟨g, 0, none⟩, c - (i + 1), fun w => ?_, fun h => by omega⟩
    go_simp
  · refine ⟨some ⟨g, i + 1, none⟩, c - (i + 1), fun w => ?_, fun h => rfl⟩
    go_simp
theorem sl_upto (g n c i : Nat) (hi : i < n) (hc : n ≤ c) : ∀ w : World, (Instr.slice 25 (.slice (some ⟨g, 0, none⟩) n c) none (some (.int .i64 ((i : Int) + 1))) none).run Try.prog w = .ok (.slice (some ⟨g, 0, none⟩) (i + 1) c) w := by
  have hj1 : (0 : Int) ≤ (i : Int) + 1 := by omega
  have hj3 : (i : Int) + 1 ≤ (c : Int) := by omega
  have hj4 : ((i : Int) + 1).toNat = i + 1 := by omega
  intro w
  go_simp
theorem wrap_next (i n : Nat) (hi : i < n) (hn : (n : Int) ≤ 50000) : IntKind.i64.wrap ((i : Int) + 1) = (i : Int) + 1 := by
  rw [IntKind.wrap_i64]
  omega
theorem append_data (a b : ByteArray) : (a ++ b).data.toList = a.data.toList ++ b.data.toList := by
  rw [ByteArray.data_append, Array.toList_append]

set_option maxRecDepth 100000 in
set_option maxHeartbeats 4000000 in
theorem whole_loop (s : ByteArray) (at0 : Int) (hs : s.size ≤ 1500) (hne : s.data.toList ≠ []) (w : World) :
    Calls Try.prog 3 #[.string s, .int .i64 at0] w fun e w' => e = .returned (.bool true) ∧ Below w.heap.size w w' := by
  have hs' : ¬ (1500 : Int) < (s.size : Int) := by omega
  have hem : s.toList.isEmpty = false := by rw [Lib.toList_data, List.isEmpty_eq_false_iff]; exact hne
  have HNE : Hid (s.data.toList ≠ []) := hne
  have HS : Hid (s.size ≤ 50000) := Nat.le_trans hs (by decide)
  have HL : Hid ((pieces s.data.toList).length ≤ 50000) := Nat.le_trans (pieces_len_le _) (by rw [Array.length_toList]; exact HS.out)
  clear hs hne
  go_enter Try.func3, Try.ntmps3
  go_wp2_with fail
  refine (cutted_true _).mono ?_
  rintro e w1 ⟨rfl, hb1⟩
  go_wp2_with fail
  refine (cuts_any s HS.out _).mono ?_
  rintro e w2 ⟨v2, rfl, ho2, hb2⟩
  go_wp2_with fail
  refine (pieces_any s HS.out _).mono ?_
  rintro e w3 ⟨v3, rfl, ho3, hb3⟩
  have hn1 : 1 ≤ (pieces s.data.toList).length := by
    rcases Nat.eq_zero_or_pos (pieces s.data.toList).length with h0 | h0
    · exact (HNE.out ((pieces_eq_nil _).1 (List.eq_nil_of_length_eq_zero h0))).elim
    · exact h0
  obtain ⟨g2, c2, rfl, hl2, hm2, hg2, hcell2⟩ := row_open ho2 (by rw [cuts_length]; exact hn1)
  obtain ⟨g3, c3, rfl, hl3, hm3, hg3, hcell3⟩ := row_open ho3 hn1
  clear ho2 ho3
  rw [cuts_length] at hl2 ⊢
  have hb13 : Below w.heap.size w w3 := (hb1.trans (hb2.mono hb1.size)).trans (hb3.mono (hb1.trans (hb2.mono hb1.size)).size)
  have HC2 : Hid (∀ k (hk : k < (pieces s.data.toList).length), w3.cell? ⟨g2, k, none⟩ = some (.int .i64 (upto (pieces s.data.toList) (k + 1) : Nat))) := fun k hk => by
    have := hcell2 k (by rw [List.length_map, cuts_length]; exact hk)
    rw [List.getElem_map, cuts_at] at this
    exact (hb3.cell (p := ⟨g2, k, none⟩) hg2).trans this
  have HC3 : Hid (∀ k (hk : k < (pieces s.data.toList).length), w3.cell? ⟨g3, k, none⟩ = some (.string ⟨((pieces s.data.toList)[k]).toArray⟩)) := fun k hk => by
    have := hcell3 k (by rw [List.length_map]; exact hk)
    rw [List.getElem_map] at this
    exact this
  have hg2' : g2 < w3.heap.size := Nat.lt_of_lt_of_le hg2 hb3.size
  clear hcell2 hcell3 hb1 hb2 hb3 hg2
  obtain ⟨qs, hqs⟩ : ∃ qs, pieces s.data.toList = qs := ⟨_, rfl⟩
  rw [hqs] at HC2 HC3 hn1 hl2 hl3 HL ⊢
  have HQ : Hid (pieces s.data.toList = qs) := hqs
  clear hqs
  have hlq : (qs.length : Int) ≤ 50000 := by have := HL.out; omega
  have hlz : ((qs.length : Int) == 0) = false := by rw [beq_eq_false_iff_ne]; omega
  go_wp2_with fail
  go_loopw [8, 9] (fun v i wr => ∃ (k : Nat) (ab : ByteArray), k ≤ qs.length ∧ i = .int .i64 k ∧ v = .string ab ∧ ab.data.toList = (qs.take k).flatten ∧ wr = w3) (fun _ i _ => qs.length - (intOf i).toNat)
  case atStart => exact ⟨0, ⟨#[]⟩, Nat.zero_le _, rfl, rfl, rfl, rfl⟩
  case round =>
    obtain ⟨k, ab, hk, rfl, rfl, hab, rfl⟩ := hrel
    have HAB : Hid (ab.data.toList = (qs.take k).flatten) := hab
    clear hab
    by_cases hlt : k < qs.length
    · have hlt' : (k : Int) < (qs.length : Int) := by omega
      have hc2 := HC2.out k hlt
      have hc3 := HC3.out k hlt
      have hq := pieces_at s.data.toList k (by rw [HQ.out]; exact hlt)
      simp only [HQ.out] at hq
      obtain ⟨q, hqq⟩ : ∃ q : ByteArray, (⟨qs[k].toArray⟩ : ByteArray) = q := ⟨_, rfl⟩
      have hqs : qs[k].length = q.size := by rw [← hqq]; rfl
      have HQD : Hid (q.data.toList = qs[k]) := by show _ = _; rw [← hqq]
      rw [hqq] at hc3
      rw [hqs] at hq
      have HAQ : Hid ((ab ++ q).data.toList = (qs.take (k + 1)).flatten) := by
        show _ = _
        rw [append_data, HAB.out, HQD.out, List.take_succ_eq_append_getElem hlt, List.flatten_append]
        simp
      have hup : upto qs (k + 1) = ab.size + q.size := by
        rw [upto, ← HAQ.out, Array.length_toList]
        exact ByteArray.size_append
      have hsz : ab.size + q.size ≤ 50000 := by
        rw [← hup, ← HQ.out]
        exact Nat.le_trans (upto_le _ _) (by rw [Array.length_toList]; exact HS.out)
      rw [hup] at hc2
      have hqe : q.toList.isEmpty = false := by
        rw [Lib.toList_data, List.isEmpty_eq_false_iff]
        intro e
        have e2 := congrArg List.length e
        rw [HQD.out, hqs, List.length_nil] at e2
        omega
      obtain ⟨hq1, hq2, hq3⟩ := hq
      have hi1 : ¬ (64 : Int) < (q.size : Int) := by omega
      clear hqs hqq hup HQD
      by_cases h16 : q.size < 16
      · have hi2 : (q.size : Int) < 16 := by omega
        have hi3 : ¬ (k : Int) < (qs.length : Int) - 1 := by omega
        clear hq3
        go_wp2_with fail
        go_roundw
        case rel => exact ⟨k + 1, ab ++ q, by omega, by go_num, rfl, HAQ.out, trivial⟩
        case measure => simp [intOf]; omega
      · have hi2 : ¬ (q.size : Int) < 16 := by omega
        clear hq3
        go_wp2_with fail
        go_roundw
        case rel => exact ⟨k + 1, ab ++ q, by omega, by go_num, rfl, HAQ.out, trivial⟩
        case measure => simp [intOf]; omega
    · have hge : (qs.length : Int) ≤ (k : Int) := by omega
      have hkn : k = qs.length := by omega
      have hfl : ab = s := by
        apply ByteArray.ext
        apply Array.toList_inj.1
        rw [HAB.out, hkn, List.take_of_length_le (Nat.le_refl _), ← HQ.out, pieces_flatten]
      subst hfl hkn
      clear HAB hge hlt hk
      have hse : (ab.toList == ab.toList) = true := by simp
      by_cases h0 : at0 < 0
      · go_wp2_with fail
        go_ret
        exact ⟨rfl, hb13⟩
      · by_cases hN : (qs.length : Int) ≤ at0
        · go_wp2_with fail
          go_ret
          exact ⟨rfl, hb13⟩
        · obtain ⟨i, rfl⟩ := Int.eq_ofNat_of_zero_le (show 0 ≤ at0 by omega)
          have hi : i < qs.length := by omega
          have hi' : (i : Int) < (qs.length : Int) := by omega
          have hc2 := HC2.out i hi
          obtain ⟨c, hc⟩ : ∃ c, upto qs (i + 1) = c := ⟨_, rfl⟩
          rw [hc] at hc2
          have hcs : c ≤ ab.size := by rw [← hc, ← HQ.out]; exact Nat.le_trans (upto_le _ _) (by rw [Array.length_toList]; exact Nat.le_refl _)
          have hcs' : (c : Int) ≤ (ab.size : Int) := by omega
          clear h0 hN
          obtain ⟨P4, c4, hsl4, hP4⟩ : ∃ P4 c4, (∀ w : World, (Instr.slice 25 (.slice (some ⟨g3, 0, none⟩) qs.length c3) (some (.int .i64 ((i : Int) + 1))) none none).run Try.prog w = .ok (.slice P4 (qs.length - (i + 1)) c4) w) ∧ (i + 1 < qs.length → P4 = some ⟨g3, i + 1, none⟩) := sl_from g3 qs.length c3 i hi hl3
          have hsl5 : ∀ w : World, (Instr.slice 25 (.slice (some ⟨g3, 0, none⟩) qs.length c3) none (some (.int .i64 ((i : Int) + 1))) none).run Try.prog w = .ok (.slice (some ⟨g3, 0, none⟩) (i + 1) c3) w := sl_upto g3 qs.length c3 i hi hl3
          have hjw : IntKind.i64.wrap ((i : Int) + 1) = (i : Int) + 1 := wrap_next i qs.length hi hlq
          have HIQ : Hid (i < qs.length) := hi
          have HP4 : Hid (i + 1 < qs.length → P4 = some ⟨g3, i + 1, none⟩) := hP4
          clear hi hP4
          have HA : Hid (pieces (ab.extract c ab.size).data.toList = qs.drop (i + 1)) := by
            show _ = _
            rw [behind_data, ← hc, ← HQ.out]
            exact pieces_behind _ _ (by rw [HQ.out]; exact HIQ.out)
          have HB : Hid (pieces (ab.extract 0 c).data.toList = qs.take (i + 1)) := by
            show _ = _
            rw [show (ab.extract 0 c).data.toList = ab.data.toList.take c by rw [extract_strW]; simp, ← hc, ← HQ.out]
            exact pieces_ahead _ _ (by rw [HQ.out]; exact HIQ.out)
          have HSZ : Hid (∀ a b, (ab.extract a b).size ≤ 50000) := fun a b => by
            have h := HS.out
            rw [ByteArray.size_extract]
            omega
          have HCl : Hid (∀ w' : World, Below wr.heap.size wr w' → w'.cell? ⟨g2, i, none⟩ = some (.int .i64 (c : Nat))) := fun w' hb => (hb.cell (p := ⟨g2, i, none⟩) hg2').trans hc2
          have HCd : Hid (∀ w' : World, Below wr.heap.size wr w' → CellsAt w' (.slice P4 (qs.length - (i + 1)) c4) ((qs.drop (i + 1)).map txtV)) := fun w' hb => by
            refine CellsAt.below ⟨P4, c4, by rw [List.length_map, List.length_drop], fun j hj => ?_⟩ hb
            rw [List.length_map, List.length_drop] at hj
            refine ⟨g3, i + 1, HP4.out (by omega), hg3, ?_⟩
            rw [List.getElem_map, List.getElem_drop]
            exact HC3.out (i + 1 + j) (by omega)
          have HCt : Hid (∀ w' : World, Below wr.heap.size wr w' → CellsAt w' (.slice (some ⟨g3, 0, none⟩) (i + 1) c3) ((qs.take (i + 1)).map txtV)) := fun w' hb => by
            have hiq := HIQ.out
            refine CellsAt.below ⟨some ⟨g3, 0, none⟩, c3, by rw [List.length_map, List.length_take, Nat.min_eq_left hiq], fun j hj => ?_⟩ hb
            rw [List.length_map, List.length_take] at hj
            refine ⟨g3, 0, rfl, hg3, ?_⟩
            rw [List.getElem_map, List.getElem_take, Nat.zero_add]
            exact HC3.out j (by omega)
          have HLd : Hid (((qs.drop (i + 1)).length : Int) ≤ 9223372036854775807) := by show _ ≤ _; rw [List.length_drop]; have := HL.out; omega
          have HLt : Hid (((qs.take (i + 1)).length : Int) ≤ 9223372036854775807) := by show _ ≤ _; rw [List.length_take]; have := HL.out; omega
          clear hc hg2' hg3 HC2 HC3 HP4 hm2 hm3 HL HNE
          go_wp2_with fail
          clear hs' hem HS hlq hlz hse hn1 hl2 hl3 HIQ HQ
          go_region_held3 (fun w' => w'.cell? ⟨g2, i, none⟩ = some (.int .i64 (c : Nat))) (go_keep) (first
              | (go_at_call 7; refine (pieces_any _ (HSZ.out _ _) _).mono ?_; rintro e w4 ⟨v4, rfl, ho4, hb4⟩; rw [HA.out] at ho4; clear HA; have hB4 : Below wr.heap.size wr w4 := (Below.refl _ wr).drew.trans (hb4.mono (Nat.le_refl _)); have hc4 := HCl.out _ hB4)
              | (go_at_call 8; refine (sameTextsC _ _ (qs.drop (i + 1)) _ HLd.out (by exact CellsAt.of_row ho4) (by exact HCd.out _ hB4)).mono ?_; rintro e w5 ⟨rfl, hb5⟩; clear ho4; have hB5 : Below wr.heap.size wr w5 := hB4.trans (hb5.mono hB4.size); have hc5 := HCl.out _ hB5)
              | (go_at_call 7; refine (pieces_any _ (HSZ.out _ _) _).mono ?_; rintro e w6 ⟨v6, rfl, ho6, hb6⟩; rw [HB.out] at ho6; have hB6 : Below wr.heap.size wr w6 := hB5.trans (hb6.mono hB5.size); have hc6 := HCl.out _ hB6)
              | (go_at_call 8; refine (sameTextsC _ _ (qs.take (i + 1)) _ HLt.out (by exact CellsAt.of_row ho6) (by exact HCt.out _ hB6)).mono ?_; rintro e w7 ⟨rfl, hb7⟩; have hB7 : Below wr.heap.size wr w7 := hB6.trans (hb7.mono hB6.size); have hc7 := HCl.out _ hB7))
          all_goals go_wp2_with fail
          all_goals go_ret
          all_goals exact ⟨rfl, hb13.trans (hB7.mono hb13.size)⟩

set_option maxRecDepth 100000 in
set_option maxHeartbeats 4000000 in
theorem whole_empty (at0 : Int) (w : World) :
    Calls Try.prog 3 #[.string ⟨#[]⟩, .int .i64 at0] w fun e w' => e = .returned (.bool true) ∧ Below w.heap.size w w' := by
  go_enter Try.func3, Try.ntmps3
  go_wp2_with fail
  refine (cutted_true _).mono ?_
  rintro e w1 ⟨rfl, hb1⟩
  go_wp2_with fail
  refine (cuts_any ⟨#[]⟩ (by decide) _).mono ?_
  rintro e w2 ⟨v2, rfl, ho2, hb2⟩
  obtain ⟨p2, c2, hv2, _⟩ := CellsAt.of_row ho2
  have e2 : (((cuts (⟨#[]⟩ : ByteArray).data.toList).map fun n => intV ((n : Nat) : Int))).length = 0 := rfl
  rw [e2] at hv2
  subst hv2
  clear ho2 e2
  go_wp2_with fail
  refine (pieces_any ⟨#[]⟩ (by decide) _).mono ?_
  rintro e w3 ⟨v3, rfl, ho3, hb3⟩
  obtain ⟨p3, c3, hv3, _⟩ := CellsAt.of_row ho3
  have e3 : ((pieces (⟨#[]⟩ : ByteArray).data.toList).map strW).length = 0 := rfl
  rw [e3] at hv3
  subst hv3
  clear ho3 e3
  have hb13 : Below w.heap.size w w3 := (hb1.trans (hb2.mono hb1.size)).trans (hb3.mono (hb1.trans (hb2.mono hb1.size)).size)
  clear hb1 hb2 hb3
  go_wp2_with fail
  go_loopw [8, 9] (fun v i wr => i = .int .i64 0 ∧ v = .string ⟨#[]⟩ ∧ wr = w3) (fun _ _ _ => 0)
  case atStart => exact ⟨rfl, rfl, rfl⟩
  case round =>
    obtain ⟨rfl, rfl, rfl⟩ := hrel
    by_cases h0 : at0 < 0
    · go_wp2_with fail
      go_ret
      exact ⟨rfl, hb13⟩
    · have h1 : (0 : Int) ≤ at0 := by omega
      go_wp2_with fail
      go_ret
      exact ⟨rfl, hb13⟩

set_option maxRecDepth 100000 in
set_option maxHeartbeats 4000000 in
theorem cutWhole_true (s : ByteArray) (at0 : Int) (w : World) :
    Calls Try.prog 3 #[.string s, .int .i64 at0] w fun e w' => e = .returned (.bool true) ∧ Below w.heap.size w w' := by
  by_cases hs : s.size ≤ 1500
  · by_cases he : s = ⟨#[]⟩
    · subst he
      exact whole_empty at0 w
    · exact whole_loop s at0 hs (fun e => he (ByteArray.ext (Array.toList_inj.1 e))) w
  · have hs' : (1500 : Int) < (s.size : Int) := by omega
    go_enter Try.func3, Try.ntmps3
    go_wp2_with fail
    refine (cutted_true _).mono ?_
    rintro e w1 ⟨rfl, hb1⟩
    go_wp2_with fail
    go_ret
    exact ⟨rfl, hb1⟩
end Go.Proofs.Ytjbnehgpadajkaa
