/-
  Own text. The document's CutsOf by a contract: the ends, in new memory.
-/
import Derived.Test.YtjbnehgpadajkaaCutRef
namespace Go.Proofs.Ytjbnehgpadajkaa
open Go.RowKit

set_option maxRecDepth 100000 in
set_option maxHeartbeats 4000000 in
theorem cutsOf_any (s : ByteArray) (hs : s.size ≤ 50000) (w : World) :
    Calls Try.prog 10 #[.string s] w fun e w' => ∃ v, e = .returned v ∧ w'.ownsRow w.heap.size 3 1 v (cuts s.data.toList).length ((cuts s.data.toList).map fun n => intV ((n : Nat) : Int)) ∧ Below w.heap.size w w' := by
  obtain ⟨i0, hi, hz0, hz1, hz2⟩ := info_parts infoInt
  have HSL : Hid (s.data.toList.length = s.size) := by show _ = _; rw [Array.length_toList]; rfl
  have hfl : (pieces s.data.toList).flatten.length ≤ 50000 := by rw [pieces_flatten, HSL.out]; exact hs
  have hpl : (pieces s.data.toList).length ≤ 50000 := Nat.le_trans (pieces_len_le _) (by rw [HSL.out]; exact hs)
  have hP := piecesOf_any s hs
  rw [show cuts s.data.toList = endsFrom 0 (pieces s.data.toList) from rfl, endsFrom_length]
  generalize pieces s.data.toList = qs at *
  have HP : Hid (∀ (w : World), Calls Try.prog 11 #[.string s] w fun e w' => ∃ v, e = .returned v ∧ w'.ownsRow w.heap.size 9 1 v qs.length (qs.map strW) ∧ Below w.heap.size w w') := hP
  clear hP
  go_enter Try.func10, Try.ntmps10
  go_wp2_with fail
  refine (HP.out _).mono ?_
  clear HP
  rintro e w0 ⟨v0, rfl, hown0, hb0⟩
  obtain ⟨p0, c0, rfl, hcell⟩ := CellsAt.of_row hown0
  simp only [List.length_map, List.getElem_map] at hcell ⊢
  clear hown0
  have HFL : Hid (qs.flatten.length ≤ 50000) := hfl
  have HPL : Hid (qs.length ≤ 50000) := hpl
  have hpl' : (qs.length : Int) ≤ 50000 := by omega
  clear hfl hpl
  go_wp2_with fail
  go_loopw [3, 4, 6] (fun v t i wr => ∃ (k : Nat), k ≤ qs.length ∧ i = .int .i64 k ∧ t = .int .i64 ((qs.take k).flatten.length : Nat) ∧ wr.ownsRow w0.heap.size 3 1 v k ((endsFrom 0 (qs.take k)).map fun n => intV ((n : Nat) : Int)) ∧ Below w0.heap.size w0 wr) (fun _ _ i _ => qs.length - (intOf i).toNat)
  case atStart => exact ⟨0, Nat.zero_le _, rfl, by simp, World.ownsRow_nil _ _ _ _, Below.refl _ _⟩
  case round =>
    obtain ⟨k, hk, rfl, rfl, hown, hbw⟩ := hrel
    by_cases hlt : k < qs.length
    · obtain ⟨b, o, rfl, hbl, hc⟩ := hcell k hlt
      have hc' := (hbw.cell (p := ⟨b, o + k, none⟩) hbl).trans hc
      have HE : Hid (endsFrom 0 (qs.take (k + 1)) = endsFrom 0 (qs.take k) ++ [(qs.take k).flatten.length + qs[k].length]) := by
        show _ = _
        rw [List.take_succ_eq_append_getElem hlt, endsFrom_snoc, Nat.zero_add]
      have HF : Hid ((qs.take (k + 1)).flatten.length = (qs.take k).flatten.length + qs[k].length) := by
        show _ = _
        rw [List.take_succ_eq_append_getElem hlt, List.flatten_append, List.length_append]
        simp only [List.flatten_cons, List.flatten_nil, List.append_nil]
      have HG : Hid ((qs.take k).flatten.length + qs[k].length ≤ 50000) := by
        show _ ≤ _
        rw [← HF.out]
        have h1 := congrArg List.length (congrArg List.flatten (List.take_append_drop (k + 1) qs))
        rw [List.flatten_append, List.length_append] at h1
        have := HFL.out
        omega
      have hlt' : (k : Int) < (qs.length : Int) := by omega
      obtain ⟨t, ht⟩ : ∃ t : Nat, (qs.take k).flatten.length = t := ⟨_, rfl⟩
      obtain ⟨m, hm⟩ : ∃ m : Nat, qs[k].length = m := ⟨_, rfl⟩
      rw [ht, hm] at HE HF HG
      rw [ht]
      obtain ⟨q, hq⟩ : ∃ q : ByteArray, (⟨qs[k].toArray⟩ : ByteArray) = q := ⟨_, rfl⟩
      have hqs : q.size = m := by rw [← hq, ← hm]; rfl
      rw [strW, hq] at hc'
      have hadd : (t : Int) + (m : Int) ≤ 50000 := by have := HG.out; omega
      have HK50 : Hid (k + 1 ≤ 50000) := by show _ ≤ _; have := HPL.out; omega
      clear hcell hc hq hm ht HG
      go_wp2_with (at_builtin; refine wpList_append_own _ rfl (.tmp 22) (.tmp 24) 23 rfl w0.heap.size 3 i0 (.int .i64 0) 1 8 Try.underlying23 hi hz0 hz1 hz2 rfl (by decide) _ _ _ rfl (hown.alloc _) ⟨wr.heap.size, 0, none⟩ 1 1 [.int .i64 ((t : Int) + (m : Int))] rfl rfl (cell_one_new _ _ _) (by simp [Value.oneCell']) (by have := HK50.out; unfold maxLen; omega) (by have := HK50.out; omega) (by have := hbw.size; simp; omega) ?_; intro v' w1 hown' hgrow _; obtain ⟨g', cap', rfl⟩ := ownsRow_succ hown')
      have hbw' : Below w0.heap.size w0 w1 := (hbw.alloc hbw.size _).grown hgrow (by have := hbw.size; simp; omega) (fun j e => own_base hown e)
      clear hgrow hown
      go_wp2_with fail
      go_roundw
      case rel => exact ⟨k + 1, by omega, by go_num, by rw [HF.out]; go_num, by rw [HE.out]; simpa using hown', hbw'⟩
      case measure => simp [intOf]; omega
    · have hge : (qs.length : Int) ≤ (k : Int) := by omega
      go_wp2_with fail
      go_ret
      obtain rfl : k = qs.length := by omega
      rw [List.take_of_length_le (Nat.le_refl _)] at hown
      exact ⟨_, rfl, row_base hown hb0.size, hb0.trans (hbw.mono hb0.size)⟩
end Go.Proofs.Ytjbnehgpadajkaa
