/-
  Own text. bin.checkOne by a contract, at a piece that is in order and has its ID.
-/
import Derived.Test.YtmjdgakokldliaaDoorUsesMem
import Derived.Deep.RegionHeld3
import Derived.Deep.QuietTactic
namespace Go.Proofs.YtmjdgakokldliaaDoor
open Go.RowKit

set_option maxRecDepth 100000 in
set_option maxHeartbeats 2000000 in
theorem checkOne_any (v : Value) (l : List Hd) (k : Nat) (w : World) (hk : k < l.length) (hl : l.length ≤ 250) (hv : HeldsAt w v l) (hid : l[k].1 = idOfL l[k].2.2) (ht : l[k].2.2.length ≤ 64) (hless : ∀ h : 0 < k, lessB (l[k - 1]'(by omega)).1 l[k].1 = true) :
    Calls Tryd.prog 71 #[v, .int .i64 k] w fun e w' => e = .returned .nilIface ∧ Below w.heap.size w w' := by
  have HV : Hid (HeldsAt w v l) := hv
  obtain ⟨pa, ca, rfl, hc⟩ := hv
  obtain ⟨b, o, rfl, _, c0, c1, c2, c3⟩ := hc k hk
  have hlt : (k : Int) < (l.length : Int) := by omega
  obtain ⟨⟨⟨xp, xl⟩, u, t⟩, hy⟩ : ∃ y, l[k] = y := ⟨_, rfl⟩
  rw [hy] at c0 c1 c2 c3 hid ht hless
  simp only at c0 c1 c2 c3 hid ht hless
  obtain ⟨T, hT⟩ : ∃ T : ByteArray, (⟨t.toArray⟩ : ByteArray) = T := ⟨_, rfl⟩
  rw [hT] at c3
  have HTT : Hid (T.data.toList = t) := by show _ = _; rw [← hT]
  have HTM : Hid (T.size ≤ maxLen) := by
    show _ ≤ _
    have : T.data.toList.length = T.size := by rw [Array.length_toList]; rfl
    rw [HTT.out] at this
    unfold maxLen; omega
  have HP1 : Hid (pmore 2166136261 T.data.toList = xp) := by rw [HTT.out]; exact (congrArg Prod.fst hid).symm
  have HP2 : Hid ((T.size : Int) = xl) := by
    have h1 : T.data.toList.length = T.size := by rw [Array.length_toList]; rfl
    have h2 : xl = ((t.length : Nat) : Int) := congrArg Prod.snd hid
    rw [HTT.out] at h1
    show _ = _
    omega
  clear hT hy hc
  go_enter Tryd.func71, Tryd.ntmps71
  go_wp2_with fail
  have HCE : Hid (∀ W', Below w.heap.size w W' → W'.cell? ⟨b, o + k * 4, none⟩ = some (.int .u32 (xp : Nat)) ∧ W'.cell? ⟨b, o + k * 4 + 1, none⟩ = some (.int .i64 xl) ∧ W'.cell? ⟨b, o + k * 4 + 3, none⟩ = some (.string T)) := fun W' hb => ⟨(hb.cell (p := ⟨b, o + k * 4, none⟩) (lt_of_cell c0)).trans c0, (hb.cell (p := ⟨b, o + k * 4 + 1, none⟩) (lt_of_cell c1)).trans c1, (hb.cell (p := ⟨b, o + k * 4 + 3, none⟩) (lt_of_cell c3)).trans c3⟩
  go_region_held3 (fun w' => w'.cell? ⟨b, o + k * 4, none⟩ = some (.int .u32 (xp : Nat)) ∧ w'.cell? ⟨b, o + k * 4 + 1, none⟩ = some (.int .i64 xl) ∧ w'.cell? ⟨b, o + k * 4 + 3, none⟩ = some (.string T)) (first | exact HCE.out _ hB1 | go_keep) (first
    | (go_at_call 20; refine (id_any T _ HTM.out).mono ?_; rintro e w1 ⟨rfl, hb1⟩; rw [HP1.out, HP2.out]; have hB1 : Below w.heap.size w w1 := (Below.refl _ w).drew.trans hb1))
  have HB1 : Hid (Below w.heap.size w w1) := hB1
  clear hb1 hB1 c0 c1 c2 c3
  obtain ⟨c0, c1, c3⟩ := HCE.out _ HB1.out
  by_cases hk0 : 0 < k
  · have hk1 : (0 : Int) < (k : Int) := by omega
    obtain ⟨_, _, hve, hc⟩ := HV.out.below HB1.out
    obtain ⟨b', o', e, _, d0, d1, _, _⟩ := hc (k - 1) (by omega)
    simp only [Value.slice.injEq] at hve
    rw [← hve.1] at e
    simp only [Option.some.injEq, Addr.mk.injEq] at e
    obtain ⟨rfl, rfl, _⟩ := e
    have hle := hless hk0
    obtain ⟨⟨⟨yp, yl⟩, u', t'⟩, hy⟩ : ∃ y, l[k - 1]'(by omega) = y := ⟨_, rfl⟩
    rw [hy] at d0 d1 hle
    simp only at d0 d1 hle
    clear hy hc hve hless
    obtain ⟨m, hkm⟩ : ∃ m, k - 1 = m := ⟨_, rfl⟩
    rw [hkm] at d0 d1
    have HLE : Hid ((if (yp : Int) = (xp : Int) then decide (yl < xl) else decide ((yp : Int) < (xp : Int))) = true) := hle
    clear hle
    have hm0 : ((m : Int)) < (l.length : Int) := by omega
    have hm2 : (0 : Int) ≤ (m : Int) := by omega
    have hm3 : IntKind.i64.wrap ((k : Int) - 1) = (m : Int) := by rw [IntKind.wrap_i64]; omega
    have HCD : Hid (∀ W', Below w1.heap.size w1 W' → W'.cell? ⟨b, o + m * 4, none⟩ = some (.int .u32 (yp : Nat)) ∧ W'.cell? ⟨b, o + m * 4 + 1, none⟩ = some (.int .i64 yl) ∧ W'.cell? ⟨b, o + k * 4, none⟩ = some (.int .u32 (xp : Nat)) ∧ W'.cell? ⟨b, o + k * 4 + 1, none⟩ = some (.int .i64 xl)) := fun W' hb => ⟨(hb.cell (p := ⟨b, o + m * 4, none⟩) (lt_of_cell d0)).trans d0, (hb.cell (p := ⟨b, o + m * 4 + 1, none⟩) (lt_of_cell d1)).trans d1, (hb.cell (p := ⟨b, o + k * 4, none⟩) (lt_of_cell c0)).trans c0, (hb.cell (p := ⟨b, o + k * 4 + 1, none⟩) (lt_of_cell c1)).trans c1⟩
    go_wp2_with fail
    go_region_held3 (fun w' => w'.cell? ⟨b, o + m * 4, none⟩ = some (.int .u32 (yp : Nat)) ∧ w'.cell? ⟨b, o + m * 4 + 1, none⟩ = some (.int .i64 yl) ∧ w'.cell? ⟨b, o + k * 4, none⟩ = some (.int .u32 (xp : Nat)) ∧ w'.cell? ⟨b, o + k * 4 + 1, none⟩ = some (.int .i64 xl)) (first | exact HCD.out _ hB2 | go_keep) (first
      | (go_at_call 25; refine (less_any yp yl xp xl _).mono ?_; rintro e w2 ⟨rfl, hb2⟩; rw [HLE.out]; have hB2 : Below w1.heap.size w1 w2 := (Below.refl _ w1).drew.trans hb2))
    go_wp2_with fail
    go_ret
    exact ⟨rfl, HB1.out.trans (hB2.mono HB1.out.size)⟩
  · have hk1 : k = 0 := by omega
    subst hk1
    go_wp2_with fail
    go_quiet (fail)
    go_wp2_with fail
    go_ret
    exact ⟨rfl, HB1.out.trans ⟨rfl, rfl, rfl, Nat.le_refl _, fun _ _ => rfl⟩⟩
end Go.Proofs.YtmjdgakokldliaaDoor
