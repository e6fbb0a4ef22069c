/-
  Own text. bin.checkOne by a contract, at any piece.
-/
import Derived.Test.YtmjdgakokldliaaGreatDoorBinHelds
import Derived.Test.YtmjdgakokldliaaGreatDoorUsesMem
import Derived.Test.YtmjdgakokldliaaGreatDoorErrG
import Derived.Deep.RegionHeld3
import Derived.Deep.QuietTactic
namespace Go.Proofs.YtmjdgakokldliaaGreatDoor
open Go.RowKit

/- The sentinel of a piece's error. -/
def markV (a : Nat → Addr) (c : Int) : Value := if c = 9 then sentV a 8 else if c = 8 then sentV a 7 else .nilIface
set_option maxRecDepth 100000 in
set_option maxHeartbeats 4000000 in
theorem checkOne_all (a : Nat → Addr) (v : Value) (l : List Hd) (k : Nat) (w : World) (hE : ErrG w a) (hk : k < l.length) (hlen : l.length ≤ 50000) (ht : (l[k]'hk).2.2.length ≤ 50000) (hv : HeldsAt w v l) :
    Calls Tryz.prog 83 #[v, .int .i64 (k : Int)] w fun e w' => e = .returned (markV a (markE l k)) ∧ Below w.heap.size w w' := by
  have HG : Hid (∀ W', Below w.heap.size w W' → W'.cell? ⟨3, 0, none⟩ = some (sentV a 8) ∧ W'.cell? ⟨9, 0, none⟩ = some (sentV a 7)) := fun W' hb => ⟨(hE.below hb (Nat.le_refl _)).glob 8 rfl, (hE.below hb (Nat.le_refl _)).glob 7 rfl⟩
  clear hE
  obtain ⟨p, c, rfl, hcell⟩ := hv
  have HC : Hid (∀ W', Below w.heap.size w W' → ∀ i (h : i < l.length), ∃ b o, p = some ⟨b, o, none⟩ ∧ W'.cell? ⟨b, o + i * 4, none⟩ = some (.int .u32 (l[i].1.1 : Nat)) ∧ W'.cell? ⟨b, o + i * 4 + 1, none⟩ = some (.int .i64 l[i].1.2) ∧
    W'.cell? ⟨b, o + i * 4 + 2, none⟩ = some (.int .i64 l[i].2.1) ∧ W'.cell? ⟨b, o + i * 4 + 3, none⟩ = some (.string ⟨l[i].2.2.toArray⟩)) := fun W' hb i hi => by
    obtain ⟨b, o, hp, ⟨hl', _⟩, a0, a1, a2, a3⟩ := hcell i hi
    exact ⟨b, o, hp, (hb.cell (p := ⟨b, o + i * 4, none⟩) hl').trans a0, (hb.cell (p := ⟨b, o + i * 4 + 1, none⟩) hl').trans a1, (hb.cell (p := ⟨b, o + i * 4 + 2, none⟩) hl').trans a2, (hb.cell (p := ⟨b, o + i * 4 + 3, none⟩) hl').trans a3⟩
  clear hcell
  obtain ⟨b, o, rfl, a0, a1, _, a3⟩ := HC.out w (Below.refl _ _) k hk
  have hk' : (k : Int) < (l.length : Int) := by omega
  have hk0 : (0 : Int) ≤ (k : Int) := by omega
  have HLK : Hid (l[k]? = some (l[k]'hk)) := List.getElem?_eq_getElem hk
  obtain ⟨t, htt⟩ : ∃ t : ByteArray, (⟨(l[k]'hk).2.2.toArray⟩ : ByteArray) = t := ⟨_, rfl⟩
  have htl : t.data.toList = (l[k]'hk).2.2 := by rw [← htt]
  have htz : t.size ≤ maxLen := by
    rw [← htt]
    show (l[k]'hk).2.2.toArray.size ≤ maxLen
    rw [List.size_toArray]
    unfold maxLen
    omega
  have HTZ : Hid (t.size ≤ maxLen) := htz
  have HTS : Hid (idOfL (l[k]'hk).2.2 = (pmore 2166136261 t.data.toList, (t.size : Int))) := by show _ = _; unfold idOfL; rw [← htl, Array.length_toList]; rfl
  rw [htt] at a3
  obtain ⟨P, hP⟩ : ∃ P, pmore 2166136261 t.data.toList = P := ⟨_, rfl⟩
  have HP : Hid (pmore 2166136261 t.data.toList = P) := hP
  rw [hP] at HTS
  have HCK : Hid (∀ W', Below w.heap.size w W' → W'.cell? ⟨b, o + k * 4, none⟩ = some (.int .u32 ((l[k]'hk).1.1 : Nat)) ∧ W'.cell? ⟨b, o + k * 4 + 1, none⟩ = some (.int .i64 (l[k]'hk).1.2) ∧ W'.cell? ⟨b, o + k * 4 + 3, none⟩ = some (.string t)) := fun W' hb => by
    obtain ⟨b', o', hp, x0, x1, _, x3⟩ := HC.out W' hb k hk
    cases hp
    rw [htt] at x3
    exact ⟨x0, x1, x3⟩
  obtain ⟨ip, hip⟩ : ∃ ip, (l[k]'hk).1.1 = ip := ⟨_, rfl⟩
  obtain ⟨il, hil⟩ : ∃ il, (l[k]'hk).1.2 = il := ⟨_, rfl⟩
  have HID : Hid ((l[k]'hk).1 = (ip, il)) := by show _ = _; rw [← hip, ← hil]
  rw [hip] at a0 HCK
  rw [hil] at a1 HCK
  have HLN : Hid (l.length ≤ 50000) := hlen
  clear htt htl htz hP hip hil ht hlen
  by_cases e1 : (P : Int) = (ip : Int)
  · by_cases e2 : (t.size : Int) = il
    · have HEQ : Hid (idOfL (l[k]'hk).2.2 = (l[k]'hk).1) := by show _ = _; rw [HTS.out, HID.out, e2, show P = ip by omega]
      obtain rfl : P = ip := by omega
      subst e2
      by_cases hk1 : k = 0
      · have HM : Hid (markE l k = 0) := by
          show _ = _
          unfold markE
          rw [HLK.out]
          simp only
          rw [if_neg (by rw [HEQ.out]; simp), if_pos hk1]
        have HK0 : Hid (k = 0) := hk1
        clear hk1
        go_enter Tryz.func83, Tryz.ntmps83
        go_wp2_with fail
        go_region_held3 (fun w' => w'.cell? ⟨b, o + k * 4, none⟩ = some (.int .u32 (P : Nat)) ∧ w'.cell? ⟨b, o + k * 4 + 1, none⟩ = some (.int .i64 (t.size : Int)) ∧ w'.cell? ⟨b, o + k * 4 + 3, none⟩ = some (.string t)) (go_keep) (first
          | (go_at_call 17; refine (id_any t _ HTZ.out).mono ?_; rintro e w1 ⟨rfl, hb1⟩; rw [HP.out]; have hB1 : Below w.heap.size w w1 := (Below.refl _ w).drew.trans hb1; have HB1 : Hid (Below w.heap.size w w1) := hB1; obtain ⟨x0, x1, x3⟩ := HCK.out w1 hB1; obtain ⟨g8, g7⟩ := HG.out w1 hB1; clear hb1 hB1))
        have hk1 := HK0.out
        clear HK0
        subst hk1
        go_wp2_with fail
        try (go_quiet (fail); go_wp2_with fail)
        go_ret
        exact ⟨by rw [HM.out]; rfl, HB1.out.trans ⟨rfl, rfl, rfl, Nat.le_refl _, fun _ _ => rfl⟩⟩
      · have hk2 : (0 : Int) < (k : Int) := by omega
        have hk3 : 0 < k := by omega
        have hj : k - 1 < l.length := by omega
        have hjk : IntKind.i64.wrap ((k : Int) - 1) = ((k - 1 : Nat) : Int) := by have := HLN.out; rw [IntKind.wrap_i64]; omega
        have hj' : ((k - 1 : Nat) : Int) < (l.length : Int) := by omega
        have hj0 : (0 : Int) ≤ ((k - 1 : Nat) : Int) := by omega
        obtain ⟨gp, hgp⟩ : ∃ gp, (l[k - 1]'hj).1.1 = gp := ⟨_, rfl⟩
        obtain ⟨gl, hgl⟩ : ∃ gl, (l[k - 1]'hj).1.2 = gl := ⟨_, rfl⟩
        have HCG : Hid (∀ W', Below w.heap.size w W' → W'.cell? ⟨b, o + (k - 1) * 4, none⟩ = some (.int .u32 (gp : Nat)) ∧ W'.cell? ⟨b, o + (k - 1) * 4 + 1, none⟩ = some (.int .i64 gl)) := fun W' hb => by
          obtain ⟨b', o', hp, x0, x1, _⟩ := HC.out W' hb (k - 1) hj
          cases hp
          rw [hgp] at x0
          rw [hgl] at x1
          exact ⟨x0, x1⟩
        obtain ⟨Lb, hLb⟩ : ∃ Lb, (if (gp : Int) = (P : Int) then decide (gl < (t.size : Int)) else decide ((gp : Int) < (P : Int))) = Lb := ⟨_, rfl⟩
        have HLb : Hid ((if (gp : Int) = (P : Int) then decide (gl < (t.size : Int)) else decide ((gp : Int) < (P : Int))) = Lb) := hLb
        have HM : Hid (markE l k = if Lb = true then 0 else 8) := by
          show _ = _
          have hLs : lessB (l[k - 1]'hj).1 (l[k]'hk).1 = Lb := by
            rw [HID.out, show (l[k - 1]'hj).1 = (gp, gl) by rw [← hgp, ← hgl]]
            exact hLb
          unfold markE
          rw [HLK.out]
          simp only
          rw [if_neg (by rw [HEQ.out]; simp), if_neg hk1, List.getElem?_eq_getElem hj]
          simp only [hLs]
        obtain ⟨kj, hkj⟩ : ∃ kj, k - 1 = kj := ⟨_, rfl⟩
        rw [hkj] at hjk hj' hj0 HCG
        clear hLb hgp hgl hk1 HC
        cases Lb with
        | true =>
          go_enter Tryz.func83, Tryz.ntmps83
          go_wp2_with fail
          go_region_held3 (fun w' => w'.cell? ⟨b, o + k * 4, none⟩ = some (.int .u32 (P : Nat)) ∧ w'.cell? ⟨b, o + k * 4 + 1, none⟩ = some (.int .i64 (t.size : Int)) ∧ w'.cell? ⟨b, o + k * 4 + 3, none⟩ = some (.string t)) (go_keep) (first
            | (go_at_call 17; refine (id_any t _ HTZ.out).mono ?_; rintro e w1 ⟨rfl, hb1⟩; rw [HP.out]; have hB1 : Below w.heap.size w w1 := (Below.refl _ w).drew.trans hb1; have HB1 : Hid (Below w.heap.size w w1) := hB1; obtain ⟨x0, x1, x3⟩ := HCK.out w1 hB1; obtain ⟨g8, g7⟩ := HG.out w1 hB1; clear hb1 hB1))
          obtain ⟨y0, y1⟩ := HCG.out w1 HB1.out
          clear hkj
          go_wp2_with fail
          go_region_held3 (fun w' => w'.cell? ⟨b, o + kj * 4, none⟩ = some (.int .u32 (gp : Nat)) ∧ w'.cell? ⟨b, o + kj * 4 + 1, none⟩ = some (.int .i64 gl) ∧ w'.cell? ⟨b, o + k * 4, none⟩ = some (.int .u32 (P : Nat)) ∧ w'.cell? ⟨b, o + k * 4 + 1, none⟩ = some (.int .i64 (t.size : Int))) (go_keep) (first
            | (go_at_call 16; refine (less_any _ _ _ _ _).mono ?_; rintro e w2 ⟨rfl, hb2⟩; rw [HLb.out]; have hB2 : Below w.heap.size w w2 := HB1.out.trans (((Below.refl _ w1).drew.trans hb2).mono HB1.out.size); have HB2 : Hid (Below w.heap.size w w2) := hB2; obtain ⟨z0, z1, _⟩ := HCK.out w2 hB2; obtain ⟨z2, z3⟩ := HCG.out w2 hB2; obtain ⟨k8, k7⟩ := HG.out w2 hB2; clear hb2 hB2))
          go_wp2_with fail
          try (go_quiet (fail); go_wp2_with fail)
          go_ret
          exact ⟨by rw [HM.out]; rfl, HB2.out⟩
        | false =>
          go_enter Tryz.func83, Tryz.ntmps83
          go_wp2_with fail
          go_region_held3 (fun w' => w'.cell? ⟨b, o + k * 4, none⟩ = some (.int .u32 (P : Nat)) ∧ w'.cell? ⟨b, o + k * 4 + 1, none⟩ = some (.int .i64 (t.size : Int)) ∧ w'.cell? ⟨b, o + k * 4 + 3, none⟩ = some (.string t)) (go_keep) (first
            | (go_at_call 17; refine (id_any t _ HTZ.out).mono ?_; rintro e w1 ⟨rfl, hb1⟩; rw [HP.out]; have hB1 : Below w.heap.size w w1 := (Below.refl _ w).drew.trans hb1; have HB1 : Hid (Below w.heap.size w w1) := hB1; obtain ⟨x0, x1, x3⟩ := HCK.out w1 hB1; obtain ⟨g8, g7⟩ := HG.out w1 hB1; clear hb1 hB1))
          obtain ⟨y0, y1⟩ := HCG.out w1 HB1.out
          clear hkj
          go_wp2_with fail
          go_region_held3 (fun w' => w'.cell? ⟨b, o + kj * 4, none⟩ = some (.int .u32 (gp : Nat)) ∧ w'.cell? ⟨b, o + kj * 4 + 1, none⟩ = some (.int .i64 gl) ∧ w'.cell? ⟨b, o + k * 4, none⟩ = some (.int .u32 (P : Nat)) ∧ w'.cell? ⟨b, o + k * 4 + 1, none⟩ = some (.int .i64 (t.size : Int))) (go_keep) (first
            | (go_at_call 16; refine (less_any _ _ _ _ _).mono ?_; rintro e w2 ⟨rfl, hb2⟩; rw [HLb.out]; have hB2 : Below w.heap.size w w2 := HB1.out.trans (((Below.refl _ w1).drew.trans hb2).mono HB1.out.size); have HB2 : Hid (Below w.heap.size w w2) := hB2; obtain ⟨z0, z1, _⟩ := HCK.out w2 hB2; obtain ⟨z2, z3⟩ := HCG.out w2 hB2; obtain ⟨k8, k7⟩ := HG.out w2 hB2; clear hb2 hB2))
          go_wp2_with fail
          try (go_quiet (fail); go_wp2_with fail)
          go_ret
          exact ⟨by rw [HM.out]; rfl, HB2.out⟩
    · have HM : Hid (markE l k = 9) := by
        show _ = _
        unfold markE
        rw [HLK.out]
        simp only
        rw [if_pos (by rw [HTS.out, HID.out]; exact fun e => e2 (Prod.mk.inj e).2)]
      obtain rfl : P = ip := by omega
      have e2' : ((t.size : Int) == il) = false := beq_eq_false_iff_ne.2 e2
      go_enter Tryz.func83, Tryz.ntmps83
      go_wp2_with fail
      go_region_held3 (fun w' => w'.cell? ⟨b, o + k * 4, none⟩ = some (.int .u32 (P : Nat)) ∧ w'.cell? ⟨b, o + k * 4 + 1, none⟩ = some (.int .i64 il) ∧ w'.cell? ⟨b, o + k * 4 + 3, none⟩ = some (.string t)) (go_keep) (first
        | (go_at_call 17; refine (id_any t _ HTZ.out).mono ?_; rintro e w1 ⟨rfl, hb1⟩; rw [HP.out]; have hB1 : Below w.heap.size w w1 := (Below.refl _ w).drew.trans hb1; have HB1 : Hid (Below w.heap.size w w1) := hB1; obtain ⟨x0, x1, x3⟩ := HCK.out w1 hB1; obtain ⟨g8, g7⟩ := HG.out w1 hB1; clear hb1 hB1))
      go_wp2_with fail
      try (go_quiet (fail); go_wp2_with fail)
      go_ret
      exact ⟨by rw [HM.out]; rfl, HB1.out⟩
  · have HM : Hid (markE l k = 9) := by
      show _ = _
      unfold markE
      rw [HLK.out]
      simp only
      rw [if_pos (by rw [HTS.out, HID.out]; exact fun e => e1 (by rw [(Prod.mk.inj e).1]))]
    have e1' : ((P : Int) == (ip : Int)) = false := beq_eq_false_iff_ne.2 e1
    go_enter Tryz.func83, Tryz.ntmps83
    go_wp2_with fail
    go_region_held3 (fun w' => w'.cell? ⟨b, o + k * 4, none⟩ = some (.int .u32 (ip : Nat)) ∧ w'.cell? ⟨b, o + k * 4 + 1, none⟩ = some (.int .i64 il) ∧ w'.cell? ⟨b, o + k * 4 + 3, none⟩ = some (.string t)) (go_keep) (first
      | (go_at_call 17; refine (id_any t _ HTZ.out).mono ?_; rintro e w1 ⟨rfl, hb1⟩; rw [HP.out]; have hB1 : Below w.heap.size w w1 := (Below.refl _ w).drew.trans hb1; have HB1 : Hid (Below w.heap.size w w1) := hB1; obtain ⟨x0, x1, x3⟩ := HCK.out w1 hB1; obtain ⟨g8, g7⟩ := HG.out w1 hB1; clear hb1 hB1))
    go_wp2_with fail
    try (go_quiet (fail); go_wp2_with fail)
    go_ret
    exact ⟨by rw [HM.out]; rfl, HB1.out⟩
end Go.Proofs.YtmjdgakokldliaaGreatDoor
