/-
  Own text. The document's HeldsText by a contract.
-/
import Derived.Test.YtmjdgakokldliaaGreatDoorPTextB
namespace Go.Proofs.YtmjdgakokldliaaGreatDoor
open Go.RowKit

theorem addZ (a b : ByteArray) (h : a.size + b.size ≤ 100000) : ∃ c : ByteArray, (∀ w : World, (Op.stringOp .add a b).run Tryz.prog w = .ok (.string c) w) ∧ c.data.toList = a.data.toList ++ b.data.toList ∧ c.size = a.size + b.size := addT a b h
set_option maxRecDepth 100000 in
set_option maxHeartbeats 4000000 in
theorem heldsText_any (va : Value) (l : List Hd) (w : World) (hok : TextOk l) (hv : HeldsAt w va l) :
    Calls Tryz.prog 34 #[va] w fun e w' => e = .returned (.string ⟨(hsText l).toArray⟩) ∧ Below w.heap.size w w' := by
  have HV : Hid (HeldsAt w va l) := hv
  have HOK : Hid (TextOk l) := hok
  have hl2 : (l.length : Int) ≤ 250 := by have := hok.many; omega
  obtain ⟨pa, ca, rfl, _⟩ := hv
  clear hok
  go_enter Tryz.func34, Tryz.ntmps34
  go_wp2_with fail
  go_loopw [3, 4] (fun sv i wr => ∃ (k : Nat) (ab : ByteArray), k ≤ l.length ∧ i = .int .i64 k ∧ sv = .string ab ∧ Hid (ab.data.toList = hsText (l.take k)) ∧ Hid (Below w.heap.size w wr)) (fun _ i _ => l.length - (intOf i).toNat)
  case atStart => exact ⟨0, ⟨#[]⟩, Nat.zero_le _, rfl, rfl, rfl, Below.refl _ _⟩
  case round =>
    obtain ⟨k, ab, hk, rfl, rfl, HAB, HB⟩ := hrel
    have hab : ab.data.toList.length = ab.size := by rw [Array.length_toList]; rfl
    have habs : ab.size ≤ 40000 := by
      have h1 := hsText_len2 (l.take k) (fun y hy => by obtain ⟨e1, e2, e3, e4⟩ := HOK.out.each y (List.mem_of_mem_take hy); exact ⟨e4, by omega, by omega⟩)
      rw [← HAB.out, hab, List.length_take] at h1
      omega
    by_cases hlt : k < l.length
    · have hlt' : (k : Int) < (l.length : Int) := by omega
      have hk0 : (0 : Int) ≤ (k : Int) := by omega
      obtain ⟨_, _, hve, hcell⟩ := HV.out.below HB.out
      obtain ⟨rfl, rfl⟩ : pa = _ ∧ ca = _ := by simpa using hve
      obtain ⟨b, o, rfl, hbl, c0, c1, c2, c3⟩ := hcell k hlt
      obtain ⟨q1, q2, q3, q4⟩ := HOK.out.each l[k] (List.getElem_mem hlt)
      have HSN : Hid (hsText (l.take (k + 1)) = hsText (l.take k) ++ hText l[k]) := hsText_snoc l k hlt
      obtain ⟨⟨⟨xp, xl⟩, u, t⟩, hy⟩ : ∃ y, l[k] = y := ⟨_, rfl⟩
      rw [hy] at c0 c1 c2 c3 q1 q2 q3 q4 HSN
      simp only at c0 c1 c2 c3 q1 q2 q3 q4
      obtain ⟨xn, rfl⟩ : ∃ xn : Nat, xl = (xn : Int) := ⟨xl.toNat, by omega⟩
      obtain ⟨un, rfl⟩ : ∃ un : Nat, u = (un : Int) := ⟨u.toNat, by omega⟩
      have hxn : xn ≤ 9223372036854775807 := by omega
      have hun : un ≤ 9223372036854775807 := by omega
      have HN : Hid (xp < 4294967296 ∧ xn ≤ 9223372036854775807 ∧ un ≤ 9223372036854775807) := ⟨q1, hxn, hun⟩
      clear hcell hve hy q1 q3 q2
      obtain ⟨X, hX⟩ : ∃ X : ByteArray, (⟨(idText xp xn).toArray⟩ : ByteArray) = X := ⟨_, rfl⟩
      obtain ⟨D, hD⟩ : ∃ D : ByteArray, (⟨(Lib.decDigits un).toArray⟩ : ByteArray) = D := ⟨_, rfl⟩
      obtain ⟨T, hT⟩ : ∃ T : ByteArray, (⟨t.toArray⟩ : ByteArray) = T := ⟨_, rfl⟩
      rw [hT] at c3
      have hXs : X.size ≤ 28 := by rw [← hX]; have := dec19 xn hxn; show (idText xp xn).toArray.size ≤ 28; simp [idText, hexLast_length]; omega
      have hDs : D.size ≤ 19 := by rw [← hD]; have := dec19 un hun; show (Lib.decDigits un).toArray.size ≤ 19; simpa using this
      have hTs : T.size ≤ 100 := by rw [← hT]; show t.toArray.size ≤ 100; simpa using q4
      have z1 : (⟨#[32]⟩ : ByteArray).size = 1 := rfl
      have z2 : (⟨#[10]⟩ : ByteArray).size = 1 := rfl
      obtain ⟨S1, hS1, hT1, hZ1⟩ := addZ ab X (by omega)
      obtain ⟨S2, hS2, hT2, hZ2⟩ := addZ S1 ⟨#[32]⟩ (by rw [hZ1, z1]; omega)
      obtain ⟨S3, hS3, hT3, hZ3⟩ := addZ S2 D (by rw [hZ2, hZ1, z1]; omega)
      obtain ⟨S4, hS4, hT4, hZ4⟩ := addZ S3 ⟨#[10]⟩ (by rw [hZ3, hZ2, hZ1, z1, z2]; omega)
      obtain ⟨S5, hS5, hT5, hZ5⟩ := addZ S4 T (by rw [hZ4, hZ3, hZ2, hZ1, z1, z2]; omega)
      obtain ⟨S6, hS6, hT6, hZ6⟩ := addZ S5 ⟨#[10]⟩ (by rw [hZ5, hZ4, hZ3, hZ2, hZ1, z1, z2]; omega)
      have HS6 : Hid (S6.data.toList = hsText (l.take (k + 1))) := by
        show _ = _
        rw [hT6, hT5, hT4, hT3, hT2, hT1, HAB.out, HSN.out, ← hX, ← hD, ← hT]
        simp [hText, hHead]
      have HXX := hT_hide hX
      have HDD := hT_hide hD
      clear hT1 hT2 hT3 hT4 hT5 hT6 hZ1 hZ2 hZ3 hZ4 hZ5 hZ6 hX hD hT hXs hDs hTs z1 z2 q4 hxn hun hab habs
      have HCE : Hid (∀ W', Below wr.heap.size wr W' → W'.cell? ⟨b, o + k * 4, none⟩ = some (.int .u32 (xp : Nat)) ∧ W'.cell? ⟨b, o + k * 4 + 1, none⟩ = some (.int .i64 (xn : Int)) ∧ W'.cell? ⟨b, o + k * 4 + 2, none⟩ = some (.int .i64 (un : Int)) ∧ W'.cell? ⟨b, o + k * 4 + 3, none⟩ = some (.string T)) := fun W' hb => ⟨(hb.cell (p := ⟨b, o + k * 4, none⟩) hbl.1).trans c0, (hb.cell (p := ⟨b, o + k * 4 + 1, none⟩) hbl.1).trans c1, (hb.cell (p := ⟨b, o + k * 4 + 2, none⟩) hbl.1).trans c2, (hb.cell (p := ⟨b, o + k * 4 + 3, none⟩) hbl.1).trans c3⟩
      go_wp2_with fail
      go_region_held3 (fun w' => w'.cell? ⟨b, o + k * 4, none⟩ = some (.int .u32 (xp : Nat)) ∧ w'.cell? ⟨b, o + k * 4 + 1, none⟩ = some (.int .i64 (xn : Int)) ∧ w'.cell? ⟨b, o + k * 4 + 2, none⟩ = some (.int .i64 (un : Int)) ∧ w'.cell? ⟨b, o + k * 4 + 3, none⟩ = some (.string T)) (first | exact HCE.out _ hB2 | exact HCE.out _ hB1 | go_keep) (first
        | (go_at_call 72; refine (idText_any xp xn HN.out.1 HN.out.2.1 _).mono ?_; rintro e w1 ⟨rfl, hb1⟩; rw [HXX.out]; have hB1 : Below wr.heap.size wr w1 := (Below.refl _ wr).drew.trans hb1)
        | (go_at_call 70; refine (decimal_any un HN.out.2.2 _).mono ?_; rintro e w2 ⟨rfl, hb2⟩; rw [HDD.out]; have hB2 : Below wr.heap.size wr w2 := hB1.trans (hb2.mono hB1.size)))
      go_wp2_with fail
      go_roundw
      case rel => exact ⟨k + 1, S6, hlt, by go_num, rfl, HS6.out, HB.out.trans (hB2.mono HB.out.size)⟩
      case measure => simp [intOf]; omega
    · have hge : (l.length : Int) ≤ (k : Int) := by omega
      obtain rfl : k = l.length := by omega
      rw [List.take_length] at HAB
      go_wp2_with fail
      go_ret
      have e : ab = ⟨(hsText l).toArray⟩ := by
        apply ByteArray.ext
        apply Array.toList_inj.1
        rw [HAB.out]
      exact ⟨by rw [← e]; rfl, HB.out⟩
end Go.Proofs.YtmjdgakokldliaaGreatDoor
