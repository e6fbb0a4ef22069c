/-
  Own text. bin.Text by a contract.
-/
import Derived.Test.YtmjdgakokldliaaGreatDoorPBuild
import Derived.Test.YtmjdgakokldliaaGreatDoorHsText
import Derived.Test.YtmjdgakokldliaaGreatDoorBinMem
import Derived.Test.YtmjdgakokldliaaGreatDoorText
import Derived.Deep.QuietTactic
import Derived.Deep.RegionHeld3
namespace Go.Proofs.YtmjdgakokldliaaGreatDoor
open Go.RowKit

theorem addT (a b : ByteArray) (h : a.size + b.size ≤ 100000) : ∃ c : ByteArray, (∀ w : World, (Op.stringOp .add a b).run Tryz.prog w = .ok (.string c) w) ∧ c.data.toList = a.data.toList ++ b.data.toList ∧ c.size = a.size + b.size :=
  ⟨a ++ b, fun w => run_string_add_sum w a b (by omega), by rw [ByteArray.data_append, Array.toList_append], ByteArray.size_append⟩
theorem hT_hide {q : Prop} (h : q) : Hid q := h
structure TextOk (l : List Hd) : Prop where
  many : l.length ≤ 250
  each : ∀ h ∈ l, h.1.1 < 4294967296 ∧ (0 ≤ h.1.2 ∧ h.1.2 ≤ 9223372036854775807) ∧ (0 ≤ h.2.1 ∧ h.2.1 ≤ 9223372036854775807) ∧ h.2.2.length ≤ 100
theorem dec19 (u : Nat) (h : u ≤ 9223372036854775807) : (Lib.decDigits u).length ≤ 19 := decDigits_len_le u 19 (by decide) (by omega)
theorem BinOk.text {l : List Hd} (h : BinOk 1000 l) : TextOk l := ⟨h.many, fun x hx => by
  obtain ⟨e, h1, h2, h3⟩ := h.each x hx
  rw [e]
  exact ⟨pmore_lt _ (by decide) _, ⟨by simp only [idOfL]; omega, by simp only [idOfL]; omega⟩, ⟨h2, by omega⟩, by omega⟩⟩
theorem hText_len2 {h : Hd} (h1 : h.2.2.length ≤ 100) (h2 : h.1.2.toNat ≤ 9223372036854775807) (h3 : h.2.1.toNat ≤ 9223372036854775807) : (hText h).length ≤ 160 := by
  have a := dec19 h.1.2.toNat h2
  have b := dec19 h.2.1.toNat h3
  simp [hText, hHead, idText, hexLast_length]
  omega
theorem hsText_len2 : ∀ (l : List Hd), (∀ h ∈ l, h.2.2.length ≤ 100 ∧ h.1.2.toNat ≤ 9223372036854775807 ∧ h.2.1.toNat ≤ 9223372036854775807) → (hsText l).length ≤ l.length * 160
  | [], _ => by simp [hsText]
  | x :: r, h => by
    obtain ⟨a, b, c⟩ := h x (List.mem_cons_self ..)
    have h1 := hText_len2 a b c
    have h2 := hsText_len2 r (fun y hy => h y (List.mem_cons_of_mem _ hy))
    have e : hsText (x :: r) = hText x ++ hsText r := by simp [hsText]
    rw [e, List.length_append, List.length_cons]
    omega
set_option maxRecDepth 100000 in
set_option maxHeartbeats 4000000 in
theorem pText_any (va : Value) (l : List Hd) (w : World) (hok : TextOk l) (hp : Pow10 w) (hv : HeldsAt w va l) :
    Calls Tryz.prog 32 #[va] w fun e w' => e = .returned (.string ⟨(hsText l).toArray⟩) ∧ Below w.heap.size w w' := by
  have HV : Hid (HeldsAt w va l) := hv
  have HOK : Hid (TextOk l) := hok
  have HP : Hid (∀ W, Below w.heap.size w W → Pow10 W) := fun W hb => hp.below hb (Nat.le_refl _)
  have hl2 : (l.length : Int) ≤ 250 := by have := hok.many; omega
  obtain ⟨pa, ca, rfl, _⟩ := hv
  have hbf := Lib.IsBuilderF.of (Lib.fresh_isBuilder 126 5 w)
  clear hok hp
  go_enter Tryz.func32, Tryz.ntmps32
  go_wp2_with fail
  go_loopw [8] (fun i wr => ∃ k : Nat, k ≤ l.length ∧ i = .int .i64 k ∧ Hid (Lib.IsBuilderF 126 5 w.heap.size w.heap.size (Lib.byteCells (hsText (l.take k))) wr) ∧ Hid (Below w.heap.size w wr)) (fun i _ => l.length - (intOf i).toNat)
  case atStart => exact ⟨0, Nat.zero_le _, rfl, hbf, (Below.refl w.heap.size w).alloc (Nat.le_refl _) _⟩
  case round =>
    clear hbf
    obtain ⟨k, hk, rfl, HBD, HB⟩ := hrel
    by_cases hlt : k < l.length
    · have hlt' : (k : Int) < (l.length : Int) := by omega
      obtain ⟨_, _, hve, hcell⟩ := HV.out.below HB.out
      obtain ⟨rfl, rfl⟩ : pa = _ ∧ ca = _ := by simpa using hve
      obtain ⟨b, o, rfl, _, c0, c1, c2, c3⟩ := hcell k hlt
      obtain ⟨q1, q2, q3, q4⟩ := HOK.out.each l[k] (List.getElem_mem hlt)
      have HSN : Hid (hsText (l.take (k + 1)) = hsText (l.take k) ++ hText l[k]) := hsText_snoc l k hlt
      obtain ⟨⟨⟨xp, xl⟩, u, t⟩, hy⟩ : ∃ y, l[k] = y := ⟨_, rfl⟩
      rw [hy] at c0 c1 c2 c3 q1 q2 q3 q4 HSN
      simp only at c0 c1 c2 c3 q1 q2 q3 q4
      have hxp := q1
      obtain ⟨xn, rfl⟩ : ∃ xn : Nat, xl = (xn : Int) := ⟨xl.toNat, by omega⟩
      have hxn : xn ≤ 9223372036854775807 := by omega
      obtain ⟨un, rfl⟩ : ∃ un : Nat, u = (un : Int) := ⟨u.toNat, by omega⟩
      have hun : un ≤ 9223372036854775807 := by omega
      clear hcell hve hy q1 q3
      obtain ⟨X, hX⟩ : ∃ X : ByteArray, (⟨(idText xp xn).toArray⟩ : ByteArray) = X := ⟨_, rfl⟩
      obtain ⟨D, hD⟩ : ∃ D : ByteArray, (⟨(Lib.decDigits un).toArray⟩ : ByteArray) = D := ⟨_, rfl⟩
      obtain ⟨T, hT⟩ : ∃ T : ByteArray, (⟨t.toArray⟩ : ByteArray) = T := ⟨_, rfl⟩
      rw [hT] at c3
      have hXs : X.size ≤ 28 := by rw [← hX]; have := dec19 xn hxn; show (idText xp xn).toArray.size ≤ 28; simp [idText, hexLast_length]; omega
      have hDs : D.size ≤ 19 := by rw [← hD]; have := dec19 un hun; show (Lib.decDigits un).toArray.size ≤ 19; simpa using this
      have hTs : T.size ≤ 100 := by rw [← hT]; show t.toArray.size ≤ 100; simpa using q4
      have z1 : (⟨#[32]⟩ : ByteArray).size = 1 := rfl
      have z2 : (⟨#[10]⟩ : ByteArray).size = 1 := rfl
      obtain ⟨S1, hS1, hT1, hZ1⟩ := addT X ⟨#[32]⟩ (by rw [z1]; omega)
      obtain ⟨S2, hS2, hT2, hZ2⟩ := addT S1 D (by rw [hZ1, z1]; omega)
      obtain ⟨S3, hS3, hT3, hZ3⟩ := addT S2 ⟨#[10]⟩ (by rw [hZ2, hZ1, z1, z2]; omega)
      obtain ⟨S4, hS4, hT4, hZ4⟩ := addT S3 T (by rw [hZ3, hZ2, hZ1, z1, z2]; omega)
      obtain ⟨S5, hS5, hT5, hZ5⟩ := addT S4 ⟨#[10]⟩ (by rw [hZ4, hZ3, hZ2, hZ1, z1, z2]; omega)
      have HS5 : Hid (S5.data.toList = hText ((xp, (xn : Int)), (un : Int), t)) := by
        show _ = _
        rw [hT5, hT4, hT3, hT2, hT1, ← hX, ← hD, ← hT]
        simp [hText, hHead]
      have HZ5 : Hid (S5.size ≤ 200) := by show _ ≤ _; rw [hZ5, hZ4, hZ3, hZ2, hZ1, z1, z2]; omega
      have HXX := hT_hide hX
      have HDD := hT_hide hD
      have HN : Hid (xp < 4294967296 ∧ xn ≤ 9223372036854775807 ∧ un ≤ 9223372036854775807) := ⟨hxp, hxn, hun⟩
      clear hT1 hT2 hT3 hT4 hT5 hZ1 hZ2 hZ3 hZ4 hZ5 hX hD hT hXs hDs hTs z1 z2 q2 q4 hxp hxn hun
      have hal := (Below.refl wr.heap.size wr).alloc (Nat.le_refl _) (.cells #[.int .u32 (xp : Nat), .int .i64 (xn : Int), .int .i64 (un : Int), .string T] 64)
      have hblk := Blk.new wr #[.int .u32 (xp : Nat), .int .i64 (xn : Int), .int .i64 (un : Int), .string T] 64
      have HBD2 := hT_hide (builderF_next HBD.out hal)
      have HB2 := hT_hide (HB.out.trans (hal.mono HB.out.size))
      go_wp2_with fail
      obtain ⟨W, hW⟩ : ∃ W, (wr.alloc (.cells #[.int .u32 (xp : Nat), .int .i64 (xn : Int), .int .i64 (un : Int), .string T] 64)) = W := ⟨_, rfl⟩
      rw [hW] at hblk HBD2 HB2 ⊢
      clear hW hal c0 c1 c2 c3
      have HNE : Hid (some wr.heap.size ≠ some w.heap.size) := by
        intro e
        have e1 : wr.heap.size = w.heap.size := by simpa using e
        have e2 : w.heap.size < wr.heap.size := by
          rcases HBD.out with ⟨_, v, h, _⟩ | ⟨_, v, h, _⟩ <;> exact (Array.getElem?_eq_some_iff.1 h).1
        omega
      generalize wr.heap.size = H at *
      have y0 := hblk.cell (i := 0) rfl
      have y1 := hblk.cell (i := 1) rfl
      have y2 := hblk.cell (i := 2) rfl
      have y3 := hblk.cell (i := 3) rfl
      have HBL := hT_hide hblk
      clear hblk
      have HLEN : Hid ((Lib.byteCells (hsText (l.take k))).length + S5.size ≤ 140737488355328) := by
        show _ ≤ _
        have h1 := hsText_len2 (l.take k) (fun y hy => by obtain ⟨e1, e2, e3, e4⟩ := HOK.out.each y (List.mem_of_mem_take hy); exact ⟨e4, by omega, by omega⟩)
        have h2 := HZ5.out
        rw [Lib.byteCells_length]
        rw [List.length_take] at h1
        have : l.length ≤ 250 := by omega
        omega
      have HCE : Hid (∀ W', Blk W' H #[.int .u32 (xp : Nat), .int .i64 (xn : Int), .int .i64 (un : Int), .string T] 64 → W'.cell? ⟨H, 0, none⟩ = some (.int .u32 (xp : Nat)) ∧ W'.cell? ⟨H, 1, none⟩ = some (.int .i64 (xn : Int)) ∧ W'.cell? ⟨H, 2, none⟩ = some (.int .i64 (un : Int)) ∧ W'.cell? ⟨H, 3, none⟩ = some (.string T)) := fun W' h => ⟨h.cell (i := 0) rfl, h.cell (i := 1) rfl, h.cell (i := 2) rfl, h.cell (i := 3) rfl⟩
      go_region_held3 (fun w' => w'.cell? ⟨H, 0, none⟩ = some (.int .u32 (xp : Nat)) ∧ w'.cell? ⟨H, 1, none⟩ = some (.int .i64 (xn : Int)) ∧ w'.cell? ⟨H, 2, none⟩ = some (.int .i64 (un : Int)) ∧ w'.cell? ⟨H, 3, none⟩ = some (.string T)) (first | exact HCE.out _ HBL3.out | exact HCE.out _ HBL2.out | exact HCE.out _ HBL1.out | go_keep) (first
        | (go_at_call 59; refine (text_any xp xn HN.out.1 HN.out.2.1 W.drew (HP.out _ HB2.out.drew)).mono ?_; rintro e w1 ⟨rfl, hb1⟩; rw [HXX.out]; have HBL1 := hT_hide (Blk.next (W := W.drew) HBL.out hb1); have HBD3 := hT_hide (builderF_next HBD2.out (Below.trans (Below.refl W.heap.size W).drew hb1)); have HB3 := hT_hide (HB2.out.trans ((Below.trans (Below.refl W.heap.size W).drew hb1).mono HB2.out.size)); clear hb1)
        | (go_at_call 57; refine (itoa_any un HN.out.2.2 w1 (HP.out _ HB3.out)).mono ?_; rintro e w2 ⟨rfl, hb2⟩; rw [HDD.out]; have HBL2 := hT_hide (HBL1.out.next hb2); have HBD4 := hT_hide (builderF_next HBD3.out hb2); have HB4 := hT_hide (HB3.out.trans (hb2.mono HB3.out.size)); clear hb2)
        | (go_at_call 80; refine (writeString_k w.heap.size w.heap.size _ S5 w2 HBD4.out HLEN.out HB4.out.size).mono ?_; rintro e w3 ⟨rfl, hbd5, hb5, ho5⟩; have HBL3 := hT_hide (ho5 _ _ HBL2.out HNE.out (fun c fz e => by cases e)); have HBD5 := hT_hide hbd5; have HB5 := hT_hide hb5; clear hbd5 hb5 ho5))
      go_wp2_with fail
      go_roundw
      case rel => exact ⟨k + 1, hlt, by go_num, by
        show Lib.IsBuilderF _ _ _ _ _ _
        rw [HSN.out, Lib.byteCells_append, ← HS5.out]
        exact .inr HBD5.out, HB4.out.trans HB5.out⟩
      case measure => simp [intOf]; omega
    · have hge : (l.length : Int) ≤ (k : Int) := by omega
      obtain rfl : k = l.length := by omega
      rw [List.take_length] at HBD
      have HST := hT_hide (string_k w.heap.size w.heap.size (hsText l) wr HBD.out HB.out.size)
      clear HBD
      go_wp2_with fail
      refine HST.out.mono ?_
      rintro e w3 ⟨rfl, _, hb3, _⟩
      go_wp2_with fail
      go_ret
      exact ⟨rfl, HB.out.trans hb3⟩
end Go.Proofs.YtmjdgakokldliaaGreatDoor
