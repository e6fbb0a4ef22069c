/-
  Own text. A right recipe as a text, pure, and the document's RecipeText by a contract.
-/
import Derived.Test.YthgajeobenagjaaGreatDoorRecRep
import Derived.Test.YthgajeobenagjaaGreatDoorText
namespace Go.Proofs.YthgajeobenagjaaGreatDoor
open Go.RowKit

def idsText (ids : List (Nat × Int)) : List UInt8 := (ids.map fun x => 32 :: idText x.1 x.2.toNat).flatten
def rcpText (nm : List UInt8) (len : Int) (p : Nat) (ids : List (Nat × Int)) : List UInt8 := nm ++ [32] ++ Lib.decDigits len.toNat ++ [32] ++ hexLast p 8 ++ idsText ids
theorem idsText_snoc (ids : List (Nat × Int)) (k : Nat) (h : k < ids.length) : idsText (ids.take (k + 1)) = idsText (ids.take k) ++ [32] ++ idText ids[k].1 ids[k].2.toNat := by
  rw [List.take_succ_eq_append_getElem h, idsText, List.map_append, List.flatten_append]
  simp [idsText]
theorem bytes_append (a b : ByteArray) : (a ++ b).data.toList = a.data.toList ++ b.data.toList := by
  rw [ByteArray.data_append, Array.toList_append]
theorem sz_blank : (⟨#[32]⟩ : ByteArray).size = 1 := rfl
theorem add_eq (a b : ByteArray) (h : a.size + b.size ≤ 100000) : ∃ c : ByteArray, (∀ w : World, (Op.stringOp .add a b).run Tryz.prog w = .ok (.string c) w) ∧ c.data.toList = a.data.toList ++ b.data.toList ∧ c.size = a.size + b.size :=
  ⟨a ++ b, fun w => run_string_add_sum w a b (by omega), bytes_append a b, ByteArray.size_append⟩
theorem bytes_of (l : List UInt8) : (⟨l.toArray⟩ : ByteArray).data.toList = l := by simp
theorem bytes_eq {a : ByteArray} {l : List UInt8} (h : a.data.toList = l) : a = ⟨l.toArray⟩ := by
  apply ByteArray.ext
  apply Array.toList_inj.1
  rw [h]
theorem idText_len (n l : Nat) (h : l ≤ 9223372036854775807) : (idText n l).length ≤ 28 := by
  have := decDigits_le19 l h
  simp [idText, hexLast_length]
  omega

set_option maxRecDepth 100000 in
set_option maxHeartbeats 4000000 in
theorem recipeText_any (nm : ByteArray) (hnm : nm.size ≤ 12) (len p : Nat) (hlen : len ≤ 4000) (hp : p < 4294967296) (v : Value) (ids : List (Nat × Int)) (w : World) (hv : IdsAt w v ids) (hids : ids.length ≤ 250)
    (hok : ∀ j (hj : j < ids.length), idOk ids[j] = true) (h32 : ∀ j (hj : j < ids.length), ids[j].1 < 4294967296) :
    Calls Tryz.prog 22 #[rcpV nm (len : Nat) (p : Nat) v] w fun e w' => e = .returned (.string ⟨(rcpText nm.data.toList len p ids).toArray⟩) ∧ Below w.heap.size w w' := by
  obtain ⟨pa, c, rfl, hcell⟩ := hv
  have HCELL : Hid (∀ W', Below w.heap.size w W' → ∀ i (h : i < ids.length), ∃ b o, pa = some ⟨b, o, none⟩ ∧ W'.cell? ⟨b, o + i * 2, none⟩ = some (.int .u32 (ids[i].1 : Nat)) ∧ W'.cell? ⟨b, o + i * 2 + 1, none⟩ = some (.int .i64 ids[i].2)) := fun W' hb i hi => by
    obtain ⟨b, o, hp, hlt, h1, h2⟩ := hcell i hi
    exact ⟨b, o, hp, (hb.cell (p := ⟨b, o + i * 2, none⟩) hlt).trans h1, (hb.cell (p := ⟨b, o + i * 2 + 1, none⟩) hlt).trans h2⟩
  have HOK : Hid (∀ j (hj : j < ids.length), idOk ids[j] = true) := hok
  have H32 : Hid (∀ j (hj : j < ids.length), ids[j].1 < 4294967296) := h32
  have HP : Hid (p < 4294967296) := hp
  have HL : Hid (len ≤ 4000) := hlen
  have HD : Hid ((Lib.decDigits len).length ≤ 19) := decDigits_le19 len (by omega)
  have hi2 : (ids.length : Int) ≤ 250 := by omega
  clear hcell hok h32 hp hlen
  obtain ⟨D, hD⟩ : ∃ D : ByteArray, (⟨(Lib.decDigits len).toArray⟩ : ByteArray) = D := ⟨_, rfl⟩
  obtain ⟨X, hX⟩ : ∃ X : ByteArray, (⟨(hexLast p 8).toArray⟩ : ByteArray) = X := ⟨_, rfl⟩
  have HDD : Hid ((⟨(Lib.decDigits len).toArray⟩ : ByteArray) = D) := hD
  have HXX : Hid ((⟨(hexLast p 8).toArray⟩ : ByteArray) = X) := hX
  have hDs : D.size ≤ 19 := by rw [← hD]; exact HD.out
  have hXs : X.size = 8 := by rw [← hX]; exact hexLast_length p 8
  clear hD hX
  obtain ⟨S1, hS1, hT1, hZ1⟩ := add_eq nm ⟨#[32]⟩ (by rw [sz_blank]; omega)
  obtain ⟨S2, hS2, hT2, hZ2⟩ := add_eq S1 D (by rw [hZ1, sz_blank]; omega)
  obtain ⟨S3, hS3, hT3, hZ3⟩ := add_eq S2 ⟨#[32]⟩ (by rw [hZ2, hZ1, sz_blank]; omega)
  obtain ⟨S4, hS4, hT4, hZ4⟩ := add_eq S3 X (by rw [hZ3, hZ2, hZ1, sz_blank]; omega)
  have HT : Hid (S4.data.toList = nm.data.toList ++ [32] ++ Lib.decDigits len ++ [32] ++ hexLast p 8) := by
    show _ = _
    rw [hT4, hT3, hT2, hT1, ← HDD.out, ← HXX.out]
  have HZ : Hid (S4.size ≤ 100) := by show _ ≤ _; rw [hZ4, hZ3, hZ2, hZ1, sz_blank]; omega
  clear hT1 hT2 hT3 hT4 hZ1 hZ2 hZ3 hZ4 hDs hXs
  go_enter Tryz.func22, Tryz.ntmps22
  go_wp2_with fail
  have hB0 : Below w.heap.size w (w.alloc (.cells #[.string nm, .int .i64 (len : Nat), .int .u32 (p : Nat), .slice pa ids.length c] 26)) := (Below.refl _ w).alloc (Nat.le_refl _) _
  have c0 := new_cell w #[.string nm, .int .i64 (len : Nat), .int .u32 (p : Nat), .slice pa ids.length c] 26 (i := 0) rfl rfl
  have c1 := new_cell w #[.string nm, .int .i64 (len : Nat), .int .u32 (p : Nat), .slice pa ids.length c] 26 (i := 1) rfl rfl
  have c2 := new_cell w #[.string nm, .int .i64 (len : Nat), .int .u32 (p : Nat), .slice pa ids.length c] 26 (i := 2) rfl rfl
  have c3 := new_cell w #[.string nm, .int .i64 (len : Nat), .int .u32 (p : Nat), .slice pa ids.length c] 26 (i := 3) rfl rfl
  have hsz : w.heap.size < (w.alloc (.cells #[.string nm, .int .i64 (len : Nat), .int .u32 (p : Nat), .slice pa ids.length c] 26)).heap.size := by simp
  obtain ⟨W, hW⟩ : ∃ W, w.alloc (.cells #[.string nm, .int .i64 (len : Nat), .int .u32 (p : Nat), .slice pa ids.length c] 26) = W := ⟨_, rfl⟩
  rw [hW] at hB0 c0 c1 c2 c3 hsz ⊢
  clear hW
  have HK : Hid (∀ W', Below W.heap.size W W' → W'.cell? ⟨w.heap.size, 0, none⟩ = some (.string nm) ∧ W'.cell? ⟨w.heap.size, 1, none⟩ = some (.int .i64 (len : Nat)) ∧ W'.cell? ⟨w.heap.size, 2, none⟩ = some (.int .u32 (p : Nat)) ∧ W'.cell? ⟨w.heap.size, 3, none⟩ = some (.slice pa ids.length c)) := fun W' hb =>
    ⟨(hb.cell (p := ⟨w.heap.size, 0, none⟩) hsz).trans c0, (hb.cell (p := ⟨w.heap.size, 1, none⟩) hsz).trans c1, (hb.cell (p := ⟨w.heap.size, 2, none⟩) hsz).trans c2, (hb.cell (p := ⟨w.heap.size, 3, none⟩) hsz).trans c3⟩
  go_region_held3 (fun w' => w'.cell? ⟨w.heap.size, 0, none⟩ = some (.string nm) ∧ w'.cell? ⟨w.heap.size, 1, none⟩ = some (.int .i64 (len : Nat)) ∧ w'.cell? ⟨w.heap.size, 2, none⟩ = some (.int .u32 (p : Nat))) (go_keep) (first
    | (go_at_call 45; refine (decimal_any len (by have := HL.out; omega) _).mono ?_; rintro e w2 ⟨rfl, hb2⟩; rw [HDD.out]; have hB2 : Below W.heap.size W w2 := (Below.refl _ W).drew.trans (hb2.mono (Nat.le_refl _)); obtain ⟨d0, d1, d2, d3⟩ := HK.out w2 hB2)
    | (go_at_call 46; refine (hexOf_any p HP.out _).mono ?_; rintro e w3 ⟨rfl, hb3⟩; rw [HXX.out]; have hB3 : Below W.heap.size W w3 := hB2.trans (hb3.mono hB2.size); obtain ⟨e0, e1, e2, e3⟩ := HK.out w3 hB3))
  go_wp2_with fail
  have hB3w : Below w.heap.size w w3 := hB0.trans (hB3.mono hB0.size)
  clear hS1 hS2 hS3 hS4 hb2 hb3 d0 d1 d2 d3 e0 e1 e2 e3 c0 c1 c2 c3 hB2 HDD HXX HP HL HD
  go_loopw [3, 4] (fun v i wr => ∃ (k : Nat) (ab : ByteArray), k ≤ ids.length ∧ i = .int .i64 k ∧ v = .string ab ∧ ab.data.toList = nm.data.toList ++ [32] ++ Lib.decDigits len ++ [32] ++ hexLast p 8 ++ idsText (ids.take k) ∧ ab.size ≤ 100 + 30 * k ∧ Below W.heap.size W wr) (fun _ i _ => ids.length - (intOf i).toNat)
  case atStart => exact ⟨0, S4, Nat.zero_le _, rfl, rfl, by rw [HT.out]; simp [idsText], HZ.out, hB3⟩
  case round =>
    obtain ⟨k, ab, hk, rfl, rfl, hab, habs, hbr⟩ := hrel
    have HAB : Hid (ab.data.toList = nm.data.toList ++ [32] ++ Lib.decDigits len ++ [32] ++ hexLast p 8 ++ idsText (ids.take k)) := hab
    have HAS : Hid (ab.size ≤ 100 + 30 * k) := habs
    clear hab habs
    obtain ⟨_, _, _, f3⟩ := HK.out wr hbr
    have hbrw : Below w.heap.size w wr := hB0.trans (hbr.mono hB0.size)
    by_cases hlt : k < ids.length
    · have hlt' : (k : Int) < (ids.length : Int) := by omega
      obtain ⟨b, o, rfl, hd0, hd1⟩ := HCELL.out wr hbrw k hlt
      have hok := HOK.out k hlt
      have h32 := H32.out k hlt
      have HNX : Hid (idsText (ids.take (k + 1)) = idsText (ids.take k) ++ [32] ++ idText ids[k].1 ids[k].2.toNat) := idsText_snoc ids k hlt
      obtain ⟨⟨n, l⟩, hy⟩ : ∃ y, ids[k] = y := ⟨_, rfl⟩
      rw [hy] at hok h32 hd0 hd1 HNX
      simp only [idOk, decide_eq_true_eq] at hok
      obtain ⟨l', rfl⟩ := Int.eq_ofNat_of_zero_le (show 0 ≤ l by omega)
      have HH : Hid (n < 4294967296) := h32
      have HLL : Hid (l' ≤ 64) := by show _ ≤ _; omega
      obtain ⟨I, hI⟩ : ∃ I : ByteArray, (⟨(idText n l').toArray⟩ : ByteArray) = I := ⟨_, rfl⟩
      have HII : Hid ((⟨(idText n l').toArray⟩ : ByteArray) = I) := hI
      have hIs : I.size ≤ 28 := by rw [← hI]; exact idText_len n l' (by omega)
      have has := HAS.out
      obtain ⟨S5, hS5, hT5, hZ5⟩ := add_eq ab ⟨#[32]⟩ (by rw [sz_blank]; omega)
      obtain ⟨S6, hS6, hT6, hZ6⟩ := add_eq S5 I (by rw [hZ5, sz_blank]; omega)
      have HT6 : Hid (S6.data.toList = nm.data.toList ++ [32] ++ Lib.decDigits len ++ [32] ++ hexLast p 8 ++ idsText (ids.take (k + 1))) := by
        show _ = _
        rw [hT6, hT5, HAB.out, HNX.out, ← hI]
        simp
      have HZ6 : Hid (S6.size ≤ 100 + 30 * (k + 1)) := by show _ ≤ _; rw [hZ6, hZ5, sz_blank]; omega
      clear hT5 hT6 hZ5 hZ6 hI hIs has hok h32 hy
      go_wp2_with fail
      refine (idText_any n l' HH.out (by have := HLL.out; omega) _).mono ?_
      rintro e w4 ⟨rfl, hb4⟩
      rw [HII.out]
      go_wp2_with fail
      go_roundw
      case rel => exact ⟨k + 1, S6, by omega, by go_num, rfl, HT6.out, HZ6.out, hbr.trans (hb4.mono hbr.size)⟩
      case measure => simp [intOf]; omega
    · have hge : (ids.length : Int) ≤ (k : Int) := by omega
      go_wp2_with fail
      go_ret
      refine ⟨?_, hbrw⟩
      have e := HAB.out
      rw [List.take_of_length_le (by omega)] at e
      have e2 : ab = ⟨(rcpText nm.data.toList len p ids).toArray⟩ := bytes_eq (by rw [e]; rfl)
      rw [e2]
      rfl
end Go.Proofs.YthgajeobenagjaaGreatDoor
