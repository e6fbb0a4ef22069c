/-
  Own text. What is joined of a recipe and pieces, pure, and the document's JoinOf by a contract.
-/
import Derived.Test.YthgajeobenagjaaGreatDoorRecOf
namespace Go.Proofs.YthgajeobenagjaaGreatDoor
open Go.RowKit

def idOfL (p : List UInt8) : Nat × Int := (pmore 2166136261 p, (p.length : Int))
/- The first piece that has another ID. -/
def firstOdd : Nat → List (List UInt8) → List (Nat × Int) → Option Nat
  | i, p :: l, x :: r => if idOfL p = x then firstOdd (i + 1) l r else some i
  | _, _, _ => none
def joinOf (nm : List UInt8) (len : Int) (p : Nat) (ids : List (Nat × Int)) (ls : List (List UInt8)) : List UInt8 × (Int × Int) :=
  if recFault nm len ids ≠ (0, -1) then ([], recFault nm len ids) else if ls.length ≠ ids.length then ([], (3, -1)) else
    match firstOdd 0 ls ids with
    | some i => ([], (9, (i : Int)))
    | none => if pmore 2166136261 ls.flatten = p then (ls.flatten, (0, -1)) else ([], (9, -1))
theorem recFault_code (nm : List UInt8) (len : Int) (ids : List (Nat × Int)) : recFault nm len ids = (0, -1) ∨ 0 < (recFault nm len ids).1 := by
  unfold recFault
  split
  · exact .inr (by decide)
  · split
    · exact .inr (by decide)
    · split
      · exact .inr (by decide)
      · split
        · exact .inr (by show (0 : Int) < 3; decide)
        · split
          · exact .inl rfl
          · exact .inr (by decide)
theorem recFault_zero {nm : List UInt8} {len : Int} {ids : List (Nat × Int)} (h : recFault nm len ids = (0, -1)) : isName nm = true ∧ (0 ≤ len ∧ len ≤ 4000) ∧ ids.length ≤ 250 ∧ firstBad 0 ids = none ∧ lenSum ids = len := by
  unfold recFault at h
  split at h
  · cases h
  · rename_i h1
    split at h
    · cases h
    · rename_i h2
      split at h
      · cases h
      · rename_i h3
        split at h
        · cases h
        · rename_i h4
          split at h
          · rename_i h5
            exact ⟨by simpa using h1, by omega, by omega, h4, h5⟩
          · cases h
theorem firstOdd_at : ∀ (ls : List (List UInt8)) (ids : List (Nat × Int)) (i k : Nat) (h : k < ls.length) (h' : k < ids.length), (∀ j (hj : j < ls.length) (hj' : j < ids.length), j < k → idOfL ls[j] = ids[j]) → idOfL ls[k] ≠ ids[k] → firstOdd i ls ids = some (i + k)
  | [], _, _, _, h, _, _, _ => by simp at h
  | _ :: _, [], _, _, _, h', _, _ => by simp at h'
  | p :: l, x :: r, i, 0, _, _, _, hb => by
    have hb' : idOfL p ≠ x := hb
    rw [firstOdd, if_neg hb']
    rfl
  | p :: l, x :: r, i, k + 1, h, h', ha, hb => by
    have h0 : idOfL p = x := ha 0 (by simp) (by simp) (by omega)
    rw [firstOdd, if_pos h0, firstOdd_at l r (i + 1) k (by simpa using h) (by simpa using h') (fun j hj hj' hk => by have := ha (j + 1) (by simpa using hj) (by simpa using hj') (by omega); simpa using this) (by simpa using hb)]
    congr 1
    omega
theorem firstOdd_none : ∀ (ls : List (List UInt8)) (ids : List (Nat × Int)) (i : Nat), (∀ j (hj : j < ls.length) (hj' : j < ids.length), idOfL ls[j] = ids[j]) → firstOdd i ls ids = none
  | [], _, _, _ => by simp [firstOdd]
  | _ :: _, [], _, _ => by simp [firstOdd]
  | p :: l, x :: r, i, ha => by
    have h0 : idOfL p = x := ha 0 (by simp) (by simp)
    rw [firstOdd, if_pos h0, firstOdd_none l r (i + 1) (fun j hj hj' => by have := ha (j + 1) (by simpa using hj) (by simpa using hj'); simpa using this)]

/- The recipe's box, the result, and a fault in a block of its own. -/
structure JoinW (w W : World) (nm : ByteArray) (len p : Int) (v : Value) (B : Nat) (c a : Int) : Prop where
  fault : FaultW w W nm len p v
  lo : w.heap.size + 1 < B
  hi : B < W.heap.size
  q0 : W.cell? ⟨B, 0, none⟩ = some (.int .i64 c)
  q1 : W.cell? ⟨B, 1, none⟩ = some (.int .i64 a)
theorem JoinW.next {w W W' : World} {nm : ByteArray} {len p : Int} {v : Value} {B : Nat} {c a : Int} (h : JoinW w W nm len p v B c a) (hb : Below W.heap.size W W') : JoinW w W' nm len p v B c a :=
  ⟨h.fault.next hb, h.lo, Nat.lt_of_lt_of_le h.hi hb.size, (hb.cell (p := ⟨B, 0, none⟩) h.hi).trans h.q0, (hb.cell (p := ⟨B, 1, none⟩) h.hi).trans h.q1⟩
theorem JoinW.new {w W : World} {nm : ByteArray} {len p : Int} {v : Value} (h : FaultW w W nm len p v) (c a : Int) (t : TypeId) : JoinW w (W.alloc (.cells #[.int .i64 c, .int .i64 a] t)) nm len p v W.heap.size c a :=
  ⟨h.next ((Below.refl _ W).alloc (Nat.le_refl _) _), h.size, by simp, new_cell W _ _ rfl rfl, new_cell W _ _ rfl rfl⟩

set_option maxRecDepth 100000 in
set_option maxHeartbeats 4000000 in
theorem joinOf_any (nm : ByteArray) (hnm : nm.size ≤ maxLen) (len : Int) (p : Nat) (v vl : Value) (ids : List (Nat × Int)) (ls : List (List UInt8)) (w : World) (hv : IdsAt w v ids) (hlen : ids.length ≤ maxLen) (hl : CellsAt w vl (ls.map txtV)) (hll : ls.length ≤ maxLen)
    (hsz : ∀ i (h : i < ls.length), ls[i].length ≤ 100) :
    Calls Tryz.prog 25 #[rcpV nm len (p : Nat) v, vl] w fun e w' => e = .returned (.tuple #[.string ⟨(joinOf nm.data.toList len p ids ls).1.toArray⟩, faultV (joinOf nm.data.toList len p ids ls).2.1 (joinOf nm.data.toList len p ids ls).2.2]) ∧ Below w.heap.size w w' := by
  have HV : Hid (IdsAt w v ids) := hv
  obtain ⟨pa, ca, rfl, hcell⟩ := hv
  obtain ⟨pb, cb, rfl, hcl⟩ := hl
  simp only [List.length_map, List.getElem_map] at hcl ⊢
  have HN : Hid (nm.size ≤ maxLen) := hnm
  have HLEN : Hid (ids.length ≤ maxLen) := hlen
  have HSZ : Hid (∀ i (h : i < ls.length), ls[i].length ≤ 100) := hsz
  have hl2 : (ids.length : Int) ≤ 9223372036854775807 := by unfold maxLen at hlen; omega
  have hl3 : (ls.length : Int) ≤ 9223372036854775807 := by unfold maxLen at hll; omega
  have HCI : Hid (∀ W', Below w.heap.size w W' → ∀ i (h : i < ids.length), ∃ b o, pa = some ⟨b, o, none⟩ ∧ W'.cell? ⟨b, o + i * 2, none⟩ = some (.int .u32 (ids[i].1 : Nat)) ∧ W'.cell? ⟨b, o + i * 2 + 1, none⟩ = some (.int .i64 ids[i].2)) := fun W' hb i hi => by
    obtain ⟨b, o, hp, hlt, h1, h2⟩ := hcell i hi
    exact ⟨b, o, hp, (hb.cell (p := ⟨b, o + i * 2, none⟩) hlt).trans h1, (hb.cell (p := ⟨b, o + i * 2 + 1, none⟩) hlt).trans h2⟩
  have HCL : Hid (∀ W', Below w.heap.size w W' → ∀ i (h : i < ls.length), ∃ b o, pb = some ⟨b, o, none⟩ ∧ W'.cell? ⟨b, o + i, none⟩ = some (txtV ls[i])) := fun W' hb i hi => by
    obtain ⟨b, o, hp, hlt, h1⟩ := hcl i hi
    exact ⟨b, o, hp, (hb.cell (p := ⟨b, o + i, none⟩) hlt.1).trans h1⟩
  clear hcell hcl hnm hlen hll hsz
  go_enter Tryz.func25, Tryz.ntmps25
  go_wp2_with fail
  have hF := FaultW.new w nm len p (.slice pa ids.length ca) 26 46
  obtain ⟨W, hW⟩ : ∃ W, (w.alloc (.cells #[.string nm, .int .i64 len, .int .u32 (p : Nat), .slice pa ids.length ca] 26)).alloc (.cells #[.int .i64 0, .int .i64 0] 46) = W := ⟨_, rfl⟩
  rw [hW] at hF ⊢
  clear hW
  refine (recipeFault_any nm HN.out len (p : Nat) _ ids _ (HV.out.below hF.below) HLEN.out).mono ?_
  rintro e w2 ⟨rfl, hb2⟩
  have hF2 := hF.next hb2
  obtain ⟨⟨fc, fa⟩, hf⟩ : ∃ f, recFault nm.data.toList len ids = f := ⟨_, rfl⟩
  have HF : Hid (recFault nm.data.toList len ids = (fc, fa)) := hf
  rw [hf]
  have hcode := recFault_code nm.data.toList len ids
  rw [hf] at hcode
  have hJ := JoinW.new hF2 fc fa 46
  clear hf hF hF2 hb2
  by_cases hc0 : 0 < fc
  · have HR : Hid (joinOf nm.data.toList len p ids ls = ([], (fc, fa))) := by
      show _ = _
      unfold joinOf
      rw [if_pos (by rw [HF.out]; intro e; cases e; omega), HF.out]
    clear hcode
    go_wp2_with fail
    obtain ⟨W3, hW3⟩ : ∃ W3, w2.alloc (.cells #[.int .i64 fc, .int .i64 fa] 46) = W3 := ⟨_, rfl⟩
    rw [hW3] at hJ ⊢
    clear hW3
    have q0 := hJ.q0
    have q1 := hJ.q1
    have k0 := hJ.fault.r0
    have k1 := hJ.fault.r1
    have f0 := hJ.fault.f0
    have f1 := hJ.fault.f1
    go_region
    go_wp2_with fail
    exact bodyPost_ret (v := .tuple #[.string ⟨#[]⟩, faultV fc fa]) (by simp [results, Tryz.results25, go_sem, k0, k1]) rfl ⟨by rw [HR.out], ((hJ.fault.below.setCell (p := ⟨w.heap.size + 1, 0, none⟩) (by simp) _).setCell (p := ⟨w.heap.size + 1, 1, none⟩) (by simp) _).drew⟩
  · have hz : (fc, fa) = ((0 : Int), (-1 : Int)) := by
      rcases hcode with h | h
      · exact h
      · exact absurd h hc0
    obtain ⟨rfl, rfl⟩ : fc = 0 ∧ fa = -1 := by simpa using hz
    clear hz hcode hc0
    obtain ⟨z1, z2, z3, z4, z5⟩ := recFault_zero HF.out
    have H250 : Hid (ids.length ≤ 250) := z3
    clear z1 z2 z3 z4 z5
    by_cases hll : ls.length = ids.length
    · have HLL : Hid (ls.length = ids.length) := hll
      have hq : ((ls.length : Int) == (ids.length : Int)) = true := by rw [beq_iff_eq]; omega
      have hqn : ((ls.length : Int) != (ids.length : Int)) = false := by rw [bne, hq]; rfl
      clear hll
      have b3 := hJ.fault.b3
      go_wp2_with fail
      obtain ⟨W3, hW3⟩ : ∃ W3, w2.alloc (.cells #[.int .i64 0, .int .i64 (-1)] 46) = W3 := ⟨_, rfl⟩
      rw [hW3] at hJ ⊢
      clear hW3 b3
      obtain ⟨B, hB⟩ : ∃ B, w2.heap.size = B := ⟨_, rfl⟩
      rw [hB] at hJ ⊢
      clear hB
      go_loopw [7, 8] (fun v i wr => ∃ (k : Nat) (ab : ByteArray), k ≤ ls.length ∧ i = .int .i64 k ∧ v = .string ab ∧ ab.data.toList = (ls.take k).flatten ∧ ab.size ≤ 100 * k ∧ (∀ j (hj : j < ls.length) (hj' : j < ids.length), j < k → idOfL ls[j] = ids[j]) ∧ JoinW w wr nm len p (.slice pa ids.length ca) B 0 (-1)) (fun _ i _ => ls.length - (intOf i).toNat)
      case atStart => exact ⟨0, ⟨#[]⟩, Nat.zero_le _, rfl, rfl, rfl, Nat.le_refl _, fun j _ _ h => by omega, hJ⟩
      case round =>
        obtain ⟨k, ab, hk, rfl, rfl, hab, habs, hsame, hJr⟩ := hrel
        have HAB : Hid (ab.data.toList = (ls.take k).flatten) := hab
        have HAS : Hid (ab.size ≤ 100 * k) := habs
        have HSM : Hid (∀ j (hj : j < ls.length) (hj' : j < ids.length), j < k → idOfL ls[j] = ids[j]) := hsame
        clear hab habs hsame hJ
        have b3 := hJr.fault.b3
        by_cases hlt : k < ls.length
        · have hlt' : (k : Int) < (ls.length : Int) := by omega
          have hki : k < ids.length := by have := HLL.out; omega
          have hki' : (k : Int) < (ids.length : Int) := by omega
          obtain ⟨bi, oi, rfl, hi0, hi1⟩ := HCI.out wr hJr.fault.below k hki
          obtain ⟨bl, ol, rfl, hl0⟩ := HCL.out wr hJr.fault.below k hlt
          have HCI2 : Hid (∀ W', Below w.heap.size w W' → W'.cell? ⟨bi, oi + k * 2, none⟩ = some (.int .u32 (ids[k].1 : Nat)) ∧ W'.cell? ⟨bi, oi + k * 2 + 1, none⟩ = some (.int .i64 ids[k].2)) := fun W' hb => by
            obtain ⟨b, o, hp, h1, h2⟩ := HCI.out W' hb k hki
            cases hp
            exact ⟨h1, h2⟩
          have HCL2 : Hid (∀ W', Below w.heap.size w W' → W'.cell? ⟨bl, ol + k, none⟩ = some (txtV ls[k])) := fun W' hb => by
            obtain ⟨b, o, hp, h1⟩ := HCL.out W' hb k hlt
            cases hp
            exact h1
          have HLS : Hid (ls[k].length ≤ 100) := HSZ.out k hlt
          have HID : Hid (idOfL ls[k] = (pmore 2166136261 ls[k], (ls[k].length : Int))) := rfl
          have HTK : Hid ((ls.take (k + 1)).flatten = (ls.take k).flatten ++ ls[k]) := by
            show _ = _
            rw [List.take_succ_eq_append_getElem hlt, List.flatten_append]
            simp
          have HST : Hid (idOfL ls[k] = ids[k] → ∀ j (hj : j < ls.length) (hj' : j < ids.length), j < k + 1 → idOfL ls[j] = ids[j]) := fun e j hj hj' h => by
            by_cases ej : j = k
            · subst ej; exact e
            · exact HSM.out j hj hj' (by omega)
          have HOD : Hid (idOfL ls[k] ≠ ids[k] → firstOdd 0 ls ids = some k) := fun e => by
            have := firstOdd_at ls ids 0 k hlt hki (fun j hj hj' h => HSM.out j hj hj' h) e
            rwa [Nat.zero_add] at this
          obtain ⟨q, hq⟩ : ∃ q : ByteArray, (⟨ls[k].toArray⟩ : ByteArray) = q := ⟨_, rfl⟩
          have hqd : q.data.toList = ls[k] := by rw [← hq]
          have hqs : (ls[k].length : Int) = (q.size : Int) := by rw [← hq]; rfl
          have hqn : q.size ≤ 100 := by have := HLS.out; omega
          rw [txtV, hq] at hl0 HCL2
          rw [← hqd] at HTK
          rw [hqs, ← hqd] at HID
          obtain ⟨P, hP⟩ : ∃ P, pmore 2166136261 q.data.toList = P := ⟨_, rfl⟩
          have HPP : Hid (pmore 2166136261 q.data.toList = P) := hP
          obtain ⟨L, hL⟩ : ∃ L : Int, (q.size : Int) = L := ⟨_, rfl⟩
          have HQL : Hid ((q.size : Int) = L) := hL
          rw [hP, hL] at HID
          obtain ⟨⟨n, l⟩, hy⟩ : ∃ y, ids[k] = y := ⟨_, rfl⟩
          obtain ⟨z, hz⟩ : ∃ z, idOfL ls[k] = z := ⟨_, rfl⟩
          rw [hy] at hi0 hi1 HCI2 HST HOD
          rw [hqd, hz] at HID
          rw [hz] at HST HOD
          have HQM : Hid (q.size ≤ maxLen) := by show _ ≤ _; unfold maxLen; omega
          have HQN : Hid (q.size ≤ 100) := hqn
          clear hqs hq hqd hP hL hy hz HLS hqn
          by_cases hid : P = n ∧ L = l
          · obtain ⟨rfl, rfl⟩ := hid
            go_wp2_with fail
            go_region_held3 (fun w' => w'.cell? ⟨bl, ol + k, none⟩ = some (.string q) ∧ w'.cell? ⟨w.heap.size, 3, none⟩ = some (.slice (some ⟨bi, oi, none⟩) ids.length ca) ∧ w'.cell? ⟨bi, oi + k * 2, none⟩ = some (.int .u32 (P : Nat)) ∧ w'.cell? ⟨bi, oi + k * 2 + 1, none⟩ = some (.int .i64 L)) (go_keep) (first
              | (go_at_call 41; refine (idOf_any q _ HQM.out).mono ?_; rintro e w4 ⟨rfl, hb4⟩; rw [HPP.out, HQL.out]; have hJ4 : JoinW w w4 nm len p (.slice (some ⟨bi, oi, none⟩) ids.length ca) B 0 (-1) := hJr.next ((Below.refl _ wr).drew.trans (hb4.mono (Nat.le_refl _))); have y3 := hJ4.fault.b3; obtain ⟨y0, y1⟩ := HCI2.out w4 hJ4.fault.below; have y2 := HCL2.out w4 hJ4.fault.below))
            have has := HAS.out
            have hqn := HQN.out
            have h250 := H250.out
            obtain ⟨S5, hS5, hT5, hZ5⟩ := add_eq ab q (by omega)
            have HT5 : Hid (S5.data.toList = (ls.take (k + 1)).flatten) := by show _ = _; rw [hT5, HAB.out, HTK.out]
            have HZ5 : Hid (S5.size ≤ 100 * (k + 1)) := by show _ ≤ _; rw [hZ5]; omega
            clear has hqn hT5 hZ5 h250
            go_wp2_with fail
            go_roundw
            case rel => exact ⟨k + 1, S5, by omega, by go_num, rfl, HT5.out, HZ5.out, HST.out HID.out, hJ4⟩
            case measure => simp [intOf]; omega
          · by_cases hPn : P = n
            · subst hPn
              have hLl : L ≠ l := fun e => hid ⟨rfl, e⟩
              have HR : Hid (joinOf nm.data.toList len p ids ls = ([], (9, (k : Int)))) := by
                show _ = _
                unfold joinOf
                rw [if_neg (by rw [HF.out]; simp), if_neg (by rw [HLL.out]; simp), HOD.out (by rw [HID.out]; intro e; cases e; exact hid ⟨rfl, rfl⟩)]
              have hb : (L == l) = false := by rw [beq_eq_false_iff_ne]; exact hLl
              clear hid
              go_wp2_with fail
              go_region_held3 (fun w' => w'.cell? ⟨bl, ol + k, none⟩ = some (.string q) ∧ w'.cell? ⟨w.heap.size, 3, none⟩ = some (.slice (some ⟨bi, oi, none⟩) ids.length ca) ∧ w'.cell? ⟨bi, oi + k * 2, none⟩ = some (.int .u32 (P : Nat)) ∧ w'.cell? ⟨bi, oi + k * 2 + 1, none⟩ = some (.int .i64 l)) (go_keep) (first
                | (go_at_call 41; refine (idOf_any q _ HQM.out).mono ?_; rintro e w4 ⟨rfl, hb4⟩; rw [HPP.out, HQL.out]; have hJ4 : JoinW w w4 nm len p (.slice (some ⟨bi, oi, none⟩) ids.length ca) B 0 (-1) := hJr.next ((Below.refl _ wr).drew.trans (hb4.mono (Nat.le_refl _))); have y3 := hJ4.fault.b3; obtain ⟨y0, y1⟩ := HCI2.out w4 hJ4.fault.below; have y2 := HCL2.out w4 hJ4.fault.below))
              have k0 := hJ4.fault.r0
              have k1 := hJ4.fault.r1
              have f0 := hJ4.fault.f0
              have f1 := hJ4.fault.f1
              go_wp2_with fail
              exact bodyPost_ret (v := .tuple #[.string ⟨#[]⟩, faultV 9 (k : Int)]) (by simp [results, Tryz.results25, go_sem, k0, k1]) rfl ⟨by rw [HR.out], (hJ4.fault.below.setCell (p := ⟨w.heap.size + 1, 0, none⟩) (by simp) _).setCell (p := ⟨w.heap.size + 1, 1, none⟩) (by simp) _⟩
            · have hPn' : (P : Int) ≠ (n : Int) := by omega
              have HR : Hid (joinOf nm.data.toList len p ids ls = ([], (9, (k : Int)))) := by
                show _ = _
                unfold joinOf
                rw [if_neg (by rw [HF.out]; simp), if_neg (by rw [HLL.out]; simp), HOD.out (by rw [HID.out]; intro e; cases e; exact hid ⟨rfl, rfl⟩)]
              have hb : ((P : Int) == (n : Int)) = false := by rw [beq_eq_false_iff_ne]; exact hPn'
              clear hid
              go_wp2_with fail
              go_region_held3 (fun w' => w'.cell? ⟨bl, ol + k, none⟩ = some (.string q) ∧ w'.cell? ⟨w.heap.size, 3, none⟩ = some (.slice (some ⟨bi, oi, none⟩) ids.length ca) ∧ w'.cell? ⟨bi, oi + k * 2, none⟩ = some (.int .u32 (n : Nat)) ∧ w'.cell? ⟨bi, oi + k * 2 + 1, none⟩ = some (.int .i64 l)) (go_keep) (first
                | (go_at_call 41; refine (idOf_any q _ HQM.out).mono ?_; rintro e w4 ⟨rfl, hb4⟩; rw [HPP.out, HQL.out]; have hJ4 : JoinW w w4 nm len p (.slice (some ⟨bi, oi, none⟩) ids.length ca) B 0 (-1) := hJr.next ((Below.refl _ wr).drew.trans (hb4.mono (Nat.le_refl _))); have y3 := hJ4.fault.b3; obtain ⟨y0, y1⟩ := HCI2.out w4 hJ4.fault.below; have y2 := HCL2.out w4 hJ4.fault.below))
              have k0 := hJ4.fault.r0
              have k1 := hJ4.fault.r1
              have f0 := hJ4.fault.f0
              have f1 := hJ4.fault.f1
              go_wp2_with fail
              exact bodyPost_ret (v := .tuple #[.string ⟨#[]⟩, faultV 9 (k : Int)]) (by simp [results, Tryz.results25, go_sem, k0, k1]) rfl ⟨by rw [HR.out], (hJ4.fault.below.setCell (p := ⟨w.heap.size + 1, 0, none⟩) (by simp) _).setCell (p := ⟨w.heap.size + 1, 1, none⟩) (by simp) _⟩
        · have hge : (ls.length : Int) ≤ (k : Int) := by omega
          have hkn : k = ls.length := by omega
          have hfl : ab.data.toList = ls.flatten := by
            have := HAB.out
            rwa [List.take_of_length_le (by omega)] at this
          have HNO : Hid (firstOdd 0 ls ids = none) := firstOdd_none ls ids 0 (fun j hj hj' => HSM.out j hj hj' (by omega))
          have HJN : Hid (joinOf nm.data.toList len p ids ls = if pmore 2166136261 ab.data.toList = p then (ab.data.toList, (0, -1)) else ([], (9, -1))) := by
            show _ = _
            unfold joinOf
            rw [if_neg (by rw [HF.out]; simp), if_neg (by rw [HLL.out]; simp), HNO.out, hfl]
          have HAM : Hid (ab.size ≤ maxLen) := by
            show _ ≤ _
            have h1 := HAS.out
            have h2 := H250.out
            have h3 := HLL.out
            unfold maxLen
            omega
          have b2 := hJr.fault.b2
          obtain ⟨P, hP⟩ : ∃ P, pmore 2166136261 ab.data.toList = P := ⟨_, rfl⟩
          have HPP : Hid (pmore 2166136261 ab.data.toList = P) := hP
          rw [hP] at HJN
          clear hP hfl hkn HNO
          by_cases hPp : P = p
          · subst hPp
            have HR : Hid (joinOf nm.data.toList len P ids ls = (ab.data.toList, (0, -1))) := by show _ = _; rw [HJN.out, if_pos rfl]
            clear HJN
            go_wp2_with fail
            go_region_held3 (fun w' => w'.cell? ⟨w.heap.size, 2, none⟩ = some (.int .u32 (P : Nat))) (go_keep) (first
              | (go_at_call 42; refine (printOf_any ab _ HAM.out).mono ?_; rintro e w4 ⟨rfl, hw4⟩; subst hw4; rw [HPP.out]))
            have q0 := hJr.q0
            have q1 := hJr.q1
            have k0 := hJr.fault.r0
            have k1 := hJr.fault.r1
            have f0 := hJr.fault.f0
            have f1 := hJr.fault.f1
            go_wp2_with fail
            go_region
            go_wp2_with fail
            have HAE : Hid (ab = ⟨ab.data.toList.toArray⟩) := bytes_eq rfl
            exact bodyPost_ret (v := .tuple #[.string ab, faultV 0 (-1)]) (by simp [results, Tryz.results25, go_sem, k0, k1]) rfl ⟨by rw [HR.out, ← HAE.out], ((hJr.fault.below.setCell (p := ⟨w.heap.size + 1, 0, none⟩) (by simp) _).setCell (p := ⟨w.heap.size + 1, 1, none⟩) (by simp) _).drew.drew⟩
          · have HR : Hid (joinOf nm.data.toList len p ids ls = ([], (9, -1))) := by show _ = _; rw [HJN.out, if_neg hPp]
            have hb : ((P : Int) == (p : Int)) = false := by rw [beq_eq_false_iff_ne]; omega
            have hbn : ((P : Int) != (p : Int)) = true := by rw [bne, hb]; rfl
            clear HJN hPp
            go_wp2_with fail
            go_region_held3 (fun w' => w'.cell? ⟨w.heap.size, 2, none⟩ = some (.int .u32 (p : Nat))) (go_keep) (first
              | (go_at_call 42; refine (printOf_any ab _ HAM.out).mono ?_; rintro e w4 ⟨rfl, hw4⟩; subst hw4; rw [HPP.out]))
            go_wp2_with fail
            refine (bare_any 9 _).mono ?_
            rintro e w4 ⟨rfl, hb4⟩
            have hJ4 : JoinW w w4 nm len p (.slice pa ids.length ca) B 0 (-1) := hJr.next ((Below.refl _ wr).drew.trans (hb4.mono (Nat.le_refl _)))
            have k0 := hJ4.fault.r0
            have k1 := hJ4.fault.r1
            have f0 := hJ4.fault.f0
            have f1 := hJ4.fault.f1
            go_wp2_with fail
            exact bodyPost_ret (v := .tuple #[.string ⟨#[]⟩, faultV 9 (-1)]) (by simp [results, Tryz.results25, go_sem, k0, k1]) rfl ⟨by rw [HR.out], (hJ4.fault.below.setCell (p := ⟨w.heap.size + 1, 0, none⟩) (by simp) _).setCell (p := ⟨w.heap.size + 1, 1, none⟩) (by simp) _⟩
    · have HR : Hid (joinOf nm.data.toList len p ids ls = ([], (3, -1))) := by
        show _ = _
        unfold joinOf
        rw [if_neg (by rw [HF.out]; simp), if_pos hll]
      have hq : ((ls.length : Int) == (ids.length : Int)) = false := by rw [beq_eq_false_iff_ne]; omega
      have hqn : ((ls.length : Int) != (ids.length : Int)) = true := by rw [bne, hq]; rfl
      have b3 := hJ.fault.b3
      clear hll
      go_wp2_with fail
      refine (bare_any 3 _).mono ?_
      rintro e w4 ⟨rfl, hb4⟩
      have hJ4 := hJ.next hb4
      have k0 := hJ4.fault.r0
      have k1 := hJ4.fault.r1
      have f0 := hJ4.fault.f0
      have f1 := hJ4.fault.f1
      go_wp2_with fail
      exact bodyPost_ret (v := .tuple #[.string ⟨#[]⟩, faultV 3 (-1)]) (by simp [results, Tryz.results25, go_sem, k0, k1]) rfl ⟨by rw [HR.out], (hJ4.fault.below.setCell (p := ⟨w.heap.size + 1, 0, none⟩) (by simp) _).setCell (p := ⟨w.heap.size + 1, 1, none⟩) (by simp) _⟩
end Go.Proofs.YthgajeobenagjaaGreatDoor
