/-
  Own text. The program's recipe.Join by a contract.
  Own text. (*node.Node).Get by a contract, at a file that is there and whose bin has its pieces.
  Own text. What putting a file makes of a node, pure: its bins stay right, the file is there, its rep has a bin; the closed example of the law.
-/
import Derived.Test.YtcbcjefefmbccaaDoorG24
import Derived.Deep.RegionHeld3
import Derived.Test.YtcbcjefefmbccaaDoorG12
import Derived.Test.YtcbcjefefmbccaaDoorG01
import Derived.Maps.Own
import Derived.Test.YtcbcjefefmbccaaDoorG19
import Derived.Laws.MakeOwn
namespace Go.Proofs.YtcbcjefefmbccaaDoor
open Go.RowKit

theorem join_none (l : List (List UInt8)) : Lib.join l [] = l.flatten := by
  cases l with
  | nil => rfl
  | cons x r =>
    rw [Lib.join_cons]
    unfold Lib.joinTail
    simp
theorem flatten_le : ∀ (l : List (List UInt8)), (∀ i (h : i < l.length), l[i].length ≤ 100) → l.flatten.length ≤ 100 * l.length
  | [], _ => by simp
  | x :: r, h => by
    have ih := flatten_le r fun i hi => by have := h (i + 1) (by simpa using hi); simpa using this
    have h0 := h 0 (by simp)
    rw [List.flatten_cons, List.length_append, List.length_cons]
    simp at h0
    omega
def joinPost (a : Nat → Addr) (nm : ByteArray) (len : Int) (p : Nat) (ids : List (Nat × Int)) (ls : List (List UInt8)) (w : World) (e : Ending) (w' : World) : Prop := ∃ ev, e = .returned (.tuple #[.string ⟨(joinOf nm.data.toList len p ids ls).1.toArray⟩, ev]) ∧ ErrIn w.heap.size w' a ev (joinOf nm.data.toList len p ids ls).2 ∧ Below w.heap.size w w'

/- strings.Join of a slice of texts with nothing between. -/
theorem joinTexts (vl : Value) (ls : List (List UInt8)) (w : World) (hl : CellsAt w vl (ls.map txtV)) (hn : ls.length ≤ 50000) (hsz : ∀ i (h : i < ls.length), ls[i].length ≤ 100) :
    Calls Tryd.prog 135 #[vl, .string ⟨#[]⟩] w fun e w' => e = .returned (.string ⟨ls.flatten.toArray⟩) ∧ Below w.heap.size w w' := by
  obtain ⟨p, c, rfl, hc⟩ := hl
  rw [List.length_map]
  by_cases h0 : ls.length = 0
  · have e : ls = [] := List.eq_nil_of_length_eq_zero h0
    subst e
    exact (Tryd.strings_Join_none p c ⟨#[]⟩ w).mono fun e w' ⟨h1, h2⟩ => ⟨h1, by rw [h2]; exact Below.refl _ _⟩
  · obtain ⟨b, o, rfl, ⟨hb, hcap⟩, _⟩ := hc 0 (by rw [List.length_map]; omega)
    rw [List.length_map] at hcap
    have hx : (ls.map fun l => (⟨l.toArray⟩ : ByteArray)).length = ls.length := List.length_map _
    have e1 : Lib.join ((ls.map fun l => (⟨l.toArray⟩ : ByteArray)).map (·.data.toList)) [] = ls.flatten := by
      rw [List.map_map]
      have : ((fun (x : ByteArray) => x.data.toList) ∘ fun (l : List UInt8) => (⟨l.toArray⟩ : ByteArray)) = id := by funext l; simp
      rw [this, List.map_id, join_none]
    have hfl := flatten_le ls hsz
    have hj := Tryd.strings_Join b o c (ls.map fun l => (⟨l.toArray⟩ : ByteArray)) ⟨#[]⟩ w (fun j x hj => by
      have hjl : j < ls.length := by rw [← hx]; exact (List.getElem?_eq_some_iff.1 hj).1
      obtain ⟨b', o', hp, _, hcell⟩ := hc j (by rw [List.length_map]; exact hjl)
      cases hp
      rw [hcell, List.getElem_map]
      rw [List.getElem?_eq_getElem (by rw [hx]; exact hjl), List.getElem_map] at hj
      rw [← Option.some.inj hj]) hb (by rw [hx]; omega) (by rw [hx]; exact hcap) (by show (Lib.join _ []).length ≤ _; rw [e1]; omega)
    rw [hx] at hj
    refine hj.mono fun e w' ⟨h1, h2⟩ => ⟨?_, h2⟩
    rw [h1]
    exact congrArg (fun l : List UInt8 => Ending.returned (.string ⟨l.toArray⟩)) e1

set_option maxRecDepth 100000 in
set_option maxHeartbeats 4000000 in
theorem rjoin_any (a : Nat → Addr) (nm : ByteArray) (hnm : nm.size ≤ maxLen) (len : Int) (p : Nat) (v vl : Value) (ids : List (Nat × Int)) (ls : List (List UInt8)) (w : World) (hE : ErrE [1, 2, 3, 6, 8] w a) (hv : IdsAt w v ids) (hlen : ids.length ≤ maxLen) (hl : CellsAt w vl (ls.map txtV)) (hll : ls.length ≤ 50000)
    (hsz : ∀ i (h : i < ls.length), ls[i].length ≤ 100) :
    Calls Tryd.prog 101 #[rcpV nm len (p : Nat) v, vl] w fun e w' => joinPost a nm len p ids ls w e w' := by
  have HB : Hid (∀ o, Below w.heap.size w (w.alloc o)) := fun o => (Below.refl _ w).alloc (Nat.le_refl _) o
  have HC : Hid (∀ o, Calls Tryd.prog 134 #[rcpV nm len (p : Nat) v] (w.alloc o) fun e w' => ∃ ev, e = .returned ev ∧ ErrIn (w.alloc o).heap.size w' a ev (recFault nm.data.toList len ids) ∧ Below (w.alloc o).heap.size (w.alloc o) w') := fun o => check_any a nm hnm len p v ids _ (hE.below (HB.out o) (Nat.le_refl _)) (hv.below (HB.out o)) hlen
  have HG : Hid (∀ W', Below w.heap.size w W' → ∀ i, ([1, 2, 3, 6, 8] : List Nat).contains i = true → W'.cell? ⟨errG i, 0, none⟩ = some (sentV a i)) := fun W' hb i hi => (hE.below hb (Nat.le_refl _)).glob i hi
  have HJT : Hid (∀ W', Below w.heap.size w W' → Calls Tryd.prog 135 #[vl, .string ⟨#[]⟩] W' fun e w' => e = .returned (.string ⟨ls.flatten.toArray⟩) ∧ Below W'.heap.size W' w') := fun W' hb => joinTexts vl ls W' (hl.below hb) hll hsz
  obtain ⟨pa, ca, rfl, hcell⟩ := hv
  obtain ⟨pb, cb, rfl, hcl⟩ := hl
  simp only [List.length_map, List.getElem_map] at hcl ⊢
  simp only [List.length_map] at HJT
  have HSZ : Hid (∀ i (h : i < ls.length), ls[i].length ≤ 100) := hsz
  have hl2 : (ids.length : Int) ≤ 9223372036854775807 := by unfold maxLen at hlen; omega
  have hl3 : (ls.length : Int) ≤ 50000 := by omega
  have HCI : Hid (∀ W', Below w.heap.size w W' → ∀ i (h : i < ids.length), ∃ b o, pa = some ⟨b, o, none⟩ ∧ W'.cell? ⟨b, o + i * 2, none⟩ = some (.int .u32 (ids[i].1 : Nat)) ∧ W'.cell? ⟨b, o + i * 2 + 1, none⟩ = some (.int .i64 ids[i].2)) := fun W' hb i hi => by
    obtain ⟨b, o, hp, hlt, h1, h2⟩ := hcell i hi
    exact ⟨b, o, hp, (hb.cell (p := ⟨b, o + i * 2, none⟩) hlt).trans h1, (hb.cell (p := ⟨b, o + i * 2 + 1, none⟩) hlt).trans h2⟩
  have HCL : Hid (∀ W', Below w.heap.size w W' → ∀ i (h : i < ls.length), ∃ b o, pb = some ⟨b, o, none⟩ ∧ W'.cell? ⟨b, o + i, none⟩ = some (txtV ls[i])) := fun W' hb i hi => by
    obtain ⟨b, o, hp, hlt, h1⟩ := hcl i hi
    exact ⟨b, o, hp, (hb.cell (p := ⟨b, o + i, none⟩) hlt.1).trans h1⟩
  clear hcell hcl hnm hlen hll hsz hE
  go_enter Tryd.func101, Tryd.ntmps101
  go_wp2_with fail
  refine (HC.out _).mono ?_
  rintro e w1 ⟨ev, rfl, he, hb1⟩
  have hbx := HB.out (.cells #[.string nm, .int .i64 len, .int .u32 (p : Nat), .slice pa ids.length ca] 87)
  have hX0 := Blk.new w #[.string nm, .int .i64 len, .int .u32 (p : Nat), .slice pa ids.length ca] 87
  have hX1 := hX0.next hb1
  have hB1 : Below w.heap.size w w1 := hbx.trans (hb1.mono hbx.size)
  replace he := he.low hbx.size
  clear hb1 hX0 hbx HC
  rcases recFault_code nm.data.toList len ids with hf | hf
  · rw [hf] at he
    obtain rfl := he.is_nil
    have HF : Hid (recFault nm.data.toList len ids = (0, -1)) := hf
    obtain ⟨_, _, h250, _, _⟩ := recFault_zero hf
    have H250 : Hid (ids.length ≤ 250) := h250
    clear he hf h250
    have b3 := hX1.cell (i := 3) rfl
    by_cases hll : ls.length = ids.length
    · have HLL : Hid (ls.length = ids.length) := hll
      have hq : ((ls.length : Int) == (ids.length : Int)) = true := by rw [beq_iff_eq]; omega
      have hqn : ((ls.length : Int) != (ids.length : Int)) = false := by rw [bne, hq]; rfl
      clear hll
      go_wp2_with fail
      clear b3
      go_loopw [24] (fun i wr => ∃ (k : Nat), k ≤ ls.length ∧ i = .int .i64 k ∧ (∀ j (hj : j < ls.length) (hj' : j < ids.length), j < k → idOfL ls[j] = ids[j]) ∧ Below w.heap.size w wr ∧ Blk wr w.heap.size #[.string nm, .int .i64 len, .int .u32 (p : Nat), .slice pa ids.length ca] 87) (fun i _ => ls.length - (intOf i).toNat)
      case atStart => exact ⟨0, Nat.zero_le _, rfl, fun j _ _ h => by omega, hB1, hX1⟩
      case round =>
        obtain ⟨k, hk, rfl, hsame, hbr, hX⟩ := hrel
        have HSM : Hid (∀ j (hj : j < ls.length) (hj' : j < ids.length), j < k → idOfL ls[j] = ids[j]) := hsame
        clear hsame hB1 hX1
        have b2 := hX.cell (i := 2) rfl
        have b3 := hX.cell (i := 3) rfl
        by_cases hlt : k < ls.length
        · have hlt' : (k : Int) < (ls.length : Int) := by omega
          have hki : k < ids.length := by have := HLL.out; omega
          have hki' : (k : Int) < (ids.length : Int) := by omega
          have hk0 : (0 : Int) ≤ (k : Int) := by omega
          obtain ⟨bi, oi, rfl, hi0, hi1⟩ := HCI.out wr hbr k hki
          obtain ⟨bl, ol, rfl, hl0⟩ := HCL.out wr hbr k hlt
          have HCI2 : Hid (∀ W', Below w.heap.size w W' → W'.cell? ⟨bi, oi + k * 2, none⟩ = some (.int .u32 (ids[k].1 : Nat)) ∧ W'.cell? ⟨bi, oi + k * 2 + 1, none⟩ = some (.int .i64 ids[k].2)) := fun W' hb => by
            obtain ⟨b, o, hp, h1, h2⟩ := HCI.out W' hb k hki
            cases hp
            exact ⟨h1, h2⟩
          have HLS : Hid (ls[k].length ≤ 100) := HSZ.out k hlt
          have HID : Hid (idOfL ls[k] = (pmore 2166136261 ls[k], (ls[k].length : Int))) := rfl
          have HST : Hid (idOfL ls[k] = ids[k] → ∀ j (hj : j < ls.length) (hj' : j < ids.length), j < k + 1 → idOfL ls[j] = ids[j]) := fun e j hj hj' h => by
            by_cases ej : j = k
            · subst ej; exact e
            · exact HSM.out j hj hj' (by omega)
          have HOD : Hid (idOfL ls[k] ≠ ids[k] → firstOdd 0 ls ids = some k) := fun e => by
            have := firstOdd_at ls ids 0 k hlt hki (fun j hj hj' h => HSM.out j hj hj' h) e
            rwa [Nat.zero_add] at this
          obtain ⟨q, hq⟩ : ∃ q : ByteArray, (⟨ls[k].toArray⟩ : ByteArray) = q := ⟨_, rfl⟩
          have hqd : q.data.toList = ls[k] := by rw [← hq]
          have hqs : (ls[k].length : Int) = (q.size : Int) := by rw [← hq]; rfl
          have hqn : q.size ≤ 100 := by have := HLS.out; omega
          rw [txtV, hq] at hl0
          rw [hqs, ← hqd] at HID
          obtain ⟨P, hP⟩ : ∃ P, pmore 2166136261 q.data.toList = P := ⟨_, rfl⟩
          have HPP : Hid (pmore 2166136261 q.data.toList = P) := hP
          obtain ⟨L, hL⟩ : ∃ L : Int, (q.size : Int) = L := ⟨_, rfl⟩
          have HQL : Hid ((q.size : Int) = L) := hL
          rw [hP, hL] at HID
          obtain ⟨⟨n, l⟩, hy⟩ : ∃ y, ids[k] = y := ⟨_, rfl⟩
          obtain ⟨z, hz⟩ : ∃ z, idOfL ls[k] = z := ⟨_, rfl⟩
          rw [hy] at hi0 hi1 HCI2 HST HOD
          rw [hqd, hz] at HID
          rw [hz] at HST HOD
          have HQM : Hid (q.size ≤ maxLen) := by show _ ≤ _; unfold maxLen; omega
          clear hqs hq hqd hP hL hy hz HLS hqn
          have HBN : Hid (Blk wr w.heap.size #[.string nm, .int .i64 len, .int .u32 (p : Nat), .slice (some ⟨bi, oi, none⟩) ids.length ca] 87) := hX
          by_cases hid : P = n ∧ L = l
          · obtain ⟨rfl, rfl⟩ := hid
            go_wp2_with fail
            go_region_held3 (fun w' => w'.cell? ⟨w.heap.size, 3, none⟩ = some (.slice (some ⟨bi, oi, none⟩) ids.length ca) ∧ w'.cell? ⟨bi, oi + k * 2, none⟩ = some (.int .u32 (P : Nat)) ∧ w'.cell? ⟨bi, oi + k * 2 + 1, none⟩ = some (.int .i64 L)) (first | exact ⟨hX4.cell (i := 3) rfl, y0, y1⟩ | go_keep) (first
              | (go_at_call 20; refine (id_any q _ HQM.out).mono ?_; rintro e w4 ⟨rfl, hb4⟩; rw [HPP.out, HQL.out]; have hB4 : Below w.heap.size w w4 := hbr.drew.trans (hb4.mono hbr.size); have hX4 := Blk.next (W := wr.drew) HBN.out hb4; obtain ⟨y0, y1⟩ := HCI2.out w4 hB4))
            go_wp2_with fail
            go_roundw
            case rel => exact ⟨k + 1, by omega, by go_num, HST.out HID.out, hB4, hX4⟩
            case measure => simp [intOf]; omega
          · have HR : Hid (joinOf nm.data.toList len p ids ls = ([], (9, (k : Int)))) := by
              show _ = _
              unfold joinOf
              rw [if_neg (by rw [HF.out]; simp), if_neg (by rw [HLL.out]; simp), HOD.out (by rw [HID.out]; intro e; cases e; exact hid ⟨rfl, rfl⟩)]
            have hdis : ((P : Int) == (n : Int)) = false ∨ (((P : Int) == (n : Int)) = true ∧ (L == l) = false) := by
              by_cases h : P = n
              · exact .inr ⟨by rw [beq_iff_eq]; omega, by rw [beq_eq_false_iff_ne]; exact fun e => hid ⟨h, e⟩⟩
              · exact .inl (by rw [beq_eq_false_iff_ne]; omega)
            clear hid
            rcases hdis with hPn | ⟨hPn, hLl⟩
            all_goals
              go_wp2_with fail
              go_region_held3 (fun w' => w'.cell? ⟨w.heap.size, 3, none⟩ = some (.slice (some ⟨bi, oi, none⟩) ids.length ca) ∧ w'.cell? ⟨bi, oi + k * 2, none⟩ = some (.int .u32 (n : Nat)) ∧ w'.cell? ⟨bi, oi + k * 2 + 1, none⟩ = some (.int .i64 l)) (first | exact ⟨hX4.cell (i := 3) rfl, y0, y1⟩ | go_keep) (first
                | (go_at_call 20; refine (id_any q _ HQM.out).mono ?_; rintro e w4 ⟨rfl, hb4⟩; rw [HPP.out, HQL.out]; have hB4 : Below w.heap.size w w4 := hbr.drew.trans (hb4.mono hbr.size); have hX4 := Blk.next (W := wr.drew) HBN.out hb4; obtain ⟨y0, y1⟩ := HCI2.out w4 hB4))
              have g8 := HG.out w4 hB4 8 (by decide)
              dsimp only [errG] at g8
              go_wp2_with fail
              go_region
              all_goals go_wp2_with fail
              all_goals go_ret2
              all_goals refine ⟨.iface 29 (.pointer (some ⟨w4.heap.size, 0, none⟩)), by rw [HR.out]; rfl, ?_, ?_⟩
              all_goals first
                | exact (hB4.drew).alloc hB4.size _
                | (rw [HR.out]; exact .inr (.inr ⟨8, w4.heap.size, 0, (k : Int), by decide, hB4.size, rfl, by simp, by simp, rfl⟩))
        · have hge : (ls.length : Int) ≤ (k : Int) := by omega
          have HNO : Hid (firstOdd 0 ls ids = none) := firstOdd_none ls ids 0 (fun j hj hj' => HSM.out j hj hj' (by omega))
          obtain ⟨T, hT⟩ : ∃ T : ByteArray, (⟨ls.flatten.toArray⟩ : ByteArray) = T := ⟨_, rfl⟩
          have HTT : Hid ((⟨ls.flatten.toArray⟩ : ByteArray) = T) := hT
          have hTd : T.data.toList = ls.flatten := by rw [← hT]
          have HJN : Hid (joinOf nm.data.toList len p ids ls = if pmore 2166136261 T.data.toList = p then (T.data.toList, (0, -1)) else ([], (9, -1))) := by
            show _ = _
            unfold joinOf
            rw [if_neg (by rw [HF.out]; simp), if_neg (by rw [HLL.out]; simp), HNO.out, hTd]
          have HAM : Hid (T.size ≤ maxLen) := by
            show _ ≤ _
            have h1 : T.size = ls.flatten.length := by rw [← hTd, Array.length_toList]; rfl
            have h2 := flatten_le ls HSZ.out
            have h3 := HLL.out
            have h4 := H250.out
            unfold maxLen
            omega
          obtain ⟨P, hP⟩ : ∃ P, pmore 2166136261 T.data.toList = P := ⟨_, rfl⟩
          have HPP : Hid (pmore 2166136261 T.data.toList = P) := hP
          rw [hP] at HJN
          clear hP hTd hT HNO b2 b3
          go_wp2_with fail
          refine (HJT.out wr hbr).mono ?_
          rintro e w5 ⟨rfl, hb5⟩
          rw [HTT.out]
          have hX5 := hX.next hb5
          have hB5 : Below w.heap.size w w5 := hbr.trans (hb5.mono hbr.size)
          have b2 := hX5.cell (i := 2) rfl
          have g8 := HG.out w5 hB5 8 (by decide)
          dsimp only [errG] at g8
          clear hb5
          by_cases hPp : P = p
          · subst hPp
            have HR : Hid (joinOf nm.data.toList len P ids ls = (T.data.toList, (0, -1))) := by show _ = _; rw [HJN.out, if_pos rfl]
            clear HJN
            go_wp2_with fail
            go_region_held3 (fun w' => w'.cell? ⟨w.heap.size, 2, none⟩ = some (.int .u32 (P : Nat))) (go_keep) (first
              | (go_at_call 15; refine (of_any T _ HAM.out).mono ?_; rintro e w6 ⟨rfl, hw6⟩; subst hw6; rw [HPP.out]))
            go_wp2_with fail
            go_ret2
            have HAE : Hid (T = ⟨T.data.toList.toArray⟩) := bytes_eq rfl
            exact ⟨.nilIface, by rw [HR.out, ← HAE.out]; rfl, by rw [HR.out]; exact ErrIn.mkNil _ _ a, hB5.drew⟩
          · have HR : Hid (joinOf nm.data.toList len p ids ls = ([], (9, -1))) := by show _ = _; rw [HJN.out, if_neg hPp]
            have hb : ((P : Int) == (p : Int)) = false := by rw [beq_eq_false_iff_ne]; omega
            have hbn : ((P : Int) != (p : Int)) = true := by rw [bne, hb]; rfl
            clear HJN hPp
            go_wp2_with fail
            go_region_held3 (fun w' => w'.cell? ⟨w.heap.size, 2, none⟩ = some (.int .u32 (p : Nat))) (go_keep) (first
              | (go_at_call 15; refine (of_any T _ HAM.out).mono ?_; rintro e w6 ⟨rfl, hw6⟩; subst hw6; rw [HPP.out]))
            go_wp2_with fail
            go_region
            all_goals go_wp2_with fail
            all_goals go_ret2
            all_goals exact ⟨sentV a 8, by rw [HR.out]; rfl, by rw [HR.out]; exact ErrIn.sent _ _ a 8 (by decide) rfl, hB5.drew.drew⟩
    · have HR : Hid (joinOf nm.data.toList len p ids ls = ([], (3, -1))) := by
        show _ = _
        unfold joinOf
        rw [if_neg (by rw [HF.out]; simp), if_pos hll]
      have hq : ((ls.length : Int) == (ids.length : Int)) = false := by rw [beq_eq_false_iff_ne]; omega
      have hqn : ((ls.length : Int) != (ids.length : Int)) = true := by rw [bne, hq]; rfl
      have g2 := HG.out w1 hB1 2 (by decide)
      dsimp only [errG] at g2
      clear hll
      go_wp2_with fail
      go_region
      all_goals go_wp2_with fail
      all_goals go_ret2
      all_goals exact ⟨sentV a 2, by rw [HR.out]; rfl, by rw [HR.out]; exact ErrIn.sent _ _ a 2 (by decide) rfl, hB1.drew⟩
  · have HR : Hid (joinOf nm.data.toList len p ids ls = ([], recFault nm.data.toList len ids)) := by
      show _ = _
      unfold joinOf
      rw [if_pos (by intro e; rw [e] at hf; simp at hf)]
    obtain ⟨t, u, rfl⟩ := he.not_nil hf
    have HE : Hid (ErrIn w.heap.size w1 a (.iface t u) (recFault nm.data.toList len ids)) := he
    clear he hf
    go_wp2_with fail
    go_ret2
    exact ⟨.iface t u, by rw [HR.out]; rfl, by rw [HR.out]; exact HE.out, hB1⟩
end Go.Proofs.YtcbcjefefmbccaaDoor
namespace Go.Proofs.YtcbcjefefmbccaaDoor
open Go.RowKit Go.Maps

theorem look1 {P : Program} {k : TypeId} {κ β : Type} {M : MapKit P k κ β} {w : World} {b : Nat} {l : List (κ × β)} {t e : TypeId} {c0 : β} (h : M.Of w b l) (ht : P.underlying t = some (.map k e)) (hz : (zeroValue e).run P w = .ok (M.mkV c0) w) {x : κ} {c : β} (hm : (x, c) ∈ l) :
    (Instr.lookup t (.map (some b)) (M.mkK x) false).run P w = .ok (M.mkV c) w := by
  have hx : M.wf x := h.wf _ hm
  obtain ⟨ds, ho, hp⟩ := h.own
  obtain ⟨es, e, hap, _⟩ := ho.entries M.K
  cases e
  have hd : (M.kl x, DataW.held (M.mkV c)) ∈ ds := hp.mem_iff.2 (List.mem_map.2 ⟨_, hm, rfl⟩)
  have hat : ∀ z, (DataW.map ds).atKey (M.kl x) z = .held (M.mkV c) := fun z => WideAt.atKey_mem z (M.isKey hx) hap hd
  obtain ⟨v, ps, hrun, hv⟩ := ho.lookup M.K ht hz (M.R_mk c0) (M.key_kl hx)
  rw [hat] at hv
  obtain ⟨c', rfl, e⟩ := M.R_inv hv
  have ev : M.mkV c = M.mkV c' := DataW.held.inj (Prod.mk.inj e).1
  rw [hrun, ev]
theorem bare_nil (w : World) : Calls Tryd.prog 102 #[.nilIface] w fun e w' => e = .returned .nilIface ∧ Below w.heap.size w w' := by
  have hal := (Below.refl w.heap.size w).alloc (Nat.le_refl _) (.cells #[.pointer none] 29)
  go_enter Tryd.func102, Tryd.ntmps102
  go_wp2_with fail
  refine (as_nil _ _).mono ?_
  rintro e w1 ⟨rfl, hw1⟩
  subst hw1
  go_wp2_with fail
  go_ret
  exact ⟨rfl, hal⟩
set_option maxRecDepth 100000 in
set_option maxHeartbeats 4000000 in
theorem nodeGet_some (a : Nat → Addr) (nm : ByteArray) (p : Addr) (F : Nat → Prop) (st : NSt) (w : World) (s : List UInt8) (l : List Hd) (hnm : nm.size ≤ 50000) (hf : nFile st.files nm.data.toList = some s) (hb : nBin st.bins (repT s) = some l) (hgot : ∀ t ∈ pieces s, hGet l (idOfL t) = (t, 0)) (hname : isName nm.data.toList = true) (hs : s.length ≤ 4000) (hE : ErrE [1, 2, 3, 4, 6, 8] w a) (hP : PNode w p F st) :
    Calls Tryd.prog 75 #[.pointer (some p), .string nm] w fun e w' => e = .returned (.tuple #[.string ⟨s.toArray⟩, .nilIface]) ∧ Below w.heap.size w w' := by
  obtain ⟨N, mf, mb, vi, pi, Fi, rfl, h, _⟩ := hP
  have HEE : Hid (∀ W, Below w.heap.size w W → ErrE [1, 2, 3, 4, 6, 8] W a) := fun W hb => hE.below hb (Nat.le_refl _)
  have HH := hideN h
  have q0 := h.blk.cell (i := 0) rfl
  have q1 := h.blk.cell (i := 1) rfl
  have hnmE : (⟨nm.data.toList.toArray⟩ : ByteArray) = nm := by simp
  obtain ⟨pv0, cv0, hv0, _⟩ := h.ids _ (nFile_some hf)
  have HI := hideN (h.ids _ (nFile_some hf))
  simp only at hv0 HI
  have HLEN : Hid ((idsOf s).length ≤ 4000) := by
    show _ ≤ _
    have h1 := pieces_len_le s
    unfold idsOf
    rw [List.length_map]
    omega
  have HB := hideN (h.bin _ (nBin_some hb))
  have hmb := nBin_some hb
  have l0 : (Instr.lookup 131 (.map (some mf)) (.string nm) true).run Tryd.prog w = .ok (.tuple #[.agg #[.string nm, .int .i64 (s.length : Int), .int .u32 ((pmore 2166136261 s : Nat) : Int), .slice pv0 (idsOf s).length cv0], .bool true]) w := by
    have := h.files.look_some Tryd.underlying131 (rcpZero _) (List.mem_map.2 ⟨_, nFile_some hf, rfl⟩)
    change (Instr.lookup _ _ (.string ⟨nm.data.toList.toArray⟩) true).run _ _ = .ok (.tuple #[rcpV ⟨nm.data.toList.toArray⟩ (s.length : Int) ((pmore 2166136261 s : Nat) : Int) (vi nm.data.toList), .bool true]) _ at this
    rw [hnmE, hv0] at this
    exact this
  rw [hv0] at HI
  obtain ⟨P, hPP⟩ : ∃ P, pmore 2166136261 s = P := ⟨_, rfl⟩
  obtain ⟨L, hLL⟩ : ∃ L, (s.length : Int) = L := ⟨_, rfl⟩
  obtain ⟨idl, hidl⟩ : ∃ idl, (idsOf s).length = idl := ⟨_, rfl⟩
  obtain ⟨⟨rp, rl⟩, hrep⟩ : ∃ r, repT s = r := ⟨_, rfl⟩
  have HPP := hideN hPP
  have HLL := hideN hLL
  have HID := hideN hidl
  have HRP := hideN hrep
  have HGOT := hideN hgot
  have HJ := hideN (joinOf_pieces nm.data.toList s hname hs)
  rw [hPP, hLL, hidl] at l0
  rw [hidl] at HI HLEN
  rw [hrep] at HB hmb
  rw [hPP, hLL] at HJ
  clear hnmE hE hv0 hPP hLL hidl hf hb hgot hname hs h hrep
  have hal := (Below.refl w.heap.size w).alloc (Nat.le_refl _) (.cells #[.string nm, .int .i64 L, .int .u32 (P : Nat), .slice pv0 idl cv0] 87)
  have hbr := Blk.new w #[.string nm, .int .i64 L, .int .u32 (P : Nat), .slice pv0 idl cv0] 87
  go_enter Tryd.func75, Tryd.ntmps75
  go_wp2_with fail
  generalize hW : w.alloc (.cells #[.string nm, .int .i64 L, .int .u32 (P : Nat), .slice pv0 idl cv0] 87) = W at *
  clear hW
  have HB1 := hideN hal
  have HN1 := hideN (HH.out.below hal)
  have HI1 := hideN (HI.out.below hal)
  have HREP := hideN (fun W (hv : IdsAt W (.slice pv0 idl cv0) (idsOf s)) => rep_any nm L (P : Int) (.slice pv0 idl cv0) (idsOf s) W hv (by rw [HID.out]; have := HLEN.out; unfold maxLen; omega))
  change Hid (∀ W, _ → Calls _ _ _ W fun e w' => e = .returned (idV ((repT s).1 : Nat) (repT s).2) ∧ _) at HREP
  rw [HRP.out] at HREP
  simp only at HREP
  have HBL := hideN hbr
  have HCE : Hid (∀ W', Blk W' N #[.map (some mf), .map (some mb)] 134 → Blk W' w.heap.size #[.string nm, .int .i64 L, .int .u32 (P : Nat), .slice pv0 idl cv0] 87 → W'.cell? ⟨N, 1, none⟩ = some (.map (some mb)) ∧ W'.cell? ⟨w.heap.size, 0, none⟩ = some (.string nm) ∧ W'.cell? ⟨w.heap.size, 1, none⟩ = some (.int .i64 L) ∧ W'.cell? ⟨w.heap.size, 2, none⟩ = some (.int .u32 (P : Nat)) ∧ W'.cell? ⟨w.heap.size, 3, none⟩ = some (.slice pv0 idl cv0)) := fun W' h1 h2 => ⟨h1.cell (i := 1) rfl, h2.cell (i := 0) rfl, h2.cell (i := 1) rfl, h2.cell (i := 2) rfl, h2.cell (i := 3) rfl⟩
  obtain ⟨z1, y0, y1, y2, y3⟩ := HCE.out _ HN1.out.blk HBL.out
  clear q0 q1 l0 hal hbr HH HI
  go_region_held3 (fun w' => w'.cell? ⟨N, 1, none⟩ = some (.map (some mb)) ∧ w'.cell? ⟨w.heap.size, 0, none⟩ = some (.string nm) ∧ w'.cell? ⟨w.heap.size, 1, none⟩ = some (.int .i64 L) ∧ w'.cell? ⟨w.heap.size, 2, none⟩ = some (.int .u32 (P : Nat)) ∧ w'.cell? ⟨w.heap.size, 3, none⟩ = some (.slice pv0 idl cv0)) (first | exact HCE.out _ HN2.out.blk HBL2.out | go_keep) (first
    | (go_at_call 52; refine (HREP.out _ (HI1.out.below (Below.refl _ W).drew)).mono ?_; rintro e w2 ⟨rfl, hb2⟩; have hB2 : Below W.heap.size W w2 := (Below.refl _ W).drew.trans hb2; have HN2 := hideN (HN1.out.below hB2); have HBL2 := hideN (HBL.out.next hB2); have HI2 := hideN (HI1.out.below hB2); have HB2 : Hid (Below w.heap.size w w2) := HB1.out.trans (hB2.mono HB1.out.size); have HWsz := hideN hB2.size; have l1 := look1 HN2.out.bins Tryd.underlying132 (ptrZero w2) (List.mem_map.2 ⟨_, hmb, rfl⟩); change (Instr.lookup 132 (.map (some mb)) (idV (rp : Nat) rl) false).run Tryd.prog w2 = .ok (.pointer (some (pi (rp, rl)))) w2 at l1; clear hb2 hB2))
  obtain ⟨iS, hiS, zS0, zS1, zS2⟩ := info_parts infoStr
  obtain ⟨A0, mk, hA0⟩ : ∃ A0 : Array Value, (Instr.makeSlice 54 (.int .i64 (idl : Int)) (.int .i64 (idl : Int))).run Tryd.prog w2 = .ok (.slice (some ⟨w2.heap.size, 0, none⟩) idl idl) (w2.alloc (.cells A0 9)) ∧ A0.size = idl := by
    have hl := HLEN.out
    have h1 := run_makeSlice (P := Tryd.prog) (w := w2) 54 9 iS (.string ⟨#[]⟩) Tryd.underlying54 hiS zS0 .i64 .i64 (idl : Int) (idl : Int) (by omega) (Int.le_refl _) (by rw [zS1]; simp; omega) (by rw [zS2]; omega) (by omega)
    simp only [Int.toNat_natCast] at h1
    exact ⟨_, h1, by rw [size_madeCells, zS1]; omega⟩
  have hal3 := (Below.refl w2.heap.size w2).alloc (Nat.le_refl _) (.cells A0 9)
  have hbA := Blk.new w2 A0 9
  have HB3 : Hid (Below w.heap.size w _) := hideN (HB2.out.trans (hal3.mono HB2.out.size))
  have HN3 := hideN (HN2.out.below hal3)
  have HI3 := hideN (HI2.out.below hal3)
  have HBL3 := hideN (HBL2.out.next hal3)
  have hBAlt : w.heap.size < w2.heap.size := HBL2.out.lt
  have HWB := hideN HWsz.out
  obtain ⟨_, u0, u1, u2, u3⟩ := HCE.out _ HN3.out.blk HBL3.out
  have hidl4 : (idl : Int) ≤ 4000 := by have := HLEN.out; omega
  clear hal3 HN2 HI2 HBL2 HB2 l1
  have HSZA := hideN hA0
  have HPL : Hid ((pieces s).length = idl) := by
    show _ = _
    rw [← HID.out]
    unfold idsOf
    rw [List.length_map]
  go_wp2_with fail
  generalize hW3 : w2.alloc (.cells A0 9) = W3 at *
  clear hW3
  generalize w2.heap.size = BB at *
  obtain ⟨q, hq⟩ : ∃ q, pi (rp, rl) = q := ⟨_, rfl⟩
  have HPB : Hid (PBin0 W3 q (Fi (rp, rl)) l) := by
    show PBin0 _ _ _ _
    rw [← hq]
    exact HN3.out.bin _ hmb
  have HFI : Hid (∀ j, Fi (rp, rl) j → j ≠ BB) := fun j hj e => by
    have h1 := HB.out.lt j hj
    omega
  rw [hq]
  have HIL : Hid (∀ j, (Value.slice pv0 idl cv0).ownBlock = some j → idsOf s ≠ [] → j ≠ BB) := fun j hj hne e => by
    have h1 := HI1.out.lt hne hj
    have h2 := HWB.out
    omega
  clear hq mk hA0 u0 u1 u2
  go_loopw [40] (fun iv wr => ∃ (k : Nat) (A : Array Value), k ≤ idl ∧ iv = .int .i64 k ∧ Hid (Blk wr BB A 9) ∧ Hid (A.size = idl ∧ ∀ j, j < k → A[j]? = some (txtV ((pieces s)[j]?.getD []))) ∧ Hid (Below w.heap.size w wr) ∧ Hid (Off (fun j => j = BB) W3 wr)) (fun iv _ => idl - (intOf iv).toNat)
  case atStart => exact ⟨0, A0, Nat.zero_le _, rfl, hbA, ⟨HSZA.out, fun j hj => by omega⟩, HB3.out, Off.of_below (Below.refl _ _)⟩
  case round =>
    clear hbA
    obtain ⟨k, A, hk, rfl, HA, HAS, HBR, HO⟩ := hrel
    by_cases hlt : k < idl
    · have hlt' : (k : Int) < (idl : Int) := by omega
      have hk0 : (0 : Int) ≤ (k : Int) := by omega
      have hIr := HI3.out.off HO.out (fun hne j hj e => HIL.out j hj hne e)
      obtain ⟨pq, cq, hve, hcell⟩ := hIr
      obtain ⟨b, o, hpq, hbl, c0, c1⟩ := hcell k (by rw [HID.out]; exact hlt)
      obtain ⟨rfl, rfl⟩ : pv0 = pq ∧ cv0 = cq := by have := hve; simp at this; exact ⟨this.1, this.2.2⟩
      subst hpq
      have hkp : k < (pieces s).length := by rw [HPL.out]; exact hlt
      obtain ⟨t, ht⟩ : ∃ t, (pieces s)[k] = t := ⟨_, rfl⟩
      have hid : (idsOf s)[k]'(by rw [HID.out]; exact hlt) = (pmore 2166136261 t, (t.length : Int)) := by
        unfold idsOf
        rw [List.getElem_map, ht]
      rw [hid] at c0 c1
      simp only at c0 c1
      have HTG := hideN (HGOT.out t (by rw [← ht]; exact List.getElem_mem hkp))
      have HTL := hideN (piece_le (s := s) (q := t) (by rw [← ht]; exact List.getElem_mem hkp))
      have HTP : Hid ((pieces s)[k]?.getD [] = t) := by show _ = _; rw [List.getElem?_eq_getElem hkp, ht]; rfl
      obtain ⟨xp, hxp⟩ : ∃ xp, pmore 2166136261 t = xp := ⟨_, rfl⟩
      obtain ⟨xl, hxl⟩ : ∃ xl, (t.length : Int) = xl := ⟨_, rfl⟩
      have HX : Hid (idOfL t = (xp, xl)) := by show (pmore 2166136261 t, (t.length : Int)) = _; rw [hxp, hxl]
      have HXW : Hid (WfID (xp, xl)) := ⟨by rw [← hxp]; exact pmore_lt _ (by decide) _, by rw [← hxl]; simp only; omega, by rw [← hxl]; have := HTL.out; simp only; omega⟩
      rw [hxp] at c0
      rw [hxl] at c1
      rw [HX.out] at HTG
      clear hcell hve hid ht hkp hxp hxl
      have hal4 := (Below.refl wr.heap.size wr).alloc (Nat.le_refl _) (.cells #[.int .u32 (xp : Nat), .int .i64 xl] 37)
      have hbi := Blk.new wr #[.int .u32 (xp : Nat), .int .i64 xl] 37
      have HA4 := hideN (HA.out.next hal4)
      have HB4 : Hid (Below w.heap.size w _) := hideN (HBR.out.trans (hal4.mono HBR.out.size))
      have HPB4 := hideN ((HPB.out.off HO.out (fun j hj e => HFI.out j hj e)).off (Off.of_below (F := fun _ => False) hal4) (fun _ _ h => h))
      have HO4 : Hid (Off (fun j => j = BB) W3 _) := hideN (HO.out.trans (Off.of_below (F := fun _ => False) hal4) (fun _ _ h => h.elim))
      have hneB : wr.heap.size ≠ BB := by have := HA.out.lt; omega
      go_wp2_with fail
      generalize wr.alloc (.cells #[.int .u32 (xp : Nat), .int .i64 xl] 37) = W at *
      generalize wr.heap.size = HB9 at *
      refine (pGet_any (xp, xl) q (Fi (rp, rl)) l W HXW.out ((HEE.out _ HB4.out).sub (by decide)) HPB4.out).mono ?_
      rintro e w5 ⟨ev5, rfl, _, hb5⟩
      rw [HTG.out]
      simp only
      have hA5 := HA4.out.next hb5
      have hkA : k < A.size := by rw [HAS.out.1]; exact hlt
      have b0 := hA5.cell (i := k) (Array.getElem?_eq_getElem hkA)
      have f0 := hA5.frozen k
      have HB5 : Hid (Below w.heap.size w w5) := HB4.out.trans (hb5.mono HB4.out.size)
      have HO5 : Hid (Off (fun j => j = BB) W3 w5) := HO4.out.trans (Off.of_below (F := fun _ => False) hb5) (fun _ _ h => h.elim)
      obtain ⟨X, hX⟩ : ∃ X : Value, A[k] = X := ⟨_, rfl⟩
      rw [hX] at b0
      obtain ⟨T, hT⟩ : ∃ T : ByteArray, (⟨t.toArray⟩ : ByteArray) = T := ⟨_, rfl⟩
      have HT := hideN hT
      rw [hT]
      have HA6 := hideN (hA5.set k (.string T))
      have HO6 := hideN (HO5.out.setCell (p := ⟨BB, k, none⟩) (.inl rfl) (.string T))
      have HB6 := hideN (HB5.out.setCell (p := ⟨BB, k, none⟩) (show w.heap.size ≤ BB by omega) (.string T))
      have HAS6 : Hid ((A.setIfInBounds k (.string T)).size = idl ∧ ∀ j, j < k + 1 → (A.setIfInBounds k (.string T))[j]? = some (txtV ((pieces s)[j]?.getD []))) := by
        refine ⟨by rw [Array.size_setIfInBounds]; exact HAS.out.1, fun j hj => ?_⟩
        by_cases e : j = k
        · subst e
          rw [Array.getElem?_setIfInBounds_self_of_lt hkA, HTP.out, ← HT.out]
        · rw [Array.getElem?_setIfInBounds_ne (fun e' => e e'.symm)]
          exact HAS.out.2 j (by omega)
      clear hA5 hb5 hX hT hkA
      go_wp2_with fail
      go_roundw
      case rel => exact ⟨k + 1, _, hlt, by go_num, HA6.out, HAS6.out, HB6.out, HO6.out⟩
      case measure => simp [intOf]; omega
    · have hge : (idl : Int) ≤ (k : Int) := by omega
      obtain rfl : k = idl := by omega
      have hbr9 := HO.out.blk HBL3.out (fun e => by omega)
      have hIr := HI3.out.off HO.out (fun hne j hj e => HIL.out j hj hne e)
      have HCA : Hid (CellsAt wr (.slice (some ⟨BB, 0, none⟩) k k) ((pieces s).map txtV)) := by
        refine ⟨some ⟨BB, 0, none⟩, k, by rw [List.length_map, HPL.out], fun i hi => ?_⟩
        rw [List.length_map] at hi
        refine ⟨BB, 0, rfl, ⟨HA.out.lt, by rw [List.length_map, HPL.out]; exact Nat.le_refl _⟩, ?_⟩
        rw [List.getElem_map, Nat.zero_add]
        have := HAS.out.2 i (by rw [← HPL.out]; exact hi)
        rw [List.getElem?_eq_getElem hi] at this
        exact HA.out.cell (i := i) this
      have HJN := hideN (rjoin_any a nm (by unfold maxLen; omega) L P (.slice pv0 k cv0) (.slice (some ⟨BB, 0, none⟩) k k) (idsOf s) (pieces s) wr ((HEE.out _ HBR.out).sub (by decide)) hIr (by rw [HID.out]; have := HLEN.out; unfold maxLen; omega) HCA.out (by rw [HPL.out]; have := HLEN.out; omega) (fun i hi => by have := piece_le (List.getElem_mem hi); omega))
      unfold joinPost at HJN
      rw [HJ.out] at HJN
      simp only at HJN
      have x0 := hbr9.cell (i := 0) rfl
      have x1 := hbr9.cell (i := 1) rfl
      have x2 := hbr9.cell (i := 2) rfl
      have x3 := hbr9.cell (i := 3) rfl
      clear hbr9 hIr HCA
      go_wp2_with fail
      refine HJN.out.mono ?_
      rintro e w6 ⟨ev6, rfl, he6, hb6⟩
      obtain rfl := he6.nil
      have HB6 : Hid (Below w.heap.size w w6) := HBR.out.trans (hb6.mono HBR.out.size)
      clear hb6 he6
      go_wp2_with fail
      refine (bare_nil w6).mono ?_
      rintro e w7 ⟨rfl, hb7⟩
      go_wp2_with fail
      go_ret2
      exact ⟨rfl, HB6.out.trans (hb7.mono HB6.out.size)⟩
end Go.Proofs.YtcbcjefefmbccaaDoor
namespace Go.Proofs.YtcbcjefefmbccaaDoor
open Go.RowKit Go.Maps

theorem putAll_ok : ∀ (ls : List (List UInt8)) {U : Int} {l : List Hd} {fr : Int}, 0 ≤ U → BinOk U l → BinOk (U + ls.length) (putAll l fr ls).2.2
  | [], U, l, fr, _, h => by
    rw [putAll]
    simpa using h
  | s :: r, U, l, fr, hU, h => by
    rw [putAll]
    have h1 := hPut_ok h s hU
    split
    · have := putAll_ok r (fr := if (hPut l s).1.2.1 = true then fr + s.length else fr) (by omega) h1
      have e : U + ((s :: r).length : Nat) = U + 1 + (r.length : Nat) := by rw [List.length_cons]; omega
      rw [e]
      exact this
    · exact h1.mono (by rw [List.length_cons]; omega)
structure NOk (U : Int) (n : Nat) (st : NSt) : Prop where
  bins : ∀ b ∈ st.bins, BinOk U b.2
  many : st.bins.length ≤ n
  files : ∀ f ∈ st.files, f.2.length ≤ 4000 ∧ isName f.1 = true
theorem NOk.empty : NOk 0 0 ⟨[], []⟩ := ⟨fun b hb => by simp at hb, Nat.le_refl _, fun f hf => by simp at hf⟩
theorem NOk.mono {U V : Int} {n m : Nat} {st : NSt} (h : NOk U n st) (hU : U ≤ V) (hn : n ≤ m) : NOk V m st := ⟨fun b hb => (h.bins b hb).mono hU, Nat.le_trans h.many hn, h.files⟩
theorem nPut_cases (st : NSt) (nm s : List UInt8) : ((nPut st nm s).2.1 ≠ 0 ∧ (nPut st nm s).1 = 0 ∧ (nPut st nm s).2.2 = st) ∨ ((ofR nm s).2 = 0 ∧ nFile st.files nm = none ∧ nPut st nm s = ((putAll ((nBin st.bins (repT s)).getD []) 0 (pieces s)).1, 0, ⟨(nm, s) :: st.files, (repT s, (putAll ((nBin st.bins (repT s)).getD []) 0 (pieces s)).2.2) :: st.bins.filter (fun b => !decide (b.1 = repT s))⟩)) := by
  by_cases h1 : (ofR nm s).2 = 0
  · cases h2 : nFile st.files nm with
    | some t =>
      rw [nPut_there h1 h2]
      exact .inl ⟨by simp, rfl, rfl⟩
    | none =>
      by_cases h3 : 30 ≤ st.files.length
      · rw [nPut_full h1 h2 h3]
        exact .inl ⟨by simp, rfl, rfl⟩
      · obtain ⟨⟨fr, ec, bl⟩, hp⟩ : ∃ r, putAll ((nBin st.bins (repT s)).getD []) 0 (pieces s) = r := ⟨_, rfl⟩
        by_cases h4 : ec = 0
        · subst h4
          rw [nPut_ok h1 h2 h3 rfl rfl hp, hp]
          exact .inr ⟨h1, rfl, rfl⟩
        · rw [nPut_err h1 h2 h3 rfl rfl hp h4]
          exact .inl ⟨h4, rfl, rfl⟩
  · rw [nPut_bad h1]
    exact .inl ⟨h1, rfl, rfl⟩
theorem ofR_ok {nm s : List UInt8} (h : (ofR nm s).2 = 0) : isName nm = true ∧ s.length ≤ 4000 := by
  have hn : isName nm = true := by
    cases hn : isName nm with
    | true => rfl
    | false => rw [ofR_name hn] at h; cases h
  refine ⟨hn, ?_⟩
  by_cases hl : 4000 < s.length
  · rw [ofR_bound hn hl] at h
    cases h
  · omega
theorem NOk.put {U : Int} {n : Nat} {st : NSt} (h : NOk U n st) (hU : 0 ≤ U) (nm s : List UInt8) : NOk (U + 4000) (n + 1) (nPut st nm s).2.2 := by
  rcases nPut_cases st nm s with ⟨_, _, e⟩ | ⟨h1, _, e⟩
  · rw [e]
    exact h.mono (by omega) (by omega)
  · rw [e]
    obtain ⟨hn, hl⟩ := ofR_ok h1
    have hp := pieces_len_le s
    refine ⟨fun b hb => ?_, ?_, fun f hf => ?_⟩
    · rcases List.mem_cons.1 hb with rfl | hb
      · have hb0 : BinOk U ((nBin st.bins (repT s)).getD []) := by
          cases hb : nBin st.bins (repT s) with
          | none => exact BinOk.nil _
          | some l0 => exact h.bins _ (nBin_some hb)
        exact (putAll_ok (pieces s) hU hb0).mono (by omega)
      · exact (h.bins b (List.mem_filter.1 hb).1).mono (by omega)
    · have h2 := List.length_filter_le (fun b : NBin => !decide (b.1 = repT s)) st.bins
      have h3 := h.many
      simp only [List.length_cons]
      omega
    · rcases List.mem_cons.1 hf with rfl | hf
      · exact ⟨hl, hn⟩
      · exact h.files f hf
theorem nPut_there' {st : NSt} {nm s : List UInt8} (h : (nPut st nm s).2.1 = 0) : nFile (nPut st nm s).2.2.files nm = some s ∧ (∃ l, nBin (nPut st nm s).2.2.bins (repT s) = some l) ∧ (ofR nm s).2 = 0 := by
  rcases nPut_cases st nm s with ⟨h1, _, _⟩ | ⟨h1, _, e⟩
  · exact absurd h h1
  · rw [e]
    exact ⟨by simp only [nFile, if_true], ⟨(putAll ((nBin st.bins (repT s)).getD []) 0 (pieces s)).2.2, by simp only [nBin, if_true]⟩, h1⟩
/- The closed example. -/
abbrev helloL : List UInt8 := [104, 101, 108, 108, 111]
theorem helloPieces : pieces helloL = [helloL] := by decide
def helloR : Nat × Int := repT helloL
def st1 : NSt := ⟨[([97], helloL)], [(repT helloL, [(idOfL helloL, 1, helloL)])]⟩
def st2 : NSt := ⟨[([98], helloL), ([97], helloL)], [(repT helloL, [(idOfL helloL, 2, helloL)])]⟩
theorem put1 : nPut ⟨[], []⟩ [97] helloL = (5, 0, st1) := by
  have e : putAll [] 0 (pieces helloL) = (5, 0, [(idOfL helloL, 1, helloL)]) := by rw [helloPieces]; rfl
  exact nPut_ok (st := ⟨[], []⟩) (nm := [97]) (s := helloL) (r := repT helloL) (BL := []) (by decide) rfl (by decide) rfl rfl e
theorem put2 : nPut st1 [98] helloL = (0, 0, st2) := by
  have e : putAll [(idOfL helloL, 1, helloL)] 0 (pieces helloL) = (0, 0, [(idOfL helloL, 2, helloL)]) := by
    rw [helloPieces]
    simp [putAll, hPut, hFind, hUse]
  have h := nPut_ok (st := st1) (nm := [98]) (s := helloL) (r := repT helloL) (BL := [(idOfL helloL, 1, helloL)]) (by decide) (by decide) (by decide) rfl (by unfold st1; simp [nBin]) e
  rw [h]
  unfold st1 st2
  simp
theorem size2 : nSize st2.bins = 5 := by
  unfold st2
  simp [nSize, hSize, idOfL]
end Go.Proofs.YtcbcjefefmbccaaDoor
