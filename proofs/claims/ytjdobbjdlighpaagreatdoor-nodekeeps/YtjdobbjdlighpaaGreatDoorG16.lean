/-
  Own text. The program's recipe.Join by a contract.
  Own text. (*node.Node).Get by a contract, at a file that is there and whose bin has its pieces.
  Own text. What putting a file makes of a node, pure: its bins stay right, the file is there, its rep has a bin; the closed example of the law.
  Own text. noded: it returns true.
  Own text. Acts on a node as they lie (Acts3At); LongActs by a contract.
  Own text. A bin and the texts that were put into it (a log), pure: each piece is used as often as its text is in the log; what put, get, drop with sweep make of it.
-/
import Derived.Test.YtjdobbjdlighpaaGreatDoorG15
import Derived.Deep.RegionHeld3
import Derived.Test.YtjdobbjdlighpaaGreatDoorG08
import Derived.Test.YtjdobbjdlighpaaGreatDoorG01
import Derived.Maps.Own
import Derived.Test.YtjdobbjdlighpaaGreatDoorG12
import Derived.Laws.MakeOwn
import Derived.Test.YtjdobbjdlighpaaGreatDoorG03
namespace Go.Proofs.YtjdobbjdlighpaaGreatDoor
open Go.RowKit

theorem join_none (l : List (List UInt8)) : Lib.join l [] = l.flatten := by
  cases l with
  | nil => rfl
  | cons x r =>
    rw [Lib.join_cons]
    unfold Lib.joinTail
    simp
theorem flatten_le : ∀ (l : List (List UInt8)), (∀ i (h : i < l.length), l[i].length ≤ 100) → l.flatten.length ≤ 100 * l.length
  | [], _ => by simp
  | x :: r, h => by
    have ih := flatten_le r fun i hi => by have := h (i + 1) (by simpa using hi); simpa using this
    have h0 := h 0 (by simp)
    rw [List.flatten_cons, List.length_append, List.length_cons]
    simp at h0
    omega
def joinPost (a : Nat → Addr) (nm : ByteArray) (len : Int) (p : Nat) (ids : List (Nat × Int)) (ls : List (List UInt8)) (w : World) (e : Ending) (w' : World) : Prop := ∃ ev, e = .returned (.tuple #[.string ⟨(joinOf nm.data.toList len p ids ls).1.toArray⟩, ev]) ∧ ErrIn w.heap.size w' a ev (joinOf nm.data.toList len p ids ls).2 ∧ Below w.heap.size w w'

/- strings.Join of a slice of texts with nothing between. -/
theorem joinTexts (vl : Value) (ls : List (List UInt8)) (w : World) (hl : CellsAt w vl (ls.map txtV)) (hn : ls.length ≤ 50000) (hsz : ∀ i (h : i < ls.length), ls[i].length ≤ 100) :
    Calls Tryz.prog 56 #[vl, .string ⟨#[]⟩] w fun e w' => e = .returned (.string ⟨ls.flatten.toArray⟩) ∧ Below w.heap.size w w' := by
  obtain ⟨p, c, rfl, hc⟩ := hl
  rw [List.length_map]
  by_cases h0 : ls.length = 0
  · have e : ls = [] := List.eq_nil_of_length_eq_zero h0
    subst e
    exact (Tryz.strings_Join_none p c ⟨#[]⟩ w).mono fun e w' ⟨h1, h2⟩ => ⟨h1, by rw [h2]; exact Below.refl _ _⟩
  · obtain ⟨b, o, rfl, ⟨hb, hcap⟩, _⟩ := hc 0 (by rw [List.length_map]; omega)
    rw [List.length_map] at hcap
    have hx : (ls.map fun l => (⟨l.toArray⟩ : ByteArray)).length = ls.length := List.length_map _
    have e1 : Lib.join ((ls.map fun l => (⟨l.toArray⟩ : ByteArray)).map (·.data.toList)) [] = ls.flatten := by
      rw [List.map_map]
      have : ((fun (x : ByteArray) => x.data.toList) ∘ fun (l : List UInt8) => (⟨l.toArray⟩ : ByteArray)) = id := by funext l; simp
      rw [this, List.map_id, join_none]
    have hfl := flatten_le ls hsz
    have hj := Tryz.strings_Join b o c (ls.map fun l => (⟨l.toArray⟩ : ByteArray)) ⟨#[]⟩ w (fun j x hj => by
      have hjl : j < ls.length := by rw [← hx]; exact (List.getElem?_eq_some_iff.1 hj).1
      obtain ⟨b', o', hp, _, hcell⟩ := hc j (by rw [List.length_map]; exact hjl)
      cases hp
      rw [hcell, List.getElem_map]
      rw [List.getElem?_eq_getElem (by rw [hx]; exact hjl), List.getElem_map] at hj
      rw [← Option.some.inj hj]) hb (by rw [hx]; omega) (by rw [hx]; exact hcap) (by show (Lib.join _ []).length ≤ _; rw [e1]; omega)
    rw [hx] at hj
    refine hj.mono fun e w' ⟨h1, h2⟩ => ⟨?_, h2⟩
    rw [h1]
    exact congrArg (fun l : List UInt8 => Ending.returned (.string ⟨l.toArray⟩)) e1

set_option maxRecDepth 100000 in
set_option maxHeartbeats 4000000 in
theorem rjoin_any (a : Nat → Addr) (nm : ByteArray) (hnm : nm.size ≤ maxLen) (len : Int) (p : Nat) (v vl : Value) (ids : List (Nat × Int)) (ls : List (List UInt8)) (w : World) (hE : ErrE [1, 2, 3, 6, 8] w a) (hv : IdsAt w v ids) (hlen : ids.length ≤ maxLen) (hl : CellsAt w vl (ls.map txtV)) (hll : ls.length ≤ 50000)
    (hsz : ∀ i (h : i < ls.length), ls[i].length ≤ 100) :
    Calls Tryz.prog 10 #[rcpV nm len (p : Nat) v, vl] w fun e w' => joinPost a nm len p ids ls w e w' := by
  have HB : Hid (∀ o, Below w.heap.size w (w.alloc o)) := fun o => (Below.refl _ w).alloc (Nat.le_refl _) o
  have HC : Hid (∀ o, Calls Tryz.prog 14 #[rcpV nm len (p : Nat) v] (w.alloc o) fun e w' => ∃ ev, e = .returned ev ∧ ErrIn (w.alloc o).heap.size w' a ev (recFault nm.data.toList len ids) ∧ Below (w.alloc o).heap.size (w.alloc o) w') := fun o => check_any a nm hnm len p v ids _ (hE.below (HB.out o) (Nat.le_refl _)) (hv.below (HB.out o)) hlen
  have HG : Hid (∀ W', Below w.heap.size w W' → ∀ i, ([1, 2, 3, 6, 8] : List Nat).contains i = true → W'.cell? ⟨errG i, 0, none⟩ = some (sentV a i)) := fun W' hb i hi => (hE.below hb (Nat.le_refl _)).glob i hi
  have HJT : Hid (∀ W', Below w.heap.size w W' → Calls Tryz.prog 56 #[vl, .string ⟨#[]⟩] W' fun e w' => e = .returned (.string ⟨ls.flatten.toArray⟩) ∧ Below W'.heap.size W' w') := fun W' hb => joinTexts vl ls W' (hl.below hb) hll hsz
  obtain ⟨pa, ca, rfl, hcell⟩ := hv
  obtain ⟨pb, cb, rfl, hcl⟩ := hl
  simp only [List.length_map, List.getElem_map] at hcl ⊢
  simp only [List.length_map] at HJT
  have HSZ : Hid (∀ i (h : i < ls.length), ls[i].length ≤ 100) := hsz
  have hl2 : (ids.length : Int) ≤ 9223372036854775807 := by unfold maxLen at hlen; omega
  have hl3 : (ls.length : Int) ≤ 50000 := by omega
  have HCI : Hid (∀ W', Below w.heap.size w W' → ∀ i (h : i < ids.length), ∃ b o, pa = some ⟨b, o, none⟩ ∧ W'.cell? ⟨b, o + i * 2, none⟩ = some (.int .u32 (ids[i].1 : Nat)) ∧ W'.cell? ⟨b, o + i * 2 + 1, none⟩ = some (.int .i64 ids[i].2)) := fun W' hb i hi => by
    obtain ⟨b, o, hp, hlt, h1, h2⟩ := hcell i hi
    exact ⟨b, o, hp, (hb.cell (p := ⟨b, o + i * 2, none⟩) hlt).trans h1, (hb.cell (p := ⟨b, o + i * 2 + 1, none⟩) hlt).trans h2⟩
  have HCL : Hid (∀ W', Below w.heap.size w W' → ∀ i (h : i < ls.length), ∃ b o, pb = some ⟨b, o, none⟩ ∧ W'.cell? ⟨b, o + i, none⟩ = some (txtV ls[i])) := fun W' hb i hi => by
    obtain ⟨b, o, hp, hlt, h1⟩ := hcl i hi
    exact ⟨b, o, hp, (hb.cell (p := ⟨b, o + i, none⟩) hlt.1).trans h1⟩
  clear hcell hcl hnm hlen hll hsz hE
  go_enter Tryz.func10, Tryz.ntmps10
  go_wp2_with fail
  refine (HC.out _).mono ?_
  rintro e w1 ⟨ev, rfl, he, hb1⟩
  have hbx := HB.out (.cells #[.string nm, .int .i64 len, .int .u32 (p : Nat), .slice pa ids.length ca] 26)
  have hX0 := Blk.new w #[.string nm, .int .i64 len, .int .u32 (p : Nat), .slice pa ids.length ca] 26
  have hX1 := hX0.next hb1
  have hB1 : Below w.heap.size w w1 := hbx.trans (hb1.mono hbx.size)
  replace he := he.low hbx.size
  clear hb1 hX0 hbx HC
  rcases recFault_code nm.data.toList len ids with hf | hf
  · rw [hf] at he
    obtain rfl := he.is_nil
    have HF : Hid (recFault nm.data.toList len ids = (0, -1)) := hf
    obtain ⟨_, _, h250, _, _⟩ := recFault_zero hf
    have H250 : Hid (ids.length ≤ 250) := h250
    clear he hf h250
    have b3 := hX1.cell (i := 3) rfl
    by_cases hll : ls.length = ids.length
    · have HLL : Hid (ls.length = ids.length) := hll
      have hq : ((ls.length : Int) == (ids.length : Int)) = true := by rw [beq_iff_eq]; omega
      have hqn : ((ls.length : Int) != (ids.length : Int)) = false := by rw [bne, hq]; rfl
      clear hll
      go_wp2_with fail
      clear b3
      go_loopw [24] (fun i wr => ∃ (k : Nat), k ≤ ls.length ∧ i = .int .i64 k ∧ (∀ j (hj : j < ls.length) (hj' : j < ids.length), j < k → idOfL ls[j] = ids[j]) ∧ Below w.heap.size w wr ∧ Blk wr w.heap.size #[.string nm, .int .i64 len, .int .u32 (p : Nat), .slice pa ids.length ca] 26) (fun i _ => ls.length - (intOf i).toNat)
      case atStart => exact ⟨0, Nat.zero_le _, rfl, fun j _ _ h => by omega, hB1, hX1⟩
      case round =>
        obtain ⟨k, hk, rfl, hsame, hbr, hX⟩ := hrel
        have HSM : Hid (∀ j (hj : j < ls.length) (hj' : j < ids.length), j < k → idOfL ls[j] = ids[j]) := hsame
        clear hsame hB1 hX1
        have b2 := hX.cell (i := 2) rfl
        have b3 := hX.cell (i := 3) rfl
        by_cases hlt : k < ls.length
        · have hlt' : (k : Int) < (ls.length : Int) := by omega
          have hki : k < ids.length := by have := HLL.out; omega
          have hki' : (k : Int) < (ids.length : Int) := by omega
          have hk0 : (0 : Int) ≤ (k : Int) := by omega
          obtain ⟨bi, oi, rfl, hi0, hi1⟩ := HCI.out wr hbr k hki
          obtain ⟨bl, ol, rfl, hl0⟩ := HCL.out wr hbr k hlt
          have HCI2 : Hid (∀ W', Below w.heap.size w W' → W'.cell? ⟨bi, oi + k * 2, none⟩ = some (.int .u32 (ids[k].1 : Nat)) ∧ W'.cell? ⟨bi, oi + k * 2 + 1, none⟩ = some (.int .i64 ids[k].2)) := fun W' hb => by
            obtain ⟨b, o, hp, h1, h2⟩ := HCI.out W' hb k hki
            cases hp
            exact ⟨h1, h2⟩
          have HLS : Hid (ls[k].length ≤ 100) := HSZ.out k hlt
          have HID : Hid (idOfL ls[k] = (pmore 2166136261 ls[k], (ls[k].length : Int))) := rfl
          have HST : Hid (idOfL ls[k] = ids[k] → ∀ j (hj : j < ls.length) (hj' : j < ids.length), j < k + 1 → idOfL ls[j] = ids[j]) := fun e j hj hj' h => by
            by_cases ej : j = k
            · subst ej; exact e
            · exact HSM.out j hj hj' (by omega)
          have HOD : Hid (idOfL ls[k] ≠ ids[k] → firstOdd 0 ls ids = some k) := fun e => by
            have := firstOdd_at ls ids 0 k hlt hki (fun j hj hj' h => HSM.out j hj hj' h) e
            rwa [Nat.zero_add] at this
          obtain ⟨q, hq⟩ : ∃ q : ByteArray, (⟨ls[k].toArray⟩ : ByteArray) = q := ⟨_, rfl⟩
          have hqd : q.data.toList = ls[k] := by rw [← hq]
          have hqs : (ls[k].length : Int) = (q.size : Int) := by rw [← hq]; rfl
          have hqn : q.size ≤ 100 := by have := HLS.out; omega
          rw [txtV, hq] at hl0
          rw [hqs, ← hqd] at HID
          obtain ⟨P, hP⟩ : ∃ P, pmore 2166136261 q.data.toList = P := ⟨_, rfl⟩
          have HPP : Hid (pmore 2166136261 q.data.toList = P) := hP
          obtain ⟨L, hL⟩ : ∃ L : Int, (q.size : Int) = L := ⟨_, rfl⟩
          have HQL : Hid ((q.size : Int) = L) := hL
          rw [hP, hL] at HID
          obtain ⟨⟨n, l⟩, hy⟩ : ∃ y, ids[k] = y := ⟨_, rfl⟩
          obtain ⟨z, hz⟩ : ∃ z, idOfL ls[k] = z := ⟨_, rfl⟩
          rw [hy] at hi0 hi1 HCI2 HST HOD
          rw [hqd, hz] at HID
          rw [hz] at HST HOD
          have HQM : Hid (q.size ≤ maxLen) := by show _ ≤ _; unfold maxLen; omega
          clear hqs hq hqd hP hL hy hz HLS hqn
          have HBN : Hid (Blk wr w.heap.size #[.string nm, .int .i64 len, .int .u32 (p : Nat), .slice (some ⟨bi, oi, none⟩) ids.length ca] 26) := hX
          by_cases hid : P = n ∧ L = l
          · obtain ⟨rfl, rfl⟩ := hid
            go_wp2_with fail
            go_region_held3 (fun w' => w'.cell? ⟨w.heap.size, 3, none⟩ = some (.slice (some ⟨bi, oi, none⟩) ids.length ca) ∧ w'.cell? ⟨bi, oi + k * 2, none⟩ = some (.int .u32 (P : Nat)) ∧ w'.cell? ⟨bi, oi + k * 2 + 1, none⟩ = some (.int .i64 L)) (first | exact ⟨hX4.cell (i := 3) rfl, y0, y1⟩ | go_keep) (first
              | (go_at_call 17; refine (id_any q _ HQM.out).mono ?_; rintro e w4 ⟨rfl, hb4⟩; rw [HPP.out, HQL.out]; have hB4 : Below w.heap.size w w4 := hbr.drew.trans (hb4.mono hbr.size); have hX4 := Blk.next (W := wr.drew) HBN.out hb4; obtain ⟨y0, y1⟩ := HCI2.out w4 hB4))
            go_wp2_with fail
            go_roundw
            case rel => exact ⟨k + 1, by omega, by go_num, HST.out HID.out, hB4, hX4⟩
            case measure => simp [intOf]; omega
          · have HR : Hid (joinOf nm.data.toList len p ids ls = ([], (9, (k : Int)))) := by
              show _ = _
              unfold joinOf
              rw [if_neg (by rw [HF.out]; simp), if_neg (by rw [HLL.out]; simp), HOD.out (by rw [HID.out]; intro e; cases e; exact hid ⟨rfl, rfl⟩)]
            have hdis : ((P : Int) == (n : Int)) = false ∨ (((P : Int) == (n : Int)) = true ∧ (L == l) = false) := by
              by_cases h : P = n
              · exact .inr ⟨by rw [beq_iff_eq]; omega, by rw [beq_eq_false_iff_ne]; exact fun e => hid ⟨h, e⟩⟩
              · exact .inl (by rw [beq_eq_false_iff_ne]; omega)
            clear hid
            rcases hdis with hPn | ⟨hPn, hLl⟩
            all_goals
              go_wp2_with fail
              go_region_held3 (fun w' => w'.cell? ⟨w.heap.size, 3, none⟩ = some (.slice (some ⟨bi, oi, none⟩) ids.length ca) ∧ w'.cell? ⟨bi, oi + k * 2, none⟩ = some (.int .u32 (n : Nat)) ∧ w'.cell? ⟨bi, oi + k * 2 + 1, none⟩ = some (.int .i64 l)) (first | exact ⟨hX4.cell (i := 3) rfl, y0, y1⟩ | go_keep) (first
                | (go_at_call 17; refine (id_any q _ HQM.out).mono ?_; rintro e w4 ⟨rfl, hb4⟩; rw [HPP.out, HQL.out]; have hB4 : Below w.heap.size w w4 := hbr.drew.trans (hb4.mono hbr.size); have hX4 := Blk.next (W := wr.drew) HBN.out hb4; obtain ⟨y0, y1⟩ := HCI2.out w4 hB4))
              have g8 := HG.out w4 hB4 8 (by decide)
              dsimp only [errG] at g8
              go_wp2_with fail
              go_region
              all_goals go_wp2_with fail
              all_goals go_ret2
              all_goals refine ⟨.iface 98 (.pointer (some ⟨w4.heap.size, 0, none⟩)), by rw [HR.out]; rfl, ?_, ?_⟩
              all_goals first
                | exact (hB4.drew).alloc hB4.size _
                | (rw [HR.out]; exact .inr (.inr ⟨8, w4.heap.size, 0, (k : Int), by decide, hB4.size, rfl, by simp, by simp, rfl⟩))
        · have hge : (ls.length : Int) ≤ (k : Int) := by omega
          have HNO : Hid (firstOdd 0 ls ids = none) := firstOdd_none ls ids 0 (fun j hj hj' => HSM.out j hj hj' (by omega))
          obtain ⟨T, hT⟩ : ∃ T : ByteArray, (⟨ls.flatten.toArray⟩ : ByteArray) = T := ⟨_, rfl⟩
          have HTT : Hid ((⟨ls.flatten.toArray⟩ : ByteArray) = T) := hT
          have hTd : T.data.toList = ls.flatten := by rw [← hT]
          have HJN : Hid (joinOf nm.data.toList len p ids ls = if pmore 2166136261 T.data.toList = p then (T.data.toList, (0, -1)) else ([], (9, -1))) := by
            show _ = _
            unfold joinOf
            rw [if_neg (by rw [HF.out]; simp), if_neg (by rw [HLL.out]; simp), HNO.out, hTd]
          have HAM : Hid (T.size ≤ maxLen) := by
            show _ ≤ _
            have h1 : T.size = ls.flatten.length := by rw [← hTd, Array.length_toList]; rfl
            have h2 := flatten_le ls HSZ.out
            have h3 := HLL.out
            have h4 := H250.out
            unfold maxLen
            omega
          obtain ⟨P, hP⟩ : ∃ P, pmore 2166136261 T.data.toList = P := ⟨_, rfl⟩
          have HPP : Hid (pmore 2166136261 T.data.toList = P) := hP
          rw [hP] at HJN
          clear hP hTd hT HNO b2 b3
          go_wp2_with fail
          refine (HJT.out wr hbr).mono ?_
          rintro e w5 ⟨rfl, hb5⟩
          rw [HTT.out]
          have hX5 := hX.next hb5
          have hB5 : Below w.heap.size w w5 := hbr.trans (hb5.mono hbr.size)
          have b2 := hX5.cell (i := 2) rfl
          have g8 := HG.out w5 hB5 8 (by decide)
          dsimp only [errG] at g8
          clear hb5
          by_cases hPp : P = p
          · subst hPp
            have HR : Hid (joinOf nm.data.toList len P ids ls = (T.data.toList, (0, -1))) := by show _ = _; rw [HJN.out, if_pos rfl]
            clear HJN
            go_wp2_with fail
            go_region_held3 (fun w' => w'.cell? ⟨w.heap.size, 2, none⟩ = some (.int .u32 (P : Nat))) (go_keep) (first
              | (go_at_call 53; refine (of_any T _ HAM.out).mono ?_; rintro e w6 ⟨rfl, hw6⟩; subst hw6; rw [HPP.out]))
            go_wp2_with fail
            go_ret2
            have HAE : Hid (T = ⟨T.data.toList.toArray⟩) := bytes_eq rfl
            exact ⟨.nilIface, by rw [HR.out, ← HAE.out]; rfl, by rw [HR.out]; exact ErrIn.mkNil _ _ a, hB5.drew⟩
          · have HR : Hid (joinOf nm.data.toList len p ids ls = ([], (9, -1))) := by show _ = _; rw [HJN.out, if_neg hPp]
            have hb : ((P : Int) == (p : Int)) = false := by rw [beq_eq_false_iff_ne]; omega
            have hbn : ((P : Int) != (p : Int)) = true := by rw [bne, hb]; rfl
            clear HJN hPp
            go_wp2_with fail
            go_region_held3 (fun w' => w'.cell? ⟨w.heap.size, 2, none⟩ = some (.int .u32 (p : Nat))) (go_keep) (first
              | (go_at_call 53; refine (of_any T _ HAM.out).mono ?_; rintro e w6 ⟨rfl, hw6⟩; subst hw6; rw [HPP.out]))
            go_wp2_with fail
            go_region
            all_goals go_wp2_with fail
            all_goals go_ret2
            all_goals exact ⟨sentV a 8, by rw [HR.out]; rfl, by rw [HR.out]; exact ErrIn.sent _ _ a 8 (by decide) rfl, hB5.drew.drew⟩
    · have HR : Hid (joinOf nm.data.toList len p ids ls = ([], (3, -1))) := by
        show _ = _
        unfold joinOf
        rw [if_neg (by rw [HF.out]; simp), if_pos hll]
      have hq : ((ls.length : Int) == (ids.length : Int)) = false := by rw [beq_eq_false_iff_ne]; omega
      have hqn : ((ls.length : Int) != (ids.length : Int)) = true := by rw [bne, hq]; rfl
      have g2 := HG.out w1 hB1 2 (by decide)
      dsimp only [errG] at g2
      clear hll
      go_wp2_with fail
      go_region
      all_goals go_wp2_with fail
      all_goals go_ret2
      all_goals exact ⟨sentV a 2, by rw [HR.out]; rfl, by rw [HR.out]; exact ErrIn.sent _ _ a 2 (by decide) rfl, hB1.drew⟩
  · have HR : Hid (joinOf nm.data.toList len p ids ls = ([], recFault nm.data.toList len ids)) := by
      show _ = _
      unfold joinOf
      rw [if_pos (by intro e; rw [e] at hf; simp at hf)]
    obtain ⟨t, u, rfl⟩ := he.not_nil hf
    have HE : Hid (ErrIn w.heap.size w1 a (.iface t u) (recFault nm.data.toList len ids)) := he
    clear he hf
    go_wp2_with fail
    go_ret2
    exact ⟨.iface t u, by rw [HR.out]; rfl, by rw [HR.out]; exact HE.out, hB1⟩
end Go.Proofs.YtjdobbjdlighpaaGreatDoor
namespace Go.Proofs.YtjdobbjdlighpaaGreatDoor
open Go.RowKit Go.Maps

theorem look1 {P : Program} {k : TypeId} {κ β : Type} {M : MapKit P k κ β} {w : World} {b : Nat} {l : List (κ × β)} {t e : TypeId} {c0 : β} (h : M.Of w b l) (ht : P.underlying t = some (.map k e)) (hz : (zeroValue e).run P w = .ok (M.mkV c0) w) {x : κ} {c : β} (hm : (x, c) ∈ l) :
    (Instr.lookup t (.map (some b)) (M.mkK x) false).run P w = .ok (M.mkV c) w := by
  have hx : M.wf x := h.wf _ hm
  obtain ⟨ds, ho, hp⟩ := h.own
  obtain ⟨es, e, hap, _⟩ := ho.entries M.K
  cases e
  have hd : (M.kl x, DataW.held (M.mkV c)) ∈ ds := hp.mem_iff.2 (List.mem_map.2 ⟨_, hm, rfl⟩)
  have hat : ∀ z, (DataW.map ds).atKey (M.kl x) z = .held (M.mkV c) := fun z => WideAt.atKey_mem z (M.isKey hx) hap hd
  obtain ⟨v, ps, hrun, hv⟩ := ho.lookup M.K ht hz (M.R_mk c0) (M.key_kl hx)
  rw [hat] at hv
  obtain ⟨c', rfl, e⟩ := M.R_inv hv
  have ev : M.mkV c = M.mkV c' := DataW.held.inj (Prod.mk.inj e).1
  rw [hrun, ev]
theorem bare_nil (w : World) : Calls Tryz.prog 95 #[.nilIface] w fun e w' => e = .returned .nilIface ∧ Below w.heap.size w w' := by
  have hal := (Below.refl w.heap.size w).alloc (Nat.le_refl _) (.cells #[.pointer none] 98)
  go_enter Tryz.func95, Tryz.ntmps95
  go_wp2_with fail
  refine (as_nil _ _).mono ?_
  rintro e w1 ⟨rfl, hw1⟩
  subst hw1
  go_wp2_with fail
  go_ret
  exact ⟨rfl, hal⟩
set_option maxRecDepth 100000 in
set_option maxHeartbeats 4000000 in
theorem nodeGet_some (a : Nat → Addr) (nm : ByteArray) (p : Addr) (F : Nat → Prop) (st : NSt) (w : World) (s : List UInt8) (l : List Hd) (hnm : nm.size ≤ 50000) (hf : nFile st.files nm.data.toList = some s) (hb : nBin st.bins (repT s) = some l) (hgot : ∀ t ∈ pieces s, hGet l (idOfL t) = (t, 0)) (hname : isName nm.data.toList = true) (hs : s.length ≤ 4000) (hE : ErrE [1, 2, 3, 4, 6, 8] w a) (hP : PNode w p F st) :
    Calls Tryz.prog 51 #[.pointer (some p), .string nm] w fun e w' => e = .returned (.tuple #[.string ⟨s.toArray⟩, .nilIface]) ∧ Below w.heap.size w w' := by
  obtain ⟨N, mf, mb, vi, pi, Fi, rfl, h, _⟩ := hP
  have HEE : Hid (∀ W, Below w.heap.size w W → ErrE [1, 2, 3, 4, 6, 8] W a) := fun W hb => hE.below hb (Nat.le_refl _)
  have HH := hideN h
  have q0 := h.blk.cell (i := 0) rfl
  have q1 := h.blk.cell (i := 1) rfl
  have hnmE : (⟨nm.data.toList.toArray⟩ : ByteArray) = nm := by simp
  obtain ⟨pv0, cv0, hv0, _⟩ := h.ids _ (nFile_some hf)
  have HI := hideN (h.ids _ (nFile_some hf))
  simp only at hv0 HI
  have HLEN : Hid ((idsOf s).length ≤ 4000) := by
    show _ ≤ _
    have h1 := pieces_len_le s
    unfold idsOf
    rw [List.length_map]
    omega
  have HB := hideN (h.bin _ (nBin_some hb))
  have hmb := nBin_some hb
  have l0 : (Instr.lookup 142 (.map (some mf)) (.string nm) true).run Tryz.prog w = .ok (.tuple #[.agg #[.string nm, .int .i64 (s.length : Int), .int .u32 ((pmore 2166136261 s : Nat) : Int), .slice pv0 (idsOf s).length cv0], .bool true]) w := by
    have := h.files.look_some Tryz.underlying142 (rcpZero _) (List.mem_map.2 ⟨_, nFile_some hf, rfl⟩)
    change (Instr.lookup _ _ (.string ⟨nm.data.toList.toArray⟩) true).run _ _ = .ok (.tuple #[rcpV ⟨nm.data.toList.toArray⟩ (s.length : Int) ((pmore 2166136261 s : Nat) : Int) (vi nm.data.toList), .bool true]) _ at this
    rw [hnmE, hv0] at this
    exact this
  rw [hv0] at HI
  obtain ⟨P, hPP⟩ : ∃ P, pmore 2166136261 s = P := ⟨_, rfl⟩
  obtain ⟨L, hLL⟩ : ∃ L, (s.length : Int) = L := ⟨_, rfl⟩
  obtain ⟨idl, hidl⟩ : ∃ idl, (idsOf s).length = idl := ⟨_, rfl⟩
  obtain ⟨⟨rp, rl⟩, hrep⟩ : ∃ r, repT s = r := ⟨_, rfl⟩
  have HPP := hideN hPP
  have HLL := hideN hLL
  have HID := hideN hidl
  have HRP := hideN hrep
  have HGOT := hideN hgot
  have HJ := hideN (joinOf_pieces nm.data.toList s hname hs)
  rw [hPP, hLL, hidl] at l0
  rw [hidl] at HI HLEN
  rw [hrep] at HB hmb
  rw [hPP, hLL] at HJ
  clear hnmE hE hv0 hPP hLL hidl hf hb hgot hname hs h hrep
  have hal := (Below.refl w.heap.size w).alloc (Nat.le_refl _) (.cells #[.string nm, .int .i64 L, .int .u32 (P : Nat), .slice pv0 idl cv0] 26)
  have hbr := Blk.new w #[.string nm, .int .i64 L, .int .u32 (P : Nat), .slice pv0 idl cv0] 26
  go_enter Tryz.func51, Tryz.ntmps51
  go_wp2_with fail
  generalize hW : w.alloc (.cells #[.string nm, .int .i64 L, .int .u32 (P : Nat), .slice pv0 idl cv0] 26) = W at *
  clear hW
  have HB1 := hideN hal
  have HN1 := hideN (HH.out.below hal)
  have HI1 := hideN (HI.out.below hal)
  have HREP := hideN (fun W (hv : IdsAt W (.slice pv0 idl cv0) (idsOf s)) => rep_any nm L (P : Int) (.slice pv0 idl cv0) (idsOf s) W hv (by rw [HID.out]; have := HLEN.out; unfold maxLen; omega))
  change Hid (∀ W, _ → Calls _ _ _ W fun e w' => e = .returned (idV ((repT s).1 : Nat) (repT s).2) ∧ _) at HREP
  rw [HRP.out] at HREP
  simp only at HREP
  have HBL := hideN hbr
  have HCE : Hid (∀ W', Blk W' N #[.map (some mf), .map (some mb)] 145 → Blk W' w.heap.size #[.string nm, .int .i64 L, .int .u32 (P : Nat), .slice pv0 idl cv0] 26 → W'.cell? ⟨N, 1, none⟩ = some (.map (some mb)) ∧ W'.cell? ⟨w.heap.size, 0, none⟩ = some (.string nm) ∧ W'.cell? ⟨w.heap.size, 1, none⟩ = some (.int .i64 L) ∧ W'.cell? ⟨w.heap.size, 2, none⟩ = some (.int .u32 (P : Nat)) ∧ W'.cell? ⟨w.heap.size, 3, none⟩ = some (.slice pv0 idl cv0)) := fun W' h1 h2 => ⟨h1.cell (i := 1) rfl, h2.cell (i := 0) rfl, h2.cell (i := 1) rfl, h2.cell (i := 2) rfl, h2.cell (i := 3) rfl⟩
  obtain ⟨z1, y0, y1, y2, y3⟩ := HCE.out _ HN1.out.blk HBL.out
  clear q0 q1 l0 hal hbr HH HI
  go_region_held3 (fun w' => w'.cell? ⟨N, 1, none⟩ = some (.map (some mb)) ∧ w'.cell? ⟨w.heap.size, 0, none⟩ = some (.string nm) ∧ w'.cell? ⟨w.heap.size, 1, none⟩ = some (.int .i64 L) ∧ w'.cell? ⟨w.heap.size, 2, none⟩ = some (.int .u32 (P : Nat)) ∧ w'.cell? ⟨w.heap.size, 3, none⟩ = some (.slice pv0 idl cv0)) (first | exact HCE.out _ HN2.out.blk HBL2.out | go_keep) (first
    | (go_at_call 15; refine (HREP.out _ (HI1.out.below (Below.refl _ W).drew)).mono ?_; rintro e w2 ⟨rfl, hb2⟩; have hB2 : Below W.heap.size W w2 := (Below.refl _ W).drew.trans hb2; have HN2 := hideN (HN1.out.below hB2); have HBL2 := hideN (HBL.out.next hB2); have HI2 := hideN (HI1.out.below hB2); have HB2 : Hid (Below w.heap.size w w2) := HB1.out.trans (hB2.mono HB1.out.size); have HWsz := hideN hB2.size; have l1 := look1 HN2.out.bins Tryz.underlying143 (ptrZero w2) (List.mem_map.2 ⟨_, hmb, rfl⟩); change (Instr.lookup 143 (.map (some mb)) (idV (rp : Nat) rl) false).run Tryz.prog w2 = .ok (.pointer (some (pi (rp, rl)))) w2 at l1; clear hb2 hB2))
  obtain ⟨iS, hiS, zS0, zS1, zS2⟩ := info_parts infoStr
  obtain ⟨A0, mk, hA0⟩ : ∃ A0 : Array Value, (Instr.makeSlice 31 (.int .i64 (idl : Int)) (.int .i64 (idl : Int))).run Tryz.prog w2 = .ok (.slice (some ⟨w2.heap.size, 0, none⟩) idl idl) (w2.alloc (.cells A0 9)) ∧ A0.size = idl := by
    have hl := HLEN.out
    have h1 := run_makeSlice (P := Tryz.prog) (w := w2) 31 9 iS (.string ⟨#[]⟩) Tryz.underlying31 hiS zS0 .i64 .i64 (idl : Int) (idl : Int) (by omega) (Int.le_refl _) (by rw [zS1]; simp; omega) (by rw [zS2]; omega) (by omega)
    simp only [Int.toNat_natCast] at h1
    exact ⟨_, h1, by rw [size_madeCells, zS1]; omega⟩
  have hal3 := (Below.refl w2.heap.size w2).alloc (Nat.le_refl _) (.cells A0 9)
  have hbA := Blk.new w2 A0 9
  have HB3 : Hid (Below w.heap.size w _) := hideN (HB2.out.trans (hal3.mono HB2.out.size))
  have HN3 := hideN (HN2.out.below hal3)
  have HI3 := hideN (HI2.out.below hal3)
  have HBL3 := hideN (HBL2.out.next hal3)
  have hBAlt : w.heap.size < w2.heap.size := HBL2.out.lt
  have HWB := hideN HWsz.out
  obtain ⟨_, u0, u1, u2, u3⟩ := HCE.out _ HN3.out.blk HBL3.out
  have hidl4 : (idl : Int) ≤ 4000 := by have := HLEN.out; omega
  clear hal3 HN2 HI2 HBL2 HB2 l1
  have HSZA := hideN hA0
  have HPL : Hid ((pieces s).length = idl) := by
    show _ = _
    rw [← HID.out]
    unfold idsOf
    rw [List.length_map]
  go_wp2_with fail
  generalize hW3 : w2.alloc (.cells A0 9) = W3 at *
  clear hW3
  generalize w2.heap.size = BB at *
  obtain ⟨q, hq⟩ : ∃ q, pi (rp, rl) = q := ⟨_, rfl⟩
  have HPB : Hid (PBin0 W3 q (Fi (rp, rl)) l) := by
    show PBin0 _ _ _ _
    rw [← hq]
    exact HN3.out.bin _ hmb
  have HFI : Hid (∀ j, Fi (rp, rl) j → j ≠ BB) := fun j hj e => by
    have h1 := HB.out.lt j hj
    omega
  rw [hq]
  have HIL : Hid (∀ j, (Value.slice pv0 idl cv0).ownBlock = some j → idsOf s ≠ [] → j ≠ BB) := fun j hj hne e => by
    have h1 := HI1.out.lt hne hj
    have h2 := HWB.out
    omega
  clear hq mk hA0 u0 u1 u2
  go_loopw [40] (fun iv wr => ∃ (k : Nat) (A : Array Value), k ≤ idl ∧ iv = .int .i64 k ∧ Hid (Blk wr BB A 9) ∧ Hid (A.size = idl ∧ ∀ j, j < k → A[j]? = some (txtV ((pieces s)[j]?.getD []))) ∧ Hid (Below w.heap.size w wr) ∧ Hid (Off (fun j => j = BB) W3 wr)) (fun iv _ => idl - (intOf iv).toNat)
  case atStart => exact ⟨0, A0, Nat.zero_le _, rfl, hbA, ⟨HSZA.out, fun j hj => by omega⟩, HB3.out, Off.of_below (Below.refl _ _)⟩
  case round =>
    clear hbA
    obtain ⟨k, A, hk, rfl, HA, HAS, HBR, HO⟩ := hrel
    by_cases hlt : k < idl
    · have hlt' : (k : Int) < (idl : Int) := by omega
      have hk0 : (0 : Int) ≤ (k : Int) := by omega
      have hIr := HI3.out.off HO.out (fun hne j hj e => HIL.out j hj hne e)
      obtain ⟨pq, cq, hve, hcell⟩ := hIr
      obtain ⟨b, o, hpq, hbl, c0, c1⟩ := hcell k (by rw [HID.out]; exact hlt)
      obtain ⟨rfl, rfl⟩ : pv0 = pq ∧ cv0 = cq := by have := hve; simp at this; exact ⟨this.1, this.2.2⟩
      subst hpq
      have hkp : k < (pieces s).length := by rw [HPL.out]; exact hlt
      obtain ⟨t, ht⟩ : ∃ t, (pieces s)[k] = t := ⟨_, rfl⟩
      have hid : (idsOf s)[k]'(by rw [HID.out]; exact hlt) = (pmore 2166136261 t, (t.length : Int)) := by
        unfold idsOf
        rw [List.getElem_map, ht]
      rw [hid] at c0 c1
      simp only at c0 c1
      have HTG := hideN (HGOT.out t (by rw [← ht]; exact List.getElem_mem hkp))
      have HTL := hideN (piece_le (s := s) (q := t) (by rw [← ht]; exact List.getElem_mem hkp))
      have HTP : Hid ((pieces s)[k]?.getD [] = t) := by show _ = _; rw [List.getElem?_eq_getElem hkp, ht]; rfl
      obtain ⟨xp, hxp⟩ : ∃ xp, pmore 2166136261 t = xp := ⟨_, rfl⟩
      obtain ⟨xl, hxl⟩ : ∃ xl, (t.length : Int) = xl := ⟨_, rfl⟩
      have HX : Hid (idOfL t = (xp, xl)) := by show (pmore 2166136261 t, (t.length : Int)) = _; rw [hxp, hxl]
      have HXW : Hid (WfID (xp, xl)) := ⟨by rw [← hxp]; exact pmore_lt _ (by decide) _, by rw [← hxl]; simp only; omega, by rw [← hxl]; have := HTL.out; simp only; omega⟩
      rw [hxp] at c0
      rw [hxl] at c1
      rw [HX.out] at HTG
      clear hcell hve hid ht hkp hxp hxl
      have hal4 := (Below.refl wr.heap.size wr).alloc (Nat.le_refl _) (.cells #[.int .u32 (xp : Nat), .int .i64 xl] 40)
      have hbi := Blk.new wr #[.int .u32 (xp : Nat), .int .i64 xl] 40
      have HA4 := hideN (HA.out.next hal4)
      have HB4 : Hid (Below w.heap.size w _) := hideN (HBR.out.trans (hal4.mono HBR.out.size))
      have HPB4 := hideN ((HPB.out.off HO.out (fun j hj e => HFI.out j hj e)).off (Off.of_below (F := fun _ => False) hal4) (fun _ _ h => h))
      have HO4 : Hid (Off (fun j => j = BB) W3 _) := hideN (HO.out.trans (Off.of_below (F := fun _ => False) hal4) (fun _ _ h => h.elim))
      have hneB : wr.heap.size ≠ BB := by have := HA.out.lt; omega
      go_wp2_with fail
      generalize wr.alloc (.cells #[.int .u32 (xp : Nat), .int .i64 xl] 40) = W at *
      generalize wr.heap.size = HB9 at *
      refine (pGet_any (xp, xl) q (Fi (rp, rl)) l W HXW.out ((HEE.out _ HB4.out).sub (by decide)) HPB4.out).mono ?_
      rintro e w5 ⟨ev5, rfl, _, hb5⟩
      rw [HTG.out]
      simp only
      have hA5 := HA4.out.next hb5
      have hkA : k < A.size := by rw [HAS.out.1]; exact hlt
      have b0 := hA5.cell (i := k) (Array.getElem?_eq_getElem hkA)
      have f0 := hA5.frozen k
      have HB5 : Hid (Below w.heap.size w w5) := HB4.out.trans (hb5.mono HB4.out.size)
      have HO5 : Hid (Off (fun j => j = BB) W3 w5) := HO4.out.trans (Off.of_below (F := fun _ => False) hb5) (fun _ _ h => h.elim)
      obtain ⟨X, hX⟩ : ∃ X : Value, A[k] = X := ⟨_, rfl⟩
      rw [hX] at b0
      obtain ⟨T, hT⟩ : ∃ T : ByteArray, (⟨t.toArray⟩ : ByteArray) = T := ⟨_, rfl⟩
      have HT := hideN hT
      rw [hT]
      have HA6 := hideN (hA5.set k (.string T))
      have HO6 := hideN (HO5.out.setCell (p := ⟨BB, k, none⟩) (.inl rfl) (.string T))
      have HB6 := hideN (HB5.out.setCell (p := ⟨BB, k, none⟩) (show w.heap.size ≤ BB by omega) (.string T))
      have HAS6 : Hid ((A.setIfInBounds k (.string T)).size = idl ∧ ∀ j, j < k + 1 → (A.setIfInBounds k (.string T))[j]? = some (txtV ((pieces s)[j]?.getD []))) := by
        refine ⟨by rw [Array.size_setIfInBounds]; exact HAS.out.1, fun j hj => ?_⟩
        by_cases e : j = k
        · subst e
          rw [Array.getElem?_setIfInBounds_self_of_lt hkA, HTP.out, ← HT.out]
        · rw [Array.getElem?_setIfInBounds_ne (fun e' => e e'.symm)]
          exact HAS.out.2 j (by omega)
      clear hA5 hb5 hX hT hkA
      go_wp2_with fail
      go_roundw
      case rel => exact ⟨k + 1, _, hlt, by go_num, HA6.out, HAS6.out, HB6.out, HO6.out⟩
      case measure => simp [intOf]; omega
    · have hge : (idl : Int) ≤ (k : Int) := by omega
      obtain rfl : k = idl := by omega
      have hbr9 := HO.out.blk HBL3.out (fun e => by omega)
      have hIr := HI3.out.off HO.out (fun hne j hj e => HIL.out j hj hne e)
      have HCA : Hid (CellsAt wr (.slice (some ⟨BB, 0, none⟩) k k) ((pieces s).map txtV)) := by
        refine ⟨some ⟨BB, 0, none⟩, k, by rw [List.length_map, HPL.out], fun i hi => ?_⟩
        rw [List.length_map] at hi
        refine ⟨BB, 0, rfl, ⟨HA.out.lt, by rw [List.length_map, HPL.out]; exact Nat.le_refl _⟩, ?_⟩
        rw [List.getElem_map, Nat.zero_add]
        have := HAS.out.2 i (by rw [← HPL.out]; exact hi)
        rw [List.getElem?_eq_getElem hi] at this
        exact HA.out.cell (i := i) this
      have HJN := hideN (rjoin_any a nm (by unfold maxLen; omega) L P (.slice pv0 k cv0) (.slice (some ⟨BB, 0, none⟩) k k) (idsOf s) (pieces s) wr ((HEE.out _ HBR.out).sub (by decide)) hIr (by rw [HID.out]; have := HLEN.out; unfold maxLen; omega) HCA.out (by rw [HPL.out]; have := HLEN.out; omega) (fun i hi => by have := piece_le (List.getElem_mem hi); omega))
      unfold joinPost at HJN
      rw [HJ.out] at HJN
      simp only at HJN
      have x0 := hbr9.cell (i := 0) rfl
      have x1 := hbr9.cell (i := 1) rfl
      have x2 := hbr9.cell (i := 2) rfl
      have x3 := hbr9.cell (i := 3) rfl
      clear hbr9 hIr HCA
      go_wp2_with fail
      refine HJN.out.mono ?_
      rintro e w6 ⟨ev6, rfl, he6, hb6⟩
      obtain rfl := he6.nil
      have HB6 : Hid (Below w.heap.size w w6) := HBR.out.trans (hb6.mono HBR.out.size)
      clear hb6 he6
      go_wp2_with fail
      refine (bare_nil w6).mono ?_
      rintro e w7 ⟨rfl, hb7⟩
      go_wp2_with fail
      go_ret2
      exact ⟨rfl, HB6.out.trans (hb7.mono HB6.out.size)⟩
end Go.Proofs.YtjdobbjdlighpaaGreatDoor
namespace Go.Proofs.YtjdobbjdlighpaaGreatDoor
open Go.RowKit Go.Maps

theorem putAll_ok : ∀ (ls : List (List UInt8)) {U : Int} {l : List Hd} {fr : Int}, 0 ≤ U → BinOk U l → BinOk (U + ls.length) (putAll l fr ls).2.2
  | [], U, l, fr, _, h => by
    rw [putAll]
    simpa using h
  | s :: r, U, l, fr, hU, h => by
    rw [putAll]
    have h1 := hPut_ok h s hU
    split
    · have := putAll_ok r (fr := if (hPut l s).1.2.1 = true then fr + s.length else fr) (by omega) h1
      have e : U + ((s :: r).length : Nat) = U + 1 + (r.length : Nat) := by rw [List.length_cons]; omega
      rw [e]
      exact this
    · exact h1.mono (by rw [List.length_cons]; omega)
structure NOk (U : Int) (n : Nat) (st : NSt) : Prop where
  bins : ∀ b ∈ st.bins, BinOk U b.2
  many : st.bins.length ≤ n
  files : ∀ f ∈ st.files, f.2.length ≤ 4000 ∧ isName f.1 = true
theorem NOk.empty : NOk 0 0 ⟨[], []⟩ := ⟨fun b hb => by simp at hb, Nat.le_refl _, fun f hf => by simp at hf⟩
theorem NOk.mono {U V : Int} {n m : Nat} {st : NSt} (h : NOk U n st) (hU : U ≤ V) (hn : n ≤ m) : NOk V m st := ⟨fun b hb => (h.bins b hb).mono hU, Nat.le_trans h.many hn, h.files⟩
theorem nPut_cases (st : NSt) (nm s : List UInt8) : ((nPut st nm s).2.1 ≠ 0 ∧ (nPut st nm s).1 = 0 ∧ (nPut st nm s).2.2 = st) ∨ ((ofR nm s).2 = 0 ∧ nFile st.files nm = none ∧ nPut st nm s = ((putAll ((nBin st.bins (repT s)).getD []) 0 (pieces s)).1, 0, ⟨(nm, s) :: st.files, (repT s, (putAll ((nBin st.bins (repT s)).getD []) 0 (pieces s)).2.2) :: st.bins.filter (fun b => !decide (b.1 = repT s))⟩)) := by
  by_cases h1 : (ofR nm s).2 = 0
  · cases h2 : nFile st.files nm with
    | some t =>
      rw [nPut_there h1 h2]
      exact .inl ⟨by simp, rfl, rfl⟩
    | none =>
      by_cases h3 : 30 ≤ st.files.length
      · rw [nPut_full h1 h2 h3]
        exact .inl ⟨by simp, rfl, rfl⟩
      · obtain ⟨⟨fr, ec, bl⟩, hp⟩ : ∃ r, putAll ((nBin st.bins (repT s)).getD []) 0 (pieces s) = r := ⟨_, rfl⟩
        by_cases h4 : ec = 0
        · subst h4
          rw [nPut_ok h1 h2 h3 rfl rfl hp, hp]
          exact .inr ⟨h1, rfl, rfl⟩
        · rw [nPut_err h1 h2 h3 rfl rfl hp h4]
          exact .inl ⟨h4, rfl, rfl⟩
  · rw [nPut_bad h1]
    exact .inl ⟨h1, rfl, rfl⟩
theorem ofR_ok {nm s : List UInt8} (h : (ofR nm s).2 = 0) : isName nm = true ∧ s.length ≤ 4000 := by
  have hn : isName nm = true := by
    cases hn : isName nm with
    | true => rfl
    | false => rw [ofR_name hn] at h; cases h
  refine ⟨hn, ?_⟩
  by_cases hl : 4000 < s.length
  · rw [ofR_bound hn hl] at h
    cases h
  · omega
theorem NOk.put {U : Int} {n : Nat} {st : NSt} (h : NOk U n st) (hU : 0 ≤ U) (nm s : List UInt8) : NOk (U + 4000) (n + 1) (nPut st nm s).2.2 := by
  rcases nPut_cases st nm s with ⟨_, _, e⟩ | ⟨h1, _, e⟩
  · rw [e]
    exact h.mono (by omega) (by omega)
  · rw [e]
    obtain ⟨hn, hl⟩ := ofR_ok h1
    have hp := pieces_len_le s
    refine ⟨fun b hb => ?_, ?_, fun f hf => ?_⟩
    · rcases List.mem_cons.1 hb with rfl | hb
      · have hb0 : BinOk U ((nBin st.bins (repT s)).getD []) := by
          cases hb : nBin st.bins (repT s) with
          | none => exact BinOk.nil _
          | some l0 => exact h.bins _ (nBin_some hb)
        exact (putAll_ok (pieces s) hU hb0).mono (by omega)
      · exact (h.bins b (List.mem_filter.1 hb).1).mono (by omega)
    · have h2 := List.length_filter_le (fun b : NBin => !decide (b.1 = repT s)) st.bins
      have h3 := h.many
      simp only [List.length_cons]
      omega
    · rcases List.mem_cons.1 hf with rfl | hf
      · exact ⟨hl, hn⟩
      · exact h.files f hf
theorem nPut_there' {st : NSt} {nm s : List UInt8} (h : (nPut st nm s).2.1 = 0) : nFile (nPut st nm s).2.2.files nm = some s ∧ (∃ l, nBin (nPut st nm s).2.2.bins (repT s) = some l) ∧ (ofR nm s).2 = 0 := by
  rcases nPut_cases st nm s with ⟨h1, _, _⟩ | ⟨h1, _, e⟩
  · exact absurd h h1
  · rw [e]
    exact ⟨by simp only [nFile, if_true], ⟨(putAll ((nBin st.bins (repT s)).getD []) 0 (pieces s)).2.2, by simp only [nBin, if_true]⟩, h1⟩
/- The closed example. -/
abbrev helloL : List UInt8 := [104, 101, 108, 108, 111]
theorem helloPieces : pieces helloL = [helloL] := by decide
def helloR : Nat × Int := repT helloL
def st1 : NSt := ⟨[([97], helloL)], [(repT helloL, [(idOfL helloL, 1, helloL)])]⟩
def st2 : NSt := ⟨[([98], helloL), ([97], helloL)], [(repT helloL, [(idOfL helloL, 2, helloL)])]⟩
theorem put1 : nPut ⟨[], []⟩ [97] helloL = (5, 0, st1) := by
  have e : putAll [] 0 (pieces helloL) = (5, 0, [(idOfL helloL, 1, helloL)]) := by rw [helloPieces]; rfl
  exact nPut_ok (st := ⟨[], []⟩) (nm := [97]) (s := helloL) (r := repT helloL) (BL := []) (by decide) rfl (by decide) rfl rfl e
theorem put2 : nPut st1 [98] helloL = (0, 0, st2) := by
  have e : putAll [(idOfL helloL, 1, helloL)] 0 (pieces helloL) = (0, 0, [(idOfL helloL, 2, helloL)]) := by
    rw [helloPieces]
    simp [putAll, hPut, hFind, hUse]
  have h := nPut_ok (st := st1) (nm := [98]) (s := helloL) (r := repT helloL) (BL := [(idOfL helloL, 1, helloL)]) (by decide) (by decide) (by decide) rfl (by unfold st1; simp [nBin]) e
  rw [h]
  unfold st1 st2
  simp
theorem size2 : nSize st2.bins = 5 := by
  unfold st2
  simp [nSize, hSize, idOfL]
end Go.Proofs.YtjdobbjdlighpaaGreatDoor
namespace Go.Proofs.YtjdobbjdlighpaaGreatDoor
open Go.RowKit Go.Maps

abbrev helloB : ByteArray := ⟨#[104, 101, 108, 108, 111]⟩
theorem hello_got : ∀ t ∈ pieces helloL, hGet [(idOfL helloL, 2, helloL)] (idOfL t) = (t, 0) := by
  intro t ht
  rw [helloPieces] at ht
  rw [List.mem_singleton.1 ht]
  simp [hGet, hFind]
theorem ok1 : NOk 4000 1 st1 := by
  have := NOk.empty.put (by decide) [97] helloL
  rw [put1] at this
  exact this
theorem ok2 : NOk 8000 2 st2 := by
  have := ok1.put (by decide) [98] helloL
  rw [put2] at this
  exact this
set_option maxRecDepth 100000 in
set_option maxHeartbeats 4000000 in
theorem noded_any (a : Nat → Addr) (w : World) (hE : ErrE [1, 2, 3, 4, 5, 6, 8, 9] w a) :
    Calls Tryz.prog 44 #[] w fun e w' => e = .returned (.bool true) ∧ Below w.heap.size w w' := by
  have HEE : Hid (∀ W, Below w.heap.size w W → ErrE [1, 2, 3, 4, 5, 6, 8, 9] W a) := fun W hb => hE.below hb (Nat.le_refl _)
  clear hE
  go_enter Tryz.func44, Tryz.ntmps44
  go_wp2_with fail
  refine (nNew_any w).mono ?_
  rintro e w1 ⟨p, F1, rfl, hP1, hF1, hb1⟩
  have HB1 := hideN hb1
  have HP1 := hideN hP1
  have HF1 := hideN hF1
  clear hb1 hP1 hF1
  go_wp2_with fail
  refine (nodePut_any a ⟨#[97]⟩ helloB p F1 0 ⟨[], []⟩ w1 (by decide) (by decide) ⟨by decide, by decide⟩ (fun b hb => by simp at hb) (by simp) ((HEE.out _ HB1.out).sub (by decide)) HP1.out).mono ?_
  rw [show (⟨#[97]⟩ : ByteArray).data.toList = [97] from rfl, show helloB.data.toList = helloL from rfl, put1]
  rintro e w2 ⟨ev2, F2, rfl, he2, hP2, hF2, ho2⟩
  simp only at he2 hP2
  obtain rfl := he2.nil
  have HB2 : Hid (Below w.heap.size w w2) := HB1.out.trans (ho2.below HB1.out.size (fun j hj hF => by have := HF1.out j hF; omega))
  have HP2 := hideN hP2
  have HF2 : Hid (∀ k, F2 k → w.heap.size ≤ k) := fun k hk => by
    rcases hF2 k hk with h | h
    · exact HF1.out k h
    · have := HB1.out.size; omega
  clear he2 hP2 hF2 ho2 HP1 HF1 HB1
  go_wp2_with fail
  refine (nodePut_any a ⟨#[98]⟩ helloB p F2 4000 st1 w2 (by decide) (by decide) ⟨by decide, by decide⟩ ok1.bins (by decide) ((HEE.out _ HB2.out).sub (by decide)) HP2.out).mono ?_
  rw [show (⟨#[98]⟩ : ByteArray).data.toList = [98] from rfl, show helloB.data.toList = helloL from rfl, put2]
  rintro e w3 ⟨ev3, F3, rfl, he3, hP3, hF3, ho3⟩
  simp only at he3 hP3
  obtain rfl := he3.nil
  have HB3 : Hid (Below w.heap.size w w3) := HB2.out.trans (ho3.below HB2.out.size (fun j hj hF => by have := HF2.out j hF; omega))
  have HP3 := hideN hP3
  clear he3 hP3 hF3 ho3 HP2 HF2 HB2
  go_wp2_with fail
  refine (nodeGet_some a ⟨#[98]⟩ p F3 st2 w3 helloL [(idOfL helloL, 2, helloL)] (by decide) (by decide) (by unfold st2; simp [nBin]) hello_got (by decide) (by decide) ((HEE.out _ HB3.out).sub (by decide)) HP3.out).mono ?_
  rintro e w4 ⟨rfl, hb4⟩
  have HB4 : Hid (Below w.heap.size w w4) := HB3.out.trans (hb4.mono HB3.out.size)
  have HP4 := hideN (HP3.out.below hb4)
  clear hb4 HP3 HB3
  have HSZ := hideN (fun W (hW : PNode W p F3 st2) => nodeSize_any p F3 st2 W (fun b hb => (ok2.bins b hb).mono (by decide)) (by decide) hW)
  rw [size2] at HSZ
  go_wp2_with fail
  refine (HSZ.out w4 HP4.out).mono ?_
  rintro e w5 ⟨rfl, hb5⟩
  go_wp2_with fail
  go_ret
  exact ⟨rfl, HB4.out.trans (hb5.mono HB4.out.size)⟩
end Go.Proofs.YtjdobbjdlighpaaGreatDoor
namespace Go.Proofs.YtjdobbjdlighpaaGreatDoor
open Go.RowKit Go.Maps

abbrev Act3 := ByteArray × ByteArray × ByteArray
def Acts3At (w : World) (v : Value) (l : List Act3) : Prop :=
  ∃ (p : Option Addr) (c : Nat), v = .slice p l.length c ∧ ∀ i (h : i < l.length), ∃ b o, p = some ⟨b, o, none⟩ ∧ b < w.heap.size ∧ w.cell? ⟨b, o + i * 3, none⟩ = some (.string l[i].1) ∧ w.cell? ⟨b, o + i * 3 + 1, none⟩ = some (.string l[i].2.1) ∧ w.cell? ⟨b, o + i * 3 + 2, none⟩ = some (.string l[i].2.2)
theorem Acts3At.below {w w' : World} {v : Value} {l : List Act3} (h : Acts3At w v l) (hb : Below w.heap.size w w') : Acts3At w' v l := by
  obtain ⟨p, c, rfl, h⟩ := h
  refine ⟨p, c, rfl, fun i hi => ?_⟩
  obtain ⟨b, o, hp, hlt, h0, h1, h2⟩ := h i hi
  exact ⟨b, o, hp, Nat.lt_of_lt_of_le hlt hb.size, (hb.cell (p := ⟨b, o + i * 3, none⟩) hlt).trans h0, (hb.cell (p := ⟨b, o + i * 3 + 1, none⟩) hlt).trans h1, (hb.cell (p := ⟨b, o + i * 3 + 2, none⟩) hlt).trans h2⟩
def fits (y : Act3) : Prop := y.2.1.size ≤ 30 ∧ y.2.2.size ≤ 4001
def Long3Post (w : World) (l : List Act3) (m : Nat) (e : Ending) (w' : World) : Prop := ∃ n : Int, e = .returned (.int .i64 n) ∧ w' = w ∧ (n = 0 ∨ n = 1) ∧ (n = 0 → l.length ≤ m ∧ ∀ i (h : i < l.length), fits l[i])
set_option maxRecDepth 100000 in
set_option maxHeartbeats 2000000 in
theorem longActs3_any (v : Value) (l : List Act3) (m : Nat) (w : World) (hm : m ≤ 1000) (hv : Acts3At w v l) :
    Calls Tryz.prog 45 #[v, .int .i64 (m : Int)] w (Long3Post w l m) := by
  obtain ⟨p, c, rfl, hcell⟩ := hv
  by_cases hl : l.length ≤ m
  · have hl' : ¬ (m : Int) < (l.length : Int) := by omega
    go_enter Tryz.func45, Tryz.ntmps45
    go_wp2_with fail
    go_loopw [5] (fun i wr => ∃ j : Nat, j ≤ l.length ∧ i = .int .i64 j ∧ wr = w ∧ Hid (∀ k (hk : k < l.length), k < j → fits l[k])) (fun i _ => l.length - (intOf i).toNat)
    case atStart => exact ⟨0, Nat.zero_le _, rfl, rfl, fun k _ h => by omega⟩
    case round =>
      obtain ⟨j, hj, rfl, hww, HA⟩ := hrel
      subst hww
      by_cases hlt : j < l.length
      · have hlt' : (j : Int) < (l.length : Int) := by omega
        have hj0 : (0 : Int) ≤ (j : Int) := by omega
        obtain ⟨b, o, rfl, _, c0, c1, c2⟩ := hcell j hlt
        have HNX : Hid (fits l[j] → ∀ k (hk : k < l.length), k < j + 1 → fits l[k]) := fun h k hk hkj => by
          rcases Nat.lt_or_ge k j with h' | h'
          · exact HA.out k hk h'
          · obtain rfl : k = j := by omega
            exact h
        obtain ⟨⟨y1, y2, y3⟩, hy⟩ : ∃ y, l[j] = y := ⟨_, rfl⟩
        rw [hy] at c0 c1 c2 HNX
        simp only at c0 c1 c2
        clear hy hcell
        by_cases h1 : (20 : Int) < (y1.size : Int)
        · go_wp2_with fail
          go_ret
          exact ⟨1, rfl, rfl, .inr rfl, fun h => by cases h⟩
        · by_cases h2 : (30 : Int) < (y2.size : Int)
          · go_wp2_with fail
            go_ret
            exact ⟨1, rfl, rfl, .inr rfl, fun h => by cases h⟩
          · by_cases h3 : (600 : Int) < (y3.size : Int)
            · by_cases h4 : (y3.size : Int) = 4001
              · have HN := hideN (HNX.out ⟨by simp only; omega, by simp only; omega⟩)
                go_wp2_with fail
                go_roundw
                case rel => exact ⟨j + 1, hlt, by go_num, by first | rfl | trivial, HN.out⟩
                case measure => simp [intOf]; omega
              · go_wp2_with fail
                go_ret
                exact ⟨1, rfl, rfl, .inr rfl, fun h => by cases h⟩
            · have HN := hideN (HNX.out ⟨by simp only; omega, by simp only; omega⟩)
              go_wp2_with fail
              go_roundw
              case rel => exact ⟨j + 1, hlt, by go_num, by first | rfl | trivial, HN.out⟩
              case measure => simp [intOf]; omega
      · have hge : (l.length : Int) ≤ (j : Int) := by omega
        go_wp2_with fail
        go_ret
        exact ⟨0, rfl, rfl, .inl rfl, fun _ => ⟨hl, fun i hi => HA.out i hi (by omega)⟩⟩
  · have hl' : (m : Int) < (l.length : Int) := by omega
    go_enter Tryz.func45, Tryz.ntmps45
    go_wp2_with fail
    go_ret
    exact ⟨1, rfl, rfl, .inr rfl, fun h => by cases h⟩
end Go.Proofs.YtjdobbjdlighpaaGreatDoor
namespace Go.Proofs.YtjdobbjdlighpaaGreatDoor
open Go.RowKit

theorem rise_at_ne {l : List Hd} (hr : Rise l) {i k : Nat} (hi : i < l.length) (hk : k < l.length) (h : i ≠ k) : l[i].1 ≠ l[k].1 := by
  unfold Rise at hr
  rw [List.pairwise_iff_getElem] at hr
  rcases Nat.lt_or_gt_of_ne h with h | h
  · exact lessB_ne (hr i k hi hk h)
  · exact fun e => lessB_ne (hr k i hk hi h) e.symm
theorem modify_all {l : List Hd} {k : Nat} {d : Int} (hr : Rise l) (hk : k < l.length) {z : Hd} (hz : z ∈ l.modify k (hUse d)) : (z ∈ l ∧ z.1 ≠ l[k].1) ∨ z = hUse d l[k] := by
  obtain ⟨i, hi, rfl⟩ := List.getElem_of_mem hz
  rw [List.length_modify] at hi
  rw [List.getElem_modify]
  split
  · rename_i e
    subst e
    exact .inr rfl
  · rename_i e
    exact .inl ⟨List.getElem_mem _, rise_at_ne hr hi hk (fun h => e h.symm)⟩
theorem modify_other {l : List Hd} {k : Nat} {d : Int} (hk : k < l.length) {z : Hd} (hz : z ∈ l) (hn : z.1 ≠ l[k].1) : z ∈ l.modify k (hUse d) := by
  obtain ⟨i, hi, rfl⟩ := List.getElem_of_mem hz
  have hik : ¬ k = i := fun e => by subst e; exact hn rfl
  have h : (l.modify k (hUse d))[i]'(by rw [List.length_modify]; exact hi) = l[i] := by rw [List.getElem_modify, if_neg hik]
  rw [← h]
  exact List.getElem_mem _
theorem modify_own {l : List Hd} {k : Nat} {d : Int} (hk : k < l.length) : hUse d l[k] ∈ l.modify k (hUse d) := by
  have h : (l.modify k (hUse d))[k]'(by rw [List.length_modify]; exact hk) = hUse d l[k] := by rw [List.getElem_modify, if_pos rfl]
  rw [← h]
  exact List.getElem_mem _

structure Log (l : List Hd) (log : List (List UInt8)) : Prop where
  cnt : ∀ h ∈ l, h.2.1 = ((log.count h.2.2 : Nat) : Int)
  has : ∀ s ∈ log, ∃ u, (idOfL s, u, s) ∈ l
  only : ∀ h ∈ l, h.2.2 ∈ log
theorem Log.nil : Log [] [] := ⟨fun h hm => by simp at hm, fun s hm => by simp at hm, fun h hm => by simp at hm⟩
theorem Log.none {l : List Hd} (h : Log l []) : l = [] := by
  cases l with
  | nil => rfl
  | cons x r => have := h.only x (List.mem_cons_self ..); simp at this
theorem Log.used {l : List Hd} {log : List (List UInt8)} (h : Log l log) : ∀ x ∈ l, 1 ≤ x.2.1 := fun x hx => by
  have h1 := List.count_pos_iff.2 (h.only x hx)
  rw [h.cnt x hx]
  omega
theorem Log.sweep {l : List Hd} {log : List (List UInt8)} (h : Log l log) : (hSweep l).2 = l := by
  show l.filter _ = l
  rw [List.filter_eq_self]
  intro x hx
  have := h.used x hx
  have hn : ¬ x.2.1 = 0 := by omega
  simp [unused, hn]
theorem Log.one {U : Int} {l : List Hd} {log : List (List UInt8)} (hok : BinOk U l) (h : Log l log) {s : List UInt8} (hs : s ∈ log) : ∃ (k : Nat) (hk : k < l.length), hFind l (idOfL s) = some k ∧ l[k].1 = idOfL s ∧ l[k].2.2 = s := by
  obtain ⟨u, hu⟩ := h.has s hs
  obtain ⟨k, hk⟩ := hFind_mem hu
  obtain ⟨hkl, he⟩ := hFind_some hk
  have e := rise_inj hok.rise (List.getElem_mem hkl) hu he
  exact ⟨k, hkl, hk, he, by rw [e]⟩
theorem Log.get {U : Int} {l : List Hd} {log : List (List UInt8)} (hok : BinOk U l) (h : Log l log) {s : List UInt8} (hs : s ∈ log) : hGet l (idOfL s) = (s, 0) := by
  obtain ⟨k, hk, hf, _, ht⟩ := h.one hok hs
  simp only [hGet, hf, List.getElem?_eq_getElem hk, Option.map_some, Option.getD_some, ht]
theorem Log.miss {U : Int} {l : List Hd} {log : List (List UInt8)} (hok : BinOk U l) (h : Log l log) {x : Nat × Int} (hs : ∀ t ∈ log, idOfL t ≠ x) : hGet l x = ([], 5) := by
  have hf : hFind l x = .none := hFind_none l x fun j hj e => by
    have hm := List.getElem_mem hj
    exact hs _ (h.only _ hm) ((hok.each _ hm).1.symm.trans e)
  simp only [hGet, hf]
theorem Log.same {U : Int} {l : List Hd} {log : List (List UInt8)} (hok : BinOk U l) (h : Log l log) {s t : List UInt8} (hs : s ∈ log) (ht : t ∈ log) (e : idOfL s = idOfL t) : s = t := by
  have h1 := h.get hok hs
  have h2 := h.get hok ht
  rw [e, h2] at h1
  exact (Prod.ext_iff.1 h1).1.symm
theorem Log.unput {l : List Hd} {s : List UInt8} (he : (hPut l s).1.2.2 ≠ 0) : (hPut l s).2 = l := by
  revert he
  unfold hPut
  split
  · exact fun _ => rfl
  · split
    · split
      · exact fun h => absurd rfl h
      · exact fun _ => rfl
    · split
      · exact fun _ => rfl
      · exact fun h => absurd rfl h
theorem Log.put {U : Int} {l : List Hd} {log : List (List UInt8)} (hok : BinOk U l) (h : Log l log) {s : List UInt8} (he : (hPut l s).1.2.2 = 0) : (hPut l s).1.1 = idOfL s ∧ Log (hPut l s).2 (log ++ [s]) := by
  revert he
  unfold hPut
  split
  · exact fun h => by simp at h
  · split
    · rename_i k hf
      obtain ⟨hk, hid⟩ := hFind_some hf
      split
      · rename_i ht
        intro _
        rw [List.getElem?_eq_getElem hk, Option.map_some] at ht
        have ht : l[k].2.2 = s := Option.some.inj ht
        refine ⟨rfl, fun z hz => ?_, fun t hm => ?_, fun z hz => ?_⟩
        · rcases modify_all hok.rise hk hz with ⟨hm, hn⟩ | rfl
          · have hne : s ≠ z.2.2 := fun e => hn (((hok.each z hm).1.trans (by rw [← e])).trans hid.symm)
            rw [h.cnt z hm, List.count_append, List.count_singleton]
            simp [hne]
          · show l[k].2.1 + 1 = ((log ++ [s]).count l[k].2.2 : Nat)
            rw [h.cnt _ (List.getElem_mem hk), ht, List.count_append, List.count_singleton_self]
            omega
        · by_cases e : t = s
          · subst e
            refine ⟨l[k].2.1 + 1, ?_⟩
            have := modify_own (d := 1) hk
            rw [hUse, hid, ht] at this
            exact this
          · have hm : t ∈ log := by
              rcases List.mem_append.1 hm with hm | hm
              · exact hm
              · exact absurd (List.mem_singleton.1 hm) e
            obtain ⟨u, hu⟩ := h.has t hm
            refine ⟨u, modify_other hk hu fun e2 => ?_⟩
            have := rise_inj hok.rise hu (List.getElem_mem hk) e2
            exact e (by rw [← ht, ← this])
        · rcases modify_all hok.rise hk hz with ⟨hm, hn⟩ | rfl
          · exact List.mem_append_left _ (h.only z hm)
          · exact List.mem_append_left _ (h.only l[k] (List.getElem_mem hk))
      · exact fun h => by simp at h
    · rename_i hf
      split
      · exact fun h => by simp at h
      · intro _
        have hno : s ∉ log := fun hs => by
          obtain ⟨u, hu⟩ := h.has s hs
          exact hFind_not hf _ hu rfl
        refine ⟨rfl, fun z hz => ?_, fun t hm => ?_, fun z hz => ?_⟩
        · rcases hIns_mem hz with rfl | hm
          · show (1 : Int) = ((log ++ [s]).count s : Nat)
            rw [List.count_append, List.count_singleton_self, List.count_eq_zero.2 hno]
            rfl
          · have hne : s ≠ z.2.2 := fun e => hno (e ▸ h.only z hm)
            rw [h.cnt z hm, List.count_append, List.count_singleton]
            simp [hne]
        · rcases List.mem_append.1 hm with hm | hm
          · obtain ⟨u, hu⟩ := h.has t hm
            exact ⟨u, mem_hIns (.inr hu)⟩
          · rw [List.mem_singleton.1 hm]
            exact ⟨1, mem_hIns (.inl rfl)⟩
        · rcases hIns_mem hz with rfl | hm
          · exact List.mem_append_right _ (List.mem_singleton.2 rfl)
          · exact List.mem_append_left _ (h.only z hm)
theorem Log.drop {U : Int} {l : List Hd} {s : List UInt8} {r : List (List UInt8)} (hok : BinOk U l) (h : Log l (s :: r)) : (hDrop l (idOfL s)).1 = 0 ∧ Log (hSweep (hDrop l (idOfL s)).2).2 r := by
  obtain ⟨k, hk, hf, hid, ht⟩ := h.one hok (List.mem_cons_self ..)
  have hc : l[k].2.1 = ((r.count s : Nat) : Int) + 1 := by
    rw [h.cnt _ (List.getElem_mem hk), ht, List.count_cons_self]
    omega
  have e : hDrop l (idOfL s) = (0, l.modify k (hUse (-1))) := by
    have hn : ¬ (l[k]?.map (·.2.1)) = some 0 := fun e => by
      rw [List.getElem?_eq_getElem hk, Option.map_some] at e
      have := Option.some.inj e
      omega
    simp only [hDrop, hf, if_neg hn]
  rw [e]
  refine ⟨rfl, fun z hz => ?_, fun t hm => ?_, fun z hz => ?_⟩
  · obtain ⟨hz, hu⟩ := List.mem_filter.1 hz
    rcases modify_all hok.rise hk hz with ⟨hm, hn⟩ | rfl
    · have hne : s ≠ z.2.2 := fun e => hn (((hok.each z hm).1.trans (by rw [← e])).trans hid.symm)
      rw [h.cnt z hm, List.count_cons_of_ne hne]
    · show l[k].2.1 + -1 = ((r.count l[k].2.2 : Nat) : Int)
      rw [hc, ht]
      omega
  · obtain ⟨u, hu⟩ := h.has t (List.mem_cons_of_mem _ hm)
    have hcp : 1 ≤ r.count t := List.count_pos_iff.2 hm
    by_cases e : t = s
    · subst e
      have ho := modify_own (d := -1) hk
      rw [hUse, hid, ht, hc] at ho
      refine ⟨_, List.mem_filter.2 ⟨ho, ?_⟩⟩
      have : ¬ (((r.count t : Nat) : Int) + 1 + -1) = 0 := by omega
      simp [unused, this]
    · refine ⟨u, List.mem_filter.2 ⟨modify_other hk hu fun e2 => ?_, ?_⟩⟩
      · have := rise_inj hok.rise hu (List.getElem_mem hk) e2
        exact e (by rw [← ht, ← this])
      · have := h.used _ hu
        have hn : ¬ u = 0 := by have h1 : 1 ≤ u := this; omega
        simp [unused, hn]
  · obtain ⟨hz, hu⟩ := List.mem_filter.1 hz
    rcases modify_all hok.rise hk hz with ⟨hm, hn⟩ | rfl
    · have hne : z.2.2 ≠ s := fun e => hn (((hok.each z hm).1.trans (by rw [e])).trans hid.symm)
      rcases List.mem_cons.1 (h.only z hm) with e | hm
      · exact absurd e hne
      · exact hm
    · show l[k].2.2 ∈ r
      rw [ht]
      have hnz : ¬ (l[k].2.1 + -1 = 0) := by
        intro e
        have : unused (hUse (-1) l[k]) = true := by simp only [unused, hUse, e]; rfl
        rw [this] at hu
        cases hu
      exact List.count_pos_iff.1 (by omega)
end Go.Proofs.YtjdobbjdlighpaaGreatDoor
