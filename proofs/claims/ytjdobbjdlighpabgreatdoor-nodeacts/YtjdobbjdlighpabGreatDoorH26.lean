/-
  Own text. The program's recipe.Text by a contract.
  Own text. The program's recipe.Join by a contract.
-/
import Derived.Test.YtjdobbjdlighpabGreatDoorH23
import Derived.Test.YtjdobbjdlighpabGreatDoorH07
import Derived.Laws.OwnMore
import Derived.Deep.RegionHeld3
namespace Go.Proofs.YtjdobbjdlighpabGreatDoor
open Go.RowKit

theorem ErrIn.not_nil {base : Nat} {w : World} {a : Nat → Addr} {v : Value} {f : Int × Int} (h : ErrIn base w a v f) (hf : 0 < f.1) : ∃ t u, v = .iface t u := by
  rcases h with ⟨_, rfl⟩ | ⟨k, _, rfl, _⟩ | ⟨k, pb, po, at0, _, _, rfl, _⟩
  · simp at hf
  · exact ⟨_, _, rfl⟩
  · exact ⟨_, _, rfl⟩
theorem ErrIn.is_nil {base : Nat} {w : World} {a : Nat → Addr} {v : Value} (h : ErrIn base w a v (0, -1)) : v = .nilIface := by
  rcases h with ⟨rfl, _⟩ | ⟨k, _, _, hf⟩ | ⟨k, pb, po, at0, _, _, _, _, _, hf⟩
  · rfl
  · have := congrArg Prod.fst hf; simp at this; omega
  · have := congrArg Prod.fst hf; simp at this; omega
theorem ErrIn.low {base base' : Nat} {w : World} {a : Nat → Addr} {v : Value} {f : Int × Int} (h : ErrIn base w a v f) (hb : base' ≤ base) : ErrIn base' w a v f := by
  rcases h with h | h | ⟨k, pb, po, at0, hk, hl, hv, h0, h1, hf⟩
  · exact .inl h
  · exact .inr (.inl h)
  · exact .inr (.inr ⟨k, pb, po, at0, hk, Nat.le_trans hb hl, hv, h0, h1, hf⟩)
theorem idsText_le : ∀ (ids : List (Nat × Int)), (∀ x ∈ ids, x.2.toNat ≤ 9223372036854775807) → (idsText ids).length ≤ 29 * ids.length
  | [], _ => by simp [idsText]
  | x :: r, h => by
    have ih := idsText_le r fun y hy => h y (by simp [hy])
    have h1 := idText_len x.1 x.2.toNat (h x (by simp))
    have e : idsText (x :: r) = 32 :: idText x.1 x.2.toNat ++ idsText r := rfl
    rw [e, List.length_append, List.length_cons, List.length_cons]
    omega
def idTexts (ids : List (Nat × Int)) : List (List UInt8) := ids.map fun x => idText x.1 x.2.toNat
theorem join_rcp (nm : List UInt8) (len : Int) (p : Nat) (ids : List (Nat × Int)) : Lib.join (nm :: Lib.decDigits len.toNat :: hexLast p 8 :: idTexts ids) [32] = rcpText nm len p ids := by
  rw [Lib.join_cons]
  unfold Lib.joinTail rcpText idsText idTexts
  rw [List.map_cons, List.map_cons, List.map_map, List.flatten_cons, List.flatten_cons]
  have e : ((fun x => [32] ++ x) ∘ fun (x : Nat × Int) => idText x.1 x.2.toNat) = fun (x : Nat × Int) => (32 : UInt8) :: idText x.1 x.2.toNat := rfl
  rw [e]
  simp
def textPost (a : Nat → Addr) (nm : ByteArray) (len : Int) (p : Nat) (ids : List (Nat × Int)) (w : World) (e : Ending) (w' : World) : Prop := ∃ ev, e = .returned (.tuple #[.string ⟨(textR nm.data.toList len p ids).toArray⟩, ev]) ∧ ErrIn w.heap.size w' a ev (recFault nm.data.toList len ids) ∧ Below w.heap.size w w'

set_option maxRecDepth 100000 in
set_option maxHeartbeats 4000000 in
theorem rtext_bad (a : Nat → Addr) (nm : ByteArray) (hnm : nm.size ≤ maxLen) (len : Int) (p : Nat) (v : Value) (ids : List (Nat × Int)) (w : World) (hE : ErrW w a) (hv : IdsAt w v ids) (hlen : ids.length ≤ maxLen) (hf : 0 < (recFault nm.data.toList len ids).1) :
    Calls Tryz.prog 148 #[rcpV nm len (p : Nat) v] w fun e w' => textPost a nm len p ids w e w' := by
  have HT : Hid (textR nm.data.toList len p ids = []) := by show _ = _; unfold textR; rw [if_neg]; intro e; rw [e] at hf; simp at hf
  have HF : Hid (0 < (recFault nm.data.toList len ids).1) := hf
  have HB : Hid (∀ o, Below w.heap.size w (w.alloc o)) := fun o => (Below.refl _ w).alloc (Nat.le_refl _) o
  have HC : Hid (∀ o, Calls Tryz.prog 123 #[rcpV nm len (p : Nat) v] (w.alloc o) fun e w' => ∃ ev, e = .returned ev ∧ ErrIn (w.alloc o).heap.size w' a ev (recFault nm.data.toList len ids) ∧ Below (w.alloc o).heap.size (w.alloc o) w') := fun o => check_any a nm hnm len p v ids _ ((hE.below (HB.out o) (Nat.le_refl _)).on (by decide)) (hv.below (HB.out o)) hlen
  obtain ⟨pa, c, rfl, _⟩ := hv
  clear hnm hE hlen hf
  go_enter Tryz.func148, Tryz.ntmps148
  go_wp2_with fail
  refine (HC.out _).mono ?_
  rintro e w1 ⟨ev, rfl, he, hb1⟩
  have hb : Below w.heap.size w w1 := (HB.out _).trans (hb1.mono (by simp))
  have he' : ErrIn w.heap.size w1 a ev (recFault nm.data.toList len ids) := he.low (by simp)
  obtain ⟨t, u, rfl⟩ := he.not_nil HF.out
  have HE : Hid (ErrIn w.heap.size w1 a (.iface t u) (recFault nm.data.toList len ids)) := he'
  clear he he' hb1
  go_wp2_with fail
  go_ret2
  exact ⟨.iface t u, by rw [HT.out]; rfl, HE.out, hb⟩

def wordsOf (nm D X : ByteArray) (ids : List (Nat × Int)) : List ByteArray := nm :: D :: X :: (idTexts ids).map fun l => ⟨l.toArray⟩
theorem wordsOf_length (nm D X : ByteArray) (ids : List (Nat × Int)) : (wordsOf nm D X ids).length = ids.length + 3 := by simp [wordsOf, idTexts]
theorem wordsOf_snoc (nm D X : ByteArray) (ids : List (Nat × Int)) (k : Nat) (h : k < ids.length) : (wordsOf nm D X (ids.take (k + 1))).map Value.string = (wordsOf nm D X (ids.take k)).map Value.string ++ [.string ⟨(idText ids[k].1 ids[k].2.toNat).toArray⟩] := by
  rw [List.take_succ_eq_append_getElem h]
  simp only [wordsOf, idTexts, List.map_append, List.map_cons, List.map_nil, List.cons_append]

set_option maxRecDepth 100000 in
set_option maxHeartbeats 4000000 in
theorem rtext_fine (a : Nat → Addr) (nm : ByteArray) (hnm : nm.size ≤ maxLen) (len : Int) (p : Nat) (hp : p < 4294967296) (v : Value) (ids : List (Nat × Int)) (w : World) (hE : ErrW w a) (ht : Pow10 w) (hv : IdsAt w v ids) (hlen : ids.length ≤ maxLen) (h32 : ∀ j (hj : j < ids.length), ids[j].1 < 4294967296) (hf : recFault nm.data.toList len ids = (0, -1)) :
    Calls Tryz.prog 148 #[rcpV nm len (p : Nat) v] w fun e w' => textPost a nm len p ids w e w' := by
  obtain ⟨i0, hi, hz0, hz1, hz2⟩ := info_parts infoText
  obtain ⟨hf1, ⟨hf2, hf3⟩, hf4, hf5, _⟩ := recFault_zero hf
  have HT : Hid (textR nm.data.toList len p ids = rcpText nm.data.toList len p ids) := by show _ = _; unfold textR; rw [if_pos hf]
  have HF : Hid (recFault nm.data.toList len ids = (0, -1)) := hf
  have HB : Hid (∀ o, Below w.heap.size w (w.alloc o)) := fun o => (Below.refl _ w).alloc (Nat.le_refl _) o
  have HC : Hid (∀ o, Calls Tryz.prog 123 #[rcpV nm len (p : Nat) v] (w.alloc o) fun e w' => ∃ ev, e = .returned ev ∧ ErrIn (w.alloc o).heap.size w' a ev (recFault nm.data.toList len ids) ∧ Below (w.alloc o).heap.size (w.alloc o) w') := fun o => check_any a nm hnm len p v ids _ ((hE.below (HB.out o) (Nat.le_refl _)).on (by decide)) (hv.below (HB.out o)) hlen
  have HOK : Hid (∀ j (hj : j < ids.length), idOk ids[j] = true) := fun j hj => firstBad_all ids 0 hf5 _ (List.getElem_mem hj)
  have H32 : Hid (∀ j (hj : j < ids.length), ids[j].1 < 4294967296) := h32
  have HPW : Hid (∀ W', Below w.heap.size w W' → Pow10 W') := fun W' hb => ht.below hb (Nat.le_refl _)
  have HP : Hid (p < 4294967296) := hp
  have hnm12 : nm.size ≤ 12 := by
    unfold isName at hf1
    simp at hf1
    exact hf1.2.2
  obtain ⟨len, rfl⟩ := Int.eq_ofNat_of_zero_le hf2
  have HL : Hid (len ≤ 4000) := by show _ ≤ _; omega
  have hi2 : (ids.length : Int) ≤ 250 := by omega
  have HJL : Hid ((rcpText nm.data.toList (len : Nat) p ids).length ≤ 100000) := by
    show _ ≤ _
    have h1 := idsText_le ids (fun x hx => by
      obtain ⟨j, hj, rfl⟩ := List.getElem_of_mem hx
      have := HOK.out j hj
      simp only [idOk, decide_eq_true_eq] at this
      omega)
    have h2 := decDigits_le19 len (by omega)
    have h3 : nm.data.toList.length = nm.size := by rw [Array.length_toList]; rfl
    unfold rcpText
    simp only [List.length_append, List.length_cons, List.length_nil, hexLast_length, Int.toNat_natCast]
    omega
  have HV : Hid (IdsAt w v ids) := hv
  obtain ⟨pa, c, rfl, hcell⟩ := hv
  have HCELL : Hid (∀ W', Below w.heap.size w W' → ∀ i (h : i < ids.length), ∃ b o, pa = some ⟨b, o, none⟩ ∧ W'.cell? ⟨b, o + i * 2, none⟩ = some (.int .u32 (ids[i].1 : Nat)) ∧ W'.cell? ⟨b, o + i * 2 + 1, none⟩ = some (.int .i64 ids[i].2)) := fun W' hb i hi => by
    obtain ⟨b, o, hp, hlt, h1, h2⟩ := hcell i hi
    exact ⟨b, o, hp, (hb.cell (p := ⟨b, o + i * 2, none⟩) hlt).trans h1, (hb.cell (p := ⟨b, o + i * 2 + 1, none⟩) hlt).trans h2⟩
  clear hnm hE hlen hf hcell ht hp h32 hf1 hf2 hf3 hf4 hf5 hnm12
  obtain ⟨D, hD⟩ : ∃ D : ByteArray, (⟨(Lib.decDigits len).toArray⟩ : ByteArray) = D := ⟨_, rfl⟩
  obtain ⟨X, hX⟩ : ∃ X : ByteArray, (⟨(hexLast p 8).toArray⟩ : ByteArray) = X := ⟨_, rfl⟩
  have HDD : Hid ((⟨(Lib.decDigits len).toArray⟩ : ByteArray) = D) := hD
  have HXX : Hid ((⟨(hexLast p 8).toArray⟩ : ByteArray) = X) := hX
  clear hD hX
  go_enter Tryz.func148, Tryz.ntmps148
  go_wp2_with fail
  refine (HC.out _).mono ?_
  rintro e w1 ⟨ev, rfl, he, hb1⟩
  rw [HF.out] at he
  obtain rfl := he.is_nil
  have hbx := HB.out (.cells #[.string nm, .int .i64 (len : Nat), .int .u32 (p : Nat), .slice pa ids.length c] 40)
  have hX0 := Blk.new w #[.string nm, .int .i64 (len : Nat), .int .u32 (p : Nat), .slice pa ids.length c] 40
  have hX1 := hX0.next hb1
  have hB1 : Below w.heap.size w w1 := hbx.trans (hb1.mono hbx.size)
  clear he hb1 hX0 hbx HC
  have x0 := hX1.cell (i := 0) rfl
  have x1 := hX1.cell (i := 1) rfl
  have x2 := hX1.cell (i := 2) rfl
  go_wp2_with fail
  go_region_held3 (fun w' => w'.cell? ⟨w.heap.size, 0, none⟩ = some (.string nm) ∧ w'.cell? ⟨w.heap.size, 1, none⟩ = some (.int .i64 (len : Nat)) ∧ w'.cell? ⟨w.heap.size, 2, none⟩ = some (.int .u32 (p : Nat)))
    (first
      | exact ⟨(hX3a _).cell (i := 0) rfl, (hX3a _).cell (i := 1) rfl, (hX3a _).cell (i := 2) rfl⟩
      | exact ⟨hX3.cell (i := 0) rfl, hX3.cell (i := 1) rfl, hX3.cell (i := 2) rfl⟩
      | exact ⟨hX2.cell (i := 0) rfl, hX2.cell (i := 1) rfl, hX2.cell (i := 2) rfl⟩
      | go_keep)
    (first
      | (go_at_call 151; refine (itoa_any len (by have := HL.out; omega) _ (HPW.out _ hB1.drew)).mono ?_; rintro e w2 ⟨rfl, hb2⟩; rw [HDD.out]; have hB2 : Below w.heap.size w w2 := hB1.drew.trans (hb2.mono hB1.size); have hX2 := Blk.next (W := w1.drew) hX1 hb2)
      | (go_at_call 153; refine (hexText_any p HP.out _).mono ?_; rintro e w3 ⟨rfl, hb3⟩; rw [HXX.out]; have hB3 : Below w.heap.size w w3 := hB2.trans (hb3.mono hB2.size); have hX3 := hX2.next hb3; have hX3a := fun o => hX3.next ((Below.refl _ w3).alloc (Nat.le_refl _) o)))
  have hr0 : (w3.alloc (.cells #[.string nm, .string D, .string X] 9)).ownsRow w3.heap.size 9 1 (.slice (some ⟨w3.heap.size, 0, none⟩) 3 3) 3 ((wordsOf nm D X (ids.take 0)).map Value.string) := by
    have := World.ownsRow_lit (base := w3.heap.size) (e := 9) (size := 1) w3 #[.string nm, .string D, .string X] 3 (Nat.le_refl _) (by decide) rfl
    simpa [wordsOf, idTexts] using this
  have hB3a : Below w3.heap.size w3 (w3.alloc (.cells #[.string nm, .string D, .string X] 9)) := (Below.refl _ w3).alloc (Nat.le_refl _) _
  obtain ⟨W3, hW3⟩ : ∃ W3, w3.alloc (.cells #[.string nm, .string D, .string X] 9) = W3 := ⟨_, rfl⟩
  have x3 := (hX3a (.cells #[.string nm, .string D, .string X] 9)).cell (i := 3) rfl
  rw [hW3] at hr0 hB3a x3 ⊢
  clear hW3 hX3a hX3 hX2 hX1 hb3 hb2 hB1 hB2
  go_wp2_with fail
  go_loopw [5, 25] (fun v i wr => ∃ (k : Nat), k ≤ ids.length ∧ i = .int .i64 k ∧ wr.ownsRow w3.heap.size 9 1 v (k + 3) ((wordsOf nm D X (ids.take k)).map Value.string) ∧ Below w3.heap.size w3 wr) (fun _ i _ => ids.length - (intOf i).toNat)
  case atStart => exact ⟨0, Nat.zero_le _, rfl, hr0, hB3a⟩
  case round =>
    obtain ⟨k, hk, rfl, hown, hbr⟩ := hrel
    clear hr0 hB3a x3
    have hbw : Below w.heap.size w wr := hB3.trans (hbr.mono hB3.size)
    by_cases hlt : k < ids.length
    · have hlt' : (k : Int) < (ids.length : Int) := by omega
      obtain ⟨b, o, rfl, hd0, hd1⟩ := HCELL.out wr hbw k hlt
      have hok := HOK.out k hlt
      have h32 := H32.out k hlt
      have HNX : Hid ((wordsOf nm D X (ids.take (k + 1))).map Value.string = (wordsOf nm D X (ids.take k)).map Value.string ++ [.string ⟨(idText ids[k].1 ids[k].2.toNat).toArray⟩]) := wordsOf_snoc nm D X ids k hlt
      obtain ⟨⟨n, l⟩, hy⟩ : ∃ y, ids[k] = y := ⟨_, rfl⟩
      rw [hy] at hok h32 hd0 hd1 HNX
      simp only [idOk, decide_eq_true_eq] at hok
      obtain ⟨l', rfl⟩ := Int.eq_ofNat_of_zero_le (show 0 ≤ l by omega)
      have HH : Hid (n < 4294967296) := h32
      have HLL : Hid (l' ≤ 64) := by show _ ≤ _; omega
      obtain ⟨I, hI⟩ : ∃ I : ByteArray, (⟨(idText n l').toArray⟩ : ByteArray) = I := ⟨_, rfl⟩
      have HII : Hid ((⟨(idText n l').toArray⟩ : ByteArray) = I) := hI
      simp only [Int.toNat_natCast] at HNX
      rw [hI] at HNX
      have hal : Below wr.heap.size wr (wr.alloc (.cells #[.int .u32 (n : Nat), .int .i64 (l' : Nat)] 25)) := (Below.refl _ wr).alloc (Nat.le_refl _) _
      clear hI hok h32 hy
      go_wp2_with fail
      refine (text_any n l' HH.out (by have := HLL.out; omega) _ (HPW.out _ (hbw.trans (hal.mono hbw.size)))).mono ?_
      rintro e w4 ⟨rfl, hb4⟩
      rw [HII.out]
      have hB4 : Below wr.heap.size wr w4 := hal.trans (hb4.mono hal.size)
      have hown4 := row_below hown hB4
      have hbr4 : Below w3.heap.size w3 w4 := hbr.trans (hB4.mono hbr.size)
      clear hown hb4 hB4 hal
      go_wp2_with (at_builtin; refine wpList_append_own _ rfl (.tmp 29) (.tmp 32) 73 rfl w3.heap.size 9 i0 (.string ⟨#[]⟩) 1 16 Tryz.underlying73 hi hz0 hz1 hz2 rfl (by decide) _ _ _ rfl (hown4.alloc _) ⟨w4.heap.size, 0, none⟩ 1 1 [.string I] rfl rfl (cell_one_new _ _ _) (by simp [Value.oneCell']) (by unfold maxLen; omega) (by omega) (by have := hbr4.size; simp; omega) ?_; intro v' w5 hown' hgrow _; obtain ⟨g', cap', rfl⟩ := ownsRow_succ hown')
      have hbr5 : Below w3.heap.size w3 w5 := (hbr4.alloc hbr4.size _).grown hgrow (by have := hbr4.size; simp; omega) (fun j e => own_base hown4 e)
      clear hgrow hown4
      go_wp2_with fail
      go_roundw
      case rel => exact ⟨k + 1, by omega, by go_num, by rw [HNX.out]; exact hown', hbr5⟩
      case measure => simp [intOf]; omega
    · have hge : (ids.length : Int) ≤ (k : Int) := by omega
      rw [List.take_of_length_le (by omega)] at hown
      obtain rfl : k = ids.length := by omega
      obtain ⟨g, cap, hu5, hcap, hcm, hgl, hgc⟩ := row_open hown (by omega)
      subst hu5
      have HJ : Hid (Calls Tryz.prog 158 #[.slice (some ⟨g, 0, none⟩) (ids.length + 3) cap, .string ⟨#[32]⟩] wr fun e w' => e = .returned (.string ⟨(rcpText nm.data.toList (len : Nat) p ids).toArray⟩) ∧ Below wr.heap.size wr w') := by
        show Calls _ _ _ _ _
        have e1 : Lib.join ((wordsOf nm D X ids).map (·.data.toList)) [32] = rcpText nm.data.toList (len : Nat) p ids := by
          rw [← join_rcp]
          unfold wordsOf
          rw [List.map_cons, List.map_cons, List.map_cons, List.map_map, ← HDD.out, ← HXX.out]
          have : ((fun (x : ByteArray) => x.data.toList) ∘ fun (l : List UInt8) => (⟨l.toArray⟩ : ByteArray)) = id := by funext l; simp
          rw [this, List.map_id]
          simp
        have hj := Tryz.strings_Join g 0 cap (wordsOf nm D X ids) ⟨#[32]⟩ wr (fun j x hx => by
          have hjl : j < (wordsOf nm D X ids).length := (List.getElem?_eq_some_iff.1 hx).1
          have := hgc j (by rw [List.length_map]; exact hjl)
          rw [Nat.zero_add, this, List.getElem_map]
          rw [List.getElem?_eq_getElem hjl] at hx
          rw [Option.some.inj hx]) hgl (by rw [wordsOf_length]; omega) (by rw [wordsOf_length]; exact hcap) (by show (Lib.join _ [32]).length ≤ _; rw [e1]; have := HJL.out; omega)
        rw [wordsOf_length] at hj
        refine hj.mono fun e w' ⟨h1, h2⟩ => ⟨?_, h2⟩
        rw [h1]
        exact congrArg (fun l : List UInt8 => Ending.returned (.string ⟨l.toArray⟩)) e1
      clear hown hgc
      go_wp2_with fail
      refine HJ.out.mono ?_
      rintro e w6 ⟨rfl, hb6⟩
      obtain ⟨T, hT⟩ : ∃ T : ByteArray, (⟨(rcpText nm.data.toList (len : Nat) p ids).toArray⟩ : ByteArray) = T := ⟨_, rfl⟩
      have HTT : Hid ((⟨(rcpText nm.data.toList (len : Nat) p ids).toArray⟩ : ByteArray) = T) := hT
      rw [hT]
      clear hT
      go_wp2_with fail
      go_ret2
      exact ⟨.nilIface, by rw [HT.out, HTT.out]; rfl, by rw [HF.out]; exact ErrIn.mkNil _ _ a, hbw.trans (hb6.mono hbw.size)⟩

theorem rtext_any (a : Nat → Addr) (nm : ByteArray) (hnm : nm.size ≤ maxLen) (len : Int) (p : Nat) (hp : p < 4294967296) (v : Value) (ids : List (Nat × Int)) (w : World) (hE : ErrW w a) (ht : Pow10 w) (hv : IdsAt w v ids) (hlen : ids.length ≤ maxLen) (h32 : ∀ j (hj : j < ids.length), ids[j].1 < 4294967296) :
    Calls Tryz.prog 148 #[rcpV nm len (p : Nat) v] w fun e w' => textPost a nm len p ids w e w' := by
  rcases recFault_code nm.data.toList len ids with h | h
  · exact rtext_fine a nm hnm len p hp v ids w hE ht hv hlen h32 h
  · exact rtext_bad a nm hnm len p v ids w hE hv hlen h
end Go.Proofs.YtjdobbjdlighpabGreatDoor
namespace Go.Proofs.YtjdobbjdlighpabGreatDoor
open Go.RowKit

theorem join_none (l : List (List UInt8)) : Lib.join l [] = l.flatten := by
  cases l with
  | nil => rfl
  | cons x r =>
    rw [Lib.join_cons]
    unfold Lib.joinTail
    simp
theorem flatten_le : ∀ (l : List (List UInt8)), (∀ i (h : i < l.length), l[i].length ≤ 100) → l.flatten.length ≤ 100 * l.length
  | [], _ => by simp
  | x :: r, h => by
    have ih := flatten_le r fun i hi => by have := h (i + 1) (by simpa using hi); simpa using this
    have h0 := h 0 (by simp)
    rw [List.flatten_cons, List.length_append, List.length_cons]
    simp at h0
    omega
def joinPost (a : Nat → Addr) (nm : ByteArray) (len : Int) (p : Nat) (ids : List (Nat × Int)) (ls : List (List UInt8)) (w : World) (e : Ending) (w' : World) : Prop := ∃ ev, e = .returned (.tuple #[.string ⟨(joinOf nm.data.toList len p ids ls).1.toArray⟩, ev]) ∧ ErrIn w.heap.size w' a ev (joinOf nm.data.toList len p ids ls).2 ∧ Below w.heap.size w w'

/- strings.Join of a slice of texts with nothing between. -/
theorem joinTexts (vl : Value) (ls : List (List UInt8)) (w : World) (hl : CellsAt w vl (ls.map txtV)) (hn : ls.length ≤ 50000) (hsz : ∀ i (h : i < ls.length), ls[i].length ≤ 100) :
    Calls Tryz.prog 158 #[vl, .string ⟨#[]⟩] w fun e w' => e = .returned (.string ⟨ls.flatten.toArray⟩) ∧ Below w.heap.size w w' := by
  obtain ⟨p, c, rfl, hc⟩ := hl
  rw [List.length_map]
  by_cases h0 : ls.length = 0
  · have e : ls = [] := List.eq_nil_of_length_eq_zero h0
    subst e
    exact (Tryz.strings_Join_none p c ⟨#[]⟩ w).mono fun e w' ⟨h1, h2⟩ => ⟨h1, by rw [h2]; exact Below.refl _ _⟩
  · obtain ⟨b, o, rfl, ⟨hb, hcap⟩, _⟩ := hc 0 (by rw [List.length_map]; omega)
    rw [List.length_map] at hcap
    have hx : (ls.map fun l => (⟨l.toArray⟩ : ByteArray)).length = ls.length := List.length_map _
    have e1 : Lib.join ((ls.map fun l => (⟨l.toArray⟩ : ByteArray)).map (·.data.toList)) [] = ls.flatten := by
      rw [List.map_map]
      have : ((fun (x : ByteArray) => x.data.toList) ∘ fun (l : List UInt8) => (⟨l.toArray⟩ : ByteArray)) = id := by funext l; simp
      rw [this, List.map_id, join_none]
    have hfl := flatten_le ls hsz
    have hj := Tryz.strings_Join b o c (ls.map fun l => (⟨l.toArray⟩ : ByteArray)) ⟨#[]⟩ w (fun j x hj => by
      have hjl : j < ls.length := by rw [← hx]; exact (List.getElem?_eq_some_iff.1 hj).1
      obtain ⟨b', o', hp, _, hcell⟩ := hc j (by rw [List.length_map]; exact hjl)
      cases hp
      rw [hcell, List.getElem_map]
      rw [List.getElem?_eq_getElem (by rw [hx]; exact hjl), List.getElem_map] at hj
      rw [← Option.some.inj hj]) hb (by rw [hx]; omega) (by rw [hx]; exact hcap) (by show (Lib.join _ []).length ≤ _; rw [e1]; omega)
    rw [hx] at hj
    refine hj.mono fun e w' ⟨h1, h2⟩ => ⟨?_, h2⟩
    rw [h1]
    exact congrArg (fun l : List UInt8 => Ending.returned (.string ⟨l.toArray⟩)) e1

set_option maxRecDepth 100000 in
set_option maxHeartbeats 4000000 in
theorem rjoin_any (a : Nat → Addr) (nm : ByteArray) (hnm : nm.size ≤ maxLen) (len : Int) (p : Nat) (v vl : Value) (ids : List (Nat × Int)) (ls : List (List UInt8)) (w : World) (hE : ErrE [1, 2, 3, 6, 8] w a) (hv : IdsAt w v ids) (hlen : ids.length ≤ maxLen) (hl : CellsAt w vl (ls.map txtV)) (hll : ls.length ≤ 50000)
    (hsz : ∀ i (h : i < ls.length), ls[i].length ≤ 100) :
    Calls Tryz.prog 97 #[rcpV nm len (p : Nat) v, vl] w fun e w' => joinPost a nm len p ids ls w e w' := by
  have HB : Hid (∀ o, Below w.heap.size w (w.alloc o)) := fun o => (Below.refl _ w).alloc (Nat.le_refl _) o
  have HC : Hid (∀ o, Calls Tryz.prog 123 #[rcpV nm len (p : Nat) v] (w.alloc o) fun e w' => ∃ ev, e = .returned ev ∧ ErrIn (w.alloc o).heap.size w' a ev (recFault nm.data.toList len ids) ∧ Below (w.alloc o).heap.size (w.alloc o) w') := fun o => check_any a nm hnm len p v ids _ (hE.below (HB.out o) (Nat.le_refl _)) (hv.below (HB.out o)) hlen
  have HG : Hid (∀ W', Below w.heap.size w W' → ∀ i, ([1, 2, 3, 6, 8] : List Nat).contains i = true → W'.cell? ⟨errG i, 0, none⟩ = some (sentV a i)) := fun W' hb i hi => (hE.below hb (Nat.le_refl _)).glob i hi
  have HJT : Hid (∀ W', Below w.heap.size w W' → Calls Tryz.prog 158 #[vl, .string ⟨#[]⟩] W' fun e w' => e = .returned (.string ⟨ls.flatten.toArray⟩) ∧ Below W'.heap.size W' w') := fun W' hb => joinTexts vl ls W' (hl.below hb) hll hsz
  obtain ⟨pa, ca, rfl, hcell⟩ := hv
  obtain ⟨pb, cb, rfl, hcl⟩ := hl
  simp only [List.length_map, List.getElem_map] at hcl ⊢
  simp only [List.length_map] at HJT
  have HSZ : Hid (∀ i (h : i < ls.length), ls[i].length ≤ 100) := hsz
  have hl2 : (ids.length : Int) ≤ 9223372036854775807 := by unfold maxLen at hlen; omega
  have hl3 : (ls.length : Int) ≤ 50000 := by omega
  have HCI : Hid (∀ W', Below w.heap.size w W' → ∀ i (h : i < ids.length), ∃ b o, pa = some ⟨b, o, none⟩ ∧ W'.cell? ⟨b, o + i * 2, none⟩ = some (.int .u32 (ids[i].1 : Nat)) ∧ W'.cell? ⟨b, o + i * 2 + 1, none⟩ = some (.int .i64 ids[i].2)) := fun W' hb i hi => by
    obtain ⟨b, o, hp, hlt, h1, h2⟩ := hcell i hi
    exact ⟨b, o, hp, (hb.cell (p := ⟨b, o + i * 2, none⟩) hlt).trans h1, (hb.cell (p := ⟨b, o + i * 2 + 1, none⟩) hlt).trans h2⟩
  have HCL : Hid (∀ W', Below w.heap.size w W' → ∀ i (h : i < ls.length), ∃ b o, pb = some ⟨b, o, none⟩ ∧ W'.cell? ⟨b, o + i, none⟩ = some (txtV ls[i])) := fun W' hb i hi => by
    obtain ⟨b, o, hp, hlt, h1⟩ := hcl i hi
    exact ⟨b, o, hp, (hb.cell (p := ⟨b, o + i, none⟩) hlt.1).trans h1⟩
  clear hcell hcl hnm hlen hll hsz hE
  go_enter Tryz.func97, Tryz.ntmps97
  go_wp2_with fail
  refine (HC.out _).mono ?_
  rintro e w1 ⟨ev, rfl, he, hb1⟩
  have hbx := HB.out (.cells #[.string nm, .int .i64 len, .int .u32 (p : Nat), .slice pa ids.length ca] 40)
  have hX0 := Blk.new w #[.string nm, .int .i64 len, .int .u32 (p : Nat), .slice pa ids.length ca] 40
  have hX1 := hX0.next hb1
  have hB1 : Below w.heap.size w w1 := hbx.trans (hb1.mono hbx.size)
  replace he := he.low hbx.size
  clear hb1 hX0 hbx HC
  rcases recFault_code nm.data.toList len ids with hf | hf
  · rw [hf] at he
    obtain rfl := he.is_nil
    have HF : Hid (recFault nm.data.toList len ids = (0, -1)) := hf
    obtain ⟨_, _, h250, _, _⟩ := recFault_zero hf
    have H250 : Hid (ids.length ≤ 250) := h250
    clear he hf h250
    have b3 := hX1.cell (i := 3) rfl
    by_cases hll : ls.length = ids.length
    · have HLL : Hid (ls.length = ids.length) := hll
      have hq : ((ls.length : Int) == (ids.length : Int)) = true := by rw [beq_iff_eq]; omega
      have hqn : ((ls.length : Int) != (ids.length : Int)) = false := by rw [bne, hq]; rfl
      clear hll
      go_wp2_with fail
      clear b3
      go_loopw [24] (fun i wr => ∃ (k : Nat), k ≤ ls.length ∧ i = .int .i64 k ∧ (∀ j (hj : j < ls.length) (hj' : j < ids.length), j < k → idOfL ls[j] = ids[j]) ∧ Below w.heap.size w wr ∧ Blk wr w.heap.size #[.string nm, .int .i64 len, .int .u32 (p : Nat), .slice pa ids.length ca] 40) (fun i _ => ls.length - (intOf i).toNat)
      case atStart => exact ⟨0, Nat.zero_le _, rfl, fun j _ _ h => by omega, hB1, hX1⟩
      case round =>
        obtain ⟨k, hk, rfl, hsame, hbr, hX⟩ := hrel
        have HSM : Hid (∀ j (hj : j < ls.length) (hj' : j < ids.length), j < k → idOfL ls[j] = ids[j]) := hsame
        clear hsame hB1 hX1
        have b2 := hX.cell (i := 2) rfl
        have b3 := hX.cell (i := 3) rfl
        by_cases hlt : k < ls.length
        · have hlt' : (k : Int) < (ls.length : Int) := by omega
          have hki : k < ids.length := by have := HLL.out; omega
          have hki' : (k : Int) < (ids.length : Int) := by omega
          have hk0 : (0 : Int) ≤ (k : Int) := by omega
          obtain ⟨bi, oi, rfl, hi0, hi1⟩ := HCI.out wr hbr k hki
          obtain ⟨bl, ol, rfl, hl0⟩ := HCL.out wr hbr k hlt
          have HCI2 : Hid (∀ W', Below w.heap.size w W' → W'.cell? ⟨bi, oi + k * 2, none⟩ = some (.int .u32 (ids[k].1 : Nat)) ∧ W'.cell? ⟨bi, oi + k * 2 + 1, none⟩ = some (.int .i64 ids[k].2)) := fun W' hb => by
            obtain ⟨b, o, hp, h1, h2⟩ := HCI.out W' hb k hki
            cases hp
            exact ⟨h1, h2⟩
          have HLS : Hid (ls[k].length ≤ 100) := HSZ.out k hlt
          have HID : Hid (idOfL ls[k] = (pmore 2166136261 ls[k], (ls[k].length : Int))) := rfl
          have HST : Hid (idOfL ls[k] = ids[k] → ∀ j (hj : j < ls.length) (hj' : j < ids.length), j < k + 1 → idOfL ls[j] = ids[j]) := fun e j hj hj' h => by
            by_cases ej : j = k
            · subst ej; exact e
            · exact HSM.out j hj hj' (by omega)
          have HOD : Hid (idOfL ls[k] ≠ ids[k] → firstOdd 0 ls ids = some k) := fun e => by
            have := firstOdd_at ls ids 0 k hlt hki (fun j hj hj' h => HSM.out j hj hj' h) e
            rwa [Nat.zero_add] at this
          obtain ⟨q, hq⟩ : ∃ q : ByteArray, (⟨ls[k].toArray⟩ : ByteArray) = q := ⟨_, rfl⟩
          have hqd : q.data.toList = ls[k] := by rw [← hq]
          have hqs : (ls[k].length : Int) = (q.size : Int) := by rw [← hq]; rfl
          have hqn : q.size ≤ 100 := by have := HLS.out; omega
          rw [txtV, hq] at hl0
          rw [hqs, ← hqd] at HID
          obtain ⟨P, hP⟩ : ∃ P, pmore 2166136261 q.data.toList = P := ⟨_, rfl⟩
          have HPP : Hid (pmore 2166136261 q.data.toList = P) := hP
          obtain ⟨L, hL⟩ : ∃ L : Int, (q.size : Int) = L := ⟨_, rfl⟩
          have HQL : Hid ((q.size : Int) = L) := hL
          rw [hP, hL] at HID
          obtain ⟨⟨n, l⟩, hy⟩ : ∃ y, ids[k] = y := ⟨_, rfl⟩
          obtain ⟨z, hz⟩ : ∃ z, idOfL ls[k] = z := ⟨_, rfl⟩
          rw [hy] at hi0 hi1 HCI2 HST HOD
          rw [hqd, hz] at HID
          rw [hz] at HST HOD
          have HQM : Hid (q.size ≤ maxLen) := by show _ ≤ _; unfold maxLen; omega
          clear hqs hq hqd hP hL hy hz HLS hqn
          have HBN : Hid (Blk wr w.heap.size #[.string nm, .int .i64 len, .int .u32 (p : Nat), .slice (some ⟨bi, oi, none⟩) ids.length ca] 40) := hX
          by_cases hid : P = n ∧ L = l
          · obtain ⟨rfl, rfl⟩ := hid
            go_wp2_with fail
            go_region_held3 (fun w' => w'.cell? ⟨w.heap.size, 3, none⟩ = some (.slice (some ⟨bi, oi, none⟩) ids.length ca) ∧ w'.cell? ⟨bi, oi + k * 2, none⟩ = some (.int .u32 (P : Nat)) ∧ w'.cell? ⟨bi, oi + k * 2 + 1, none⟩ = some (.int .i64 L)) (first | exact ⟨hX4.cell (i := 3) rfl, y0, y1⟩ | go_keep) (first
              | (go_at_call 125; refine (id_any q _ HQM.out).mono ?_; rintro e w4 ⟨rfl, hb4⟩; rw [HPP.out, HQL.out]; have hB4 : Below w.heap.size w w4 := hbr.drew.trans (hb4.mono hbr.size); have hX4 := Blk.next (W := wr.drew) HBN.out hb4; obtain ⟨y0, y1⟩ := HCI2.out w4 hB4))
            go_wp2_with fail
            go_roundw
            case rel => exact ⟨k + 1, by omega, by go_num, HST.out HID.out, hB4, hX4⟩
            case measure => simp [intOf]; omega
          · have HR : Hid (joinOf nm.data.toList len p ids ls = ([], (9, (k : Int)))) := by
              show _ = _
              unfold joinOf
              rw [if_neg (by rw [HF.out]; simp), if_neg (by rw [HLL.out]; simp), HOD.out (by rw [HID.out]; intro e; cases e; exact hid ⟨rfl, rfl⟩)]
            have hdis : ((P : Int) == (n : Int)) = false ∨ (((P : Int) == (n : Int)) = true ∧ (L == l) = false) := by
              by_cases h : P = n
              · exact .inr ⟨by rw [beq_iff_eq]; omega, by rw [beq_eq_false_iff_ne]; exact fun e => hid ⟨h, e⟩⟩
              · exact .inl (by rw [beq_eq_false_iff_ne]; omega)
            clear hid
            rcases hdis with hPn | ⟨hPn, hLl⟩
            all_goals
              go_wp2_with fail
              go_region_held3 (fun w' => w'.cell? ⟨w.heap.size, 3, none⟩ = some (.slice (some ⟨bi, oi, none⟩) ids.length ca) ∧ w'.cell? ⟨bi, oi + k * 2, none⟩ = some (.int .u32 (n : Nat)) ∧ w'.cell? ⟨bi, oi + k * 2 + 1, none⟩ = some (.int .i64 l)) (first | exact ⟨hX4.cell (i := 3) rfl, y0, y1⟩ | go_keep) (first
                | (go_at_call 125; refine (id_any q _ HQM.out).mono ?_; rintro e w4 ⟨rfl, hb4⟩; rw [HPP.out, HQL.out]; have hB4 : Below w.heap.size w w4 := hbr.drew.trans (hb4.mono hbr.size); have hX4 := Blk.next (W := wr.drew) HBN.out hb4; obtain ⟨y0, y1⟩ := HCI2.out w4 hB4))
              have g8 := HG.out w4 hB4 8 (by decide)
              dsimp only [errG] at g8
              go_wp2_with fail
              go_region
              all_goals go_wp2_with fail
              all_goals go_ret2
              all_goals refine ⟨.iface 186 (.pointer (some ⟨w4.heap.size, 0, none⟩)), by rw [HR.out]; rfl, ?_, ?_⟩
              all_goals first
                | exact (hB4.drew).alloc hB4.size _
                | (rw [HR.out]; exact .inr (.inr ⟨8, w4.heap.size, 0, (k : Int), by decide, hB4.size, rfl, by simp, by simp, rfl⟩))
        · have hge : (ls.length : Int) ≤ (k : Int) := by omega
          have HNO : Hid (firstOdd 0 ls ids = none) := firstOdd_none ls ids 0 (fun j hj hj' => HSM.out j hj hj' (by omega))
          obtain ⟨T, hT⟩ : ∃ T : ByteArray, (⟨ls.flatten.toArray⟩ : ByteArray) = T := ⟨_, rfl⟩
          have HTT : Hid ((⟨ls.flatten.toArray⟩ : ByteArray) = T) := hT
          have hTd : T.data.toList = ls.flatten := by rw [← hT]
          have HJN : Hid (joinOf nm.data.toList len p ids ls = if pmore 2166136261 T.data.toList = p then (T.data.toList, (0, -1)) else ([], (9, -1))) := by
            show _ = _
            unfold joinOf
            rw [if_neg (by rw [HF.out]; simp), if_neg (by rw [HLL.out]; simp), HNO.out, hTd]
          have HAM : Hid (T.size ≤ maxLen) := by
            show _ ≤ _
            have h1 : T.size = ls.flatten.length := by rw [← hTd, Array.length_toList]; rfl
            have h2 := flatten_le ls HSZ.out
            have h3 := HLL.out
            have h4 := H250.out
            unfold maxLen
            omega
          obtain ⟨P, hP⟩ : ∃ P, pmore 2166136261 T.data.toList = P := ⟨_, rfl⟩
          have HPP : Hid (pmore 2166136261 T.data.toList = P) := hP
          rw [hP] at HJN
          clear hP hTd hT HNO b2 b3
          go_wp2_with fail
          refine (HJT.out wr hbr).mono ?_
          rintro e w5 ⟨rfl, hb5⟩
          rw [HTT.out]
          have hX5 := hX.next hb5
          have hB5 : Below w.heap.size w w5 := hbr.trans (hb5.mono hbr.size)
          have b2 := hX5.cell (i := 2) rfl
          have g8 := HG.out w5 hB5 8 (by decide)
          dsimp only [errG] at g8
          clear hb5
          by_cases hPp : P = p
          · subst hPp
            have HR : Hid (joinOf nm.data.toList len P ids ls = (T.data.toList, (0, -1))) := by show _ = _; rw [HJN.out, if_pos rfl]
            clear HJN
            go_wp2_with fail
            go_region_held3 (fun w' => w'.cell? ⟨w.heap.size, 2, none⟩ = some (.int .u32 (P : Nat))) (go_keep) (first
              | (go_at_call 131; refine (of_any T _ HAM.out).mono ?_; rintro e w6 ⟨rfl, hw6⟩; subst hw6; rw [HPP.out]))
            go_wp2_with fail
            go_ret2
            have HAE : Hid (T = ⟨T.data.toList.toArray⟩) := bytes_eq rfl
            exact ⟨.nilIface, by rw [HR.out, ← HAE.out]; rfl, by rw [HR.out]; exact ErrIn.mkNil _ _ a, hB5.drew⟩
          · have HR : Hid (joinOf nm.data.toList len p ids ls = ([], (9, -1))) := by show _ = _; rw [HJN.out, if_neg hPp]
            have hb : ((P : Int) == (p : Int)) = false := by rw [beq_eq_false_iff_ne]; omega
            have hbn : ((P : Int) != (p : Int)) = true := by rw [bne, hb]; rfl
            clear HJN hPp
            go_wp2_with fail
            go_region_held3 (fun w' => w'.cell? ⟨w.heap.size, 2, none⟩ = some (.int .u32 (p : Nat))) (go_keep) (first
              | (go_at_call 131; refine (of_any T _ HAM.out).mono ?_; rintro e w6 ⟨rfl, hw6⟩; subst hw6; rw [HPP.out]))
            go_wp2_with fail
            go_region
            all_goals go_wp2_with fail
            all_goals go_ret2
            all_goals exact ⟨sentV a 8, by rw [HR.out]; rfl, by rw [HR.out]; exact ErrIn.sent _ _ a 8 (by decide) rfl, hB5.drew.drew⟩
    · have HR : Hid (joinOf nm.data.toList len p ids ls = ([], (3, -1))) := by
        show _ = _
        unfold joinOf
        rw [if_neg (by rw [HF.out]; simp), if_pos hll]
      have hq : ((ls.length : Int) == (ids.length : Int)) = false := by rw [beq_eq_false_iff_ne]; omega
      have hqn : ((ls.length : Int) != (ids.length : Int)) = true := by rw [bne, hq]; rfl
      have g2 := HG.out w1 hB1 2 (by decide)
      dsimp only [errG] at g2
      clear hll
      go_wp2_with fail
      go_region
      all_goals go_wp2_with fail
      all_goals go_ret2
      all_goals exact ⟨sentV a 2, by rw [HR.out]; rfl, by rw [HR.out]; exact ErrIn.sent _ _ a 2 (by decide) rfl, hB1.drew⟩
  · have HR : Hid (joinOf nm.data.toList len p ids ls = ([], recFault nm.data.toList len ids)) := by
      show _ = _
      unfold joinOf
      rw [if_pos (by intro e; rw [e] at hf; simp at hf)]
    obtain ⟨t, u, rfl⟩ := he.not_nil hf
    have HE : Hid (ErrIn w.heap.size w1 a (.iface t u) (recFault nm.data.toList len ids)) := he
    clear he hf
    go_wp2_with fail
    go_ret2
    exact ⟨.iface t u, by rw [HR.out]; rfl, by rw [HR.out]; exact HE.out, hB1⟩
end Go.Proofs.YtjdobbjdlighpabGreatDoor
