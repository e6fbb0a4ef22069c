/-
  Own text. The program's recipe.Text by a contract.
-/
import Derived.Test.YthgajeobenagjaaGreatDoorPOf
import Derived.Test.YthgajeobenagjaaGreatDoorShelf
import Derived.Laws.OwnMore
namespace Go.Proofs.YthgajeobenagjaaGreatDoor
open Go.RowKit

theorem ErrIn.not_nil {base : Nat} {w : World} {a : Nat → Addr} {v : Value} {f : Int × Int} (h : ErrIn base w a v f) (hf : 0 < f.1) : ∃ t u, v = .iface t u := by
  rcases h with ⟨_, rfl⟩ | ⟨k, _, rfl, _⟩ | ⟨k, pb, po, at0, _, _, rfl, _⟩
  · simp at hf
  · exact ⟨_, _, rfl⟩
  · exact ⟨_, _, rfl⟩
theorem ErrIn.is_nil {base : Nat} {w : World} {a : Nat → Addr} {v : Value} (h : ErrIn base w a v (0, -1)) : v = .nilIface := by
  rcases h with ⟨rfl, _⟩ | ⟨k, _, _, hf⟩ | ⟨k, pb, po, at0, _, _, _, _, _, hf⟩
  · rfl
  · have := congrArg Prod.fst hf; simp at this; omega
  · have := congrArg Prod.fst hf; simp at this; omega
theorem ErrIn.low {base base' : Nat} {w : World} {a : Nat → Addr} {v : Value} {f : Int × Int} (h : ErrIn base w a v f) (hb : base' ≤ base) : ErrIn base' w a v f := by
  rcases h with h | h | ⟨k, pb, po, at0, hk, hl, hv, h0, h1, hf⟩
  · exact .inl h
  · exact .inr (.inl h)
  · exact .inr (.inr ⟨k, pb, po, at0, hk, Nat.le_trans hb hl, hv, h0, h1, hf⟩)
theorem idsText_le : ∀ (ids : List (Nat × Int)), (∀ x ∈ ids, x.2.toNat ≤ 9223372036854775807) → (idsText ids).length ≤ 29 * ids.length
  | [], _ => by simp [idsText]
  | x :: r, h => by
    have ih := idsText_le r fun y hy => h y (by simp [hy])
    have h1 := idText_len x.1 x.2.toNat (h x (by simp))
    have e : idsText (x :: r) = 32 :: idText x.1 x.2.toNat ++ idsText r := rfl
    rw [e, List.length_append, List.length_cons, List.length_cons]
    omega
def idTexts (ids : List (Nat × Int)) : List (List UInt8) := ids.map fun x => idText x.1 x.2.toNat
theorem join_rcp (nm : List UInt8) (len : Int) (p : Nat) (ids : List (Nat × Int)) : Lib.join (nm :: Lib.decDigits len.toNat :: hexLast p 8 :: idTexts ids) [32] = rcpText nm len p ids := by
  rw [Lib.join_cons]
  unfold Lib.joinTail rcpText idsText idTexts
  rw [List.map_cons, List.map_cons, List.map_map, List.flatten_cons, List.flatten_cons]
  have e : ((fun x => [32] ++ x) ∘ fun (x : Nat × Int) => idText x.1 x.2.toNat) = fun (x : Nat × Int) => (32 : UInt8) :: idText x.1 x.2.toNat := rfl
  rw [e]
  simp
def textPost (a : Nat → Addr) (nm : ByteArray) (len : Int) (p : Nat) (ids : List (Nat × Int)) (w : World) (e : Ending) (w' : World) : Prop := ∃ ev, e = .returned (.tuple #[.string ⟨(textR nm.data.toList len p ids).toArray⟩, ev]) ∧ ErrIn w.heap.size w' a ev (recFault nm.data.toList len ids) ∧ Below w.heap.size w w'

set_option maxRecDepth 100000 in
set_option maxHeartbeats 4000000 in
theorem rtext_bad (a : Nat → Addr) (nm : ByteArray) (hnm : nm.size ≤ maxLen) (len : Int) (p : Nat) (v : Value) (ids : List (Nat × Int)) (w : World) (hE : ErrW w a) (hv : IdsAt w v ids) (hlen : ids.length ≤ maxLen) (hf : 0 < (recFault nm.data.toList len ids).1) :
    Calls Tryz.prog 9 #[rcpV nm len (p : Nat) v] w fun e w' => textPost a nm len p ids w e w' := by
  have HT : Hid (textR nm.data.toList len p ids = []) := by show _ = _; unfold textR; rw [if_neg]; intro e; rw [e] at hf; simp at hf
  have HF : Hid (0 < (recFault nm.data.toList len ids).1) := hf
  have HB : Hid (∀ o, Below w.heap.size w (w.alloc o)) := fun o => (Below.refl _ w).alloc (Nat.le_refl _) o
  have HC : Hid (∀ o, Calls Tryz.prog 12 #[rcpV nm len (p : Nat) v] (w.alloc o) fun e w' => ∃ ev, e = .returned ev ∧ ErrIn (w.alloc o).heap.size w' a ev (recFault nm.data.toList len ids) ∧ Below (w.alloc o).heap.size (w.alloc o) w') := fun o => check_any a nm hnm len p v ids _ (hE.below (HB.out o) (Nat.le_refl _)) (hv.below (HB.out o)) hlen
  obtain ⟨pa, c, rfl, _⟩ := hv
  clear hnm hE hlen hf
  go_enter Tryz.func9, Tryz.ntmps9
  go_wp2_with fail
  refine (HC.out _).mono ?_
  rintro e w1 ⟨ev, rfl, he, hb1⟩
  have hb : Below w.heap.size w w1 := (HB.out _).trans (hb1.mono (by simp))
  have he' : ErrIn w.heap.size w1 a ev (recFault nm.data.toList len ids) := he.low (by simp)
  obtain ⟨t, u, rfl⟩ := he.not_nil HF.out
  have HE : Hid (ErrIn w.heap.size w1 a (.iface t u) (recFault nm.data.toList len ids)) := he'
  clear he he' hb1
  go_wp2_with fail
  go_ret2
  exact ⟨.iface t u, by rw [HT.out]; rfl, HE.out, hb⟩

def wordsOf (nm D X : ByteArray) (ids : List (Nat × Int)) : List ByteArray := nm :: D :: X :: (idTexts ids).map fun l => ⟨l.toArray⟩
theorem wordsOf_length (nm D X : ByteArray) (ids : List (Nat × Int)) : (wordsOf nm D X ids).length = ids.length + 3 := by simp [wordsOf, idTexts]
theorem wordsOf_snoc (nm D X : ByteArray) (ids : List (Nat × Int)) (k : Nat) (h : k < ids.length) : (wordsOf nm D X (ids.take (k + 1))).map Value.string = (wordsOf nm D X (ids.take k)).map Value.string ++ [.string ⟨(idText ids[k].1 ids[k].2.toNat).toArray⟩] := by
  rw [List.take_succ_eq_append_getElem h]
  simp only [wordsOf, idTexts, List.map_append, List.map_cons, List.map_nil, List.cons_append]

set_option maxRecDepth 100000 in
set_option maxHeartbeats 4000000 in
theorem rtext_fine (a : Nat → Addr) (nm : ByteArray) (hnm : nm.size ≤ maxLen) (len : Int) (p : Nat) (hp : p < 4294967296) (v : Value) (ids : List (Nat × Int)) (w : World) (hE : ErrW w a) (ht : Pow10 w) (hv : IdsAt w v ids) (hlen : ids.length ≤ maxLen) (h32 : ∀ j (hj : j < ids.length), ids[j].1 < 4294967296) (hf : recFault nm.data.toList len ids = (0, -1)) :
    Calls Tryz.prog 9 #[rcpV nm len (p : Nat) v] w fun e w' => textPost a nm len p ids w e w' := by
  obtain ⟨i0, hi, hz0, hz1, hz2⟩ := info_parts infoText
  obtain ⟨hf1, ⟨hf2, hf3⟩, hf4, hf5, _⟩ := recFault_zero hf
  have HT : Hid (textR nm.data.toList len p ids = rcpText nm.data.toList len p ids) := by show _ = _; unfold textR; rw [if_pos hf]
  have HF : Hid (recFault nm.data.toList len ids = (0, -1)) := hf
  have HB : Hid (∀ o, Below w.heap.size w (w.alloc o)) := fun o => (Below.refl _ w).alloc (Nat.le_refl _) o
  have HC : Hid (∀ o, Calls Tryz.prog 12 #[rcpV nm len (p : Nat) v] (w.alloc o) fun e w' => ∃ ev, e = .returned ev ∧ ErrIn (w.alloc o).heap.size w' a ev (recFault nm.data.toList len ids) ∧ Below (w.alloc o).heap.size (w.alloc o) w') := fun o => check_any a nm hnm len p v ids _ (hE.below (HB.out o) (Nat.le_refl _)) (hv.below (HB.out o)) hlen
  have HOK : Hid (∀ j (hj : j < ids.length), idOk ids[j] = true) := fun j hj => firstBad_all ids 0 hf5 _ (List.getElem_mem hj)
  have H32 : Hid (∀ j (hj : j < ids.length), ids[j].1 < 4294967296) := h32
  have HPW : Hid (∀ W', Below w.heap.size w W' → Pow10 W') := fun W' hb => ht.below hb (Nat.le_refl _)
  have HP : Hid (p < 4294967296) := hp
  have hnm12 : nm.size ≤ 12 := by
    unfold isName at hf1
    simp at hf1
    exact hf1.2.2
  obtain ⟨len, rfl⟩ := Int.eq_ofNat_of_zero_le hf2
  have HL : Hid (len ≤ 4000) := by show _ ≤ _; omega
  have hi2 : (ids.length : Int) ≤ 250 := by omega
  have HJL : Hid ((rcpText nm.data.toList (len : Nat) p ids).length ≤ 100000) := by
    show _ ≤ _
    have h1 := idsText_le ids (fun x hx => by
      obtain ⟨j, hj, rfl⟩ := List.getElem_of_mem hx
      have := HOK.out j hj
      simp only [idOk, decide_eq_true_eq] at this
      omega)
    have h2 := decDigits_le19 len (by omega)
    have h3 : nm.data.toList.length = nm.size := by rw [Array.length_toList]; rfl
    unfold rcpText
    simp only [List.length_append, List.length_cons, List.length_nil, hexLast_length, Int.toNat_natCast]
    omega
  have HV : Hid (IdsAt w v ids) := hv
  obtain ⟨pa, c, rfl, hcell⟩ := hv
  have HCELL : Hid (∀ W', Below w.heap.size w W' → ∀ i (h : i < ids.length), ∃ b o, pa = some ⟨b, o, none⟩ ∧ W'.cell? ⟨b, o + i * 2, none⟩ = some (.int .u32 (ids[i].1 : Nat)) ∧ W'.cell? ⟨b, o + i * 2 + 1, none⟩ = some (.int .i64 ids[i].2)) := fun W' hb i hi => by
    obtain ⟨b, o, hp, hlt, h1, h2⟩ := hcell i hi
    exact ⟨b, o, hp, (hb.cell (p := ⟨b, o + i * 2, none⟩) hlt).trans h1, (hb.cell (p := ⟨b, o + i * 2 + 1, none⟩) hlt).trans h2⟩
  clear hnm hE hlen hf hcell ht hp h32 hf1 hf2 hf3 hf4 hf5 hnm12
  obtain ⟨D, hD⟩ : ∃ D : ByteArray, (⟨(Lib.decDigits len).toArray⟩ : ByteArray) = D := ⟨_, rfl⟩
  obtain ⟨X, hX⟩ : ∃ X : ByteArray, (⟨(hexLast p 8).toArray⟩ : ByteArray) = X := ⟨_, rfl⟩
  have HDD : Hid ((⟨(Lib.decDigits len).toArray⟩ : ByteArray) = D) := hD
  have HXX : Hid ((⟨(hexLast p 8).toArray⟩ : ByteArray) = X) := hX
  clear hD hX
  go_enter Tryz.func9, Tryz.ntmps9
  go_wp2_with fail
  refine (HC.out _).mono ?_
  rintro e w1 ⟨ev, rfl, he, hb1⟩
  rw [HF.out] at he
  obtain rfl := he.is_nil
  have hbx := HB.out (.cells #[.string nm, .int .i64 (len : Nat), .int .u32 (p : Nat), .slice pa ids.length c] 26)
  have hX0 := Blk.new w #[.string nm, .int .i64 (len : Nat), .int .u32 (p : Nat), .slice pa ids.length c] 26
  have hX1 := hX0.next hb1
  have hB1 : Below w.heap.size w w1 := hbx.trans (hb1.mono hbx.size)
  clear he hb1 hX0 hbx HC
  have x0 := hX1.cell (i := 0) rfl
  have x1 := hX1.cell (i := 1) rfl
  have x2 := hX1.cell (i := 2) rfl
  go_wp2_with fail
  go_region_held3 (fun w' => w'.cell? ⟨w.heap.size, 0, none⟩ = some (.string nm) ∧ w'.cell? ⟨w.heap.size, 1, none⟩ = some (.int .i64 (len : Nat)) ∧ w'.cell? ⟨w.heap.size, 2, none⟩ = some (.int .u32 (p : Nat)))
    (first
      | exact ⟨(hX3a _).cell (i := 0) rfl, (hX3a _).cell (i := 1) rfl, (hX3a _).cell (i := 2) rfl⟩
      | exact ⟨hX3.cell (i := 0) rfl, hX3.cell (i := 1) rfl, hX3.cell (i := 2) rfl⟩
      | exact ⟨hX2.cell (i := 0) rfl, hX2.cell (i := 1) rfl, hX2.cell (i := 2) rfl⟩
      | go_keep)
    (first
      | (go_at_call 32; refine (itoa_any len (by have := HL.out; omega) _ (HPW.out _ hB1.drew)).mono ?_; rintro e w2 ⟨rfl, hb2⟩; rw [HDD.out]; have hB2 : Below w.heap.size w w2 := hB1.drew.trans (hb2.mono hB1.size); have hX2 := Blk.next (W := w1.drew) hX1 hb2)
      | (go_at_call 33; refine (hexText_any p HP.out _).mono ?_; rintro e w3 ⟨rfl, hb3⟩; rw [HXX.out]; have hB3 : Below w.heap.size w w3 := hB2.trans (hb3.mono hB2.size); have hX3 := hX2.next hb3; have hX3a := fun o => hX3.next ((Below.refl _ w3).alloc (Nat.le_refl _) o)))
  have hr0 : (w3.alloc (.cells #[.string nm, .string D, .string X] 9)).ownsRow w3.heap.size 9 1 (.slice (some ⟨w3.heap.size, 0, none⟩) 3 3) 3 ((wordsOf nm D X (ids.take 0)).map Value.string) := by
    have := World.ownsRow_lit (base := w3.heap.size) (e := 9) (size := 1) w3 #[.string nm, .string D, .string X] 3 (Nat.le_refl _) (by decide) rfl
    simpa [wordsOf, idTexts] using this
  have hB3a : Below w3.heap.size w3 (w3.alloc (.cells #[.string nm, .string D, .string X] 9)) := (Below.refl _ w3).alloc (Nat.le_refl _) _
  obtain ⟨W3, hW3⟩ : ∃ W3, w3.alloc (.cells #[.string nm, .string D, .string X] 9) = W3 := ⟨_, rfl⟩
  have x3 := (hX3a (.cells #[.string nm, .string D, .string X] 9)).cell (i := 3) rfl
  rw [hW3] at hr0 hB3a x3 ⊢
  clear hW3 hX3a hX3 hX2 hX1 hb3 hb2 hB1 hB2
  go_wp2_with fail
  go_loopw [5, 25] (fun v i wr => ∃ (k : Nat), k ≤ ids.length ∧ i = .int .i64 k ∧ wr.ownsRow w3.heap.size 9 1 v (k + 3) ((wordsOf nm D X (ids.take k)).map Value.string) ∧ Below w3.heap.size w3 wr) (fun _ i _ => ids.length - (intOf i).toNat)
  case atStart => exact ⟨0, Nat.zero_le _, rfl, hr0, hB3a⟩
  case round =>
    obtain ⟨k, hk, rfl, hown, hbr⟩ := hrel
    clear hr0 hB3a x3
    have hbw : Below w.heap.size w wr := hB3.trans (hbr.mono hB3.size)
    by_cases hlt : k < ids.length
    · have hlt' : (k : Int) < (ids.length : Int) := by omega
      obtain ⟨b, o, rfl, hd0, hd1⟩ := HCELL.out wr hbw k hlt
      have hok := HOK.out k hlt
      have h32 := H32.out k hlt
      have HNX : Hid ((wordsOf nm D X (ids.take (k + 1))).map Value.string = (wordsOf nm D X (ids.take k)).map Value.string ++ [.string ⟨(idText ids[k].1 ids[k].2.toNat).toArray⟩]) := wordsOf_snoc nm D X ids k hlt
      obtain ⟨⟨n, l⟩, hy⟩ : ∃ y, ids[k] = y := ⟨_, rfl⟩
      rw [hy] at hok h32 hd0 hd1 HNX
      simp only [idOk, decide_eq_true_eq] at hok
      obtain ⟨l', rfl⟩ := Int.eq_ofNat_of_zero_le (show 0 ≤ l by omega)
      have HH : Hid (n < 4294967296) := h32
      have HLL : Hid (l' ≤ 64) := by show _ ≤ _; omega
      obtain ⟨I, hI⟩ : ∃ I : ByteArray, (⟨(idText n l').toArray⟩ : ByteArray) = I := ⟨_, rfl⟩
      have HII : Hid ((⟨(idText n l').toArray⟩ : ByteArray) = I) := hI
      simp only [Int.toNat_natCast] at HNX
      rw [hI] at HNX
      have hal : Below wr.heap.size wr (wr.alloc (.cells #[.int .u32 (n : Nat), .int .i64 (l' : Nat)] 40)) := (Below.refl _ wr).alloc (Nat.le_refl _) _
      clear hI hok h32 hy
      go_wp2_with fail
      refine (text_any n l' HH.out (by have := HLL.out; omega) _ (HPW.out _ (hbw.trans (hal.mono hbw.size)))).mono ?_
      rintro e w4 ⟨rfl, hb4⟩
      rw [HII.out]
      have hB4 : Below wr.heap.size wr w4 := hal.trans (hb4.mono hal.size)
      have hown4 := row_below hown hB4
      have hbr4 : Below w3.heap.size w3 w4 := hbr.trans (hB4.mono hbr.size)
      clear hown hb4 hB4 hal
      go_wp2_with (at_builtin; refine wpList_append_own _ rfl (.tmp 29) (.tmp 32) 31 rfl w3.heap.size 9 i0 (.string ⟨#[]⟩) 1 16 Tryz.underlying31 hi hz0 hz1 hz2 rfl (by decide) _ _ _ rfl (hown4.alloc _) ⟨w4.heap.size, 0, none⟩ 1 1 [.string I] rfl rfl (cell_one_new _ _ _) (by simp [Value.oneCell']) (by unfold maxLen; omega) (by omega) (by have := hbr4.size; simp; omega) ?_; intro v' w5 hown' hgrow _; obtain ⟨g', cap', rfl⟩ := ownsRow_succ hown')
      have hbr5 : Below w3.heap.size w3 w5 := (hbr4.alloc hbr4.size _).grown hgrow (by have := hbr4.size; simp; omega) (fun j e => own_base hown4 e)
      clear hgrow hown4
      go_wp2_with fail
      go_roundw
      case rel => exact ⟨k + 1, by omega, by go_num, by rw [HNX.out]; exact hown', hbr5⟩
      case measure => simp [intOf]; omega
    · have hge : (ids.length : Int) ≤ (k : Int) := by omega
      rw [List.take_of_length_le (by omega)] at hown
      obtain rfl : k = ids.length := by omega
      obtain ⟨g, cap, hu5, hcap, hcm, hgl, hgc⟩ := row_open hown (by omega)
      subst hu5
      have HJ : Hid (Calls Tryz.prog 31 #[.slice (some ⟨g, 0, none⟩) (ids.length + 3) cap, .string ⟨#[32]⟩] wr fun e w' => e = .returned (.string ⟨(rcpText nm.data.toList (len : Nat) p ids).toArray⟩) ∧ Below wr.heap.size wr w') := by
        show Calls _ _ _ _ _
        have e1 : Lib.join ((wordsOf nm D X ids).map (·.data.toList)) [32] = rcpText nm.data.toList (len : Nat) p ids := by
          rw [← join_rcp]
          unfold wordsOf
          rw [List.map_cons, List.map_cons, List.map_cons, List.map_map, ← HDD.out, ← HXX.out]
          have : ((fun (x : ByteArray) => x.data.toList) ∘ fun (l : List UInt8) => (⟨l.toArray⟩ : ByteArray)) = id := by funext l; simp
          rw [this, List.map_id]
          simp
        have hj := Tryz.strings_Join g 0 cap (wordsOf nm D X ids) ⟨#[32]⟩ wr (fun j x hx => by
          have hjl : j < (wordsOf nm D X ids).length := (List.getElem?_eq_some_iff.1 hx).1
          have := hgc j (by rw [List.length_map]; exact hjl)
          rw [Nat.zero_add, this, List.getElem_map]
          rw [List.getElem?_eq_getElem hjl] at hx
          rw [Option.some.inj hx]) hgl (by rw [wordsOf_length]; omega) (by rw [wordsOf_length]; exact hcap) (by show (Lib.join _ [32]).length ≤ _; rw [e1]; have := HJL.out; omega)
        rw [wordsOf_length] at hj
        refine hj.mono fun e w' ⟨h1, h2⟩ => ⟨?_, h2⟩
        rw [h1]
        exact congrArg (fun l : List UInt8 => Ending.returned (.string ⟨l.toArray⟩)) e1
      clear hown hgc
      go_wp2_with fail
      refine HJ.out.mono ?_
      rintro e w6 ⟨rfl, hb6⟩
      obtain ⟨T, hT⟩ : ∃ T : ByteArray, (⟨(rcpText nm.data.toList (len : Nat) p ids).toArray⟩ : ByteArray) = T := ⟨_, rfl⟩
      have HTT : Hid ((⟨(rcpText nm.data.toList (len : Nat) p ids).toArray⟩ : ByteArray) = T) := hT
      rw [hT]
      clear hT
      go_wp2_with fail
      go_ret2
      exact ⟨.nilIface, by rw [HT.out, HTT.out]; rfl, by rw [HF.out]; exact ErrIn.mkNil _ _ a, hbw.trans (hb6.mono hbw.size)⟩

theorem rtext_any (a : Nat → Addr) (nm : ByteArray) (hnm : nm.size ≤ maxLen) (len : Int) (p : Nat) (hp : p < 4294967296) (v : Value) (ids : List (Nat × Int)) (w : World) (hE : ErrW w a) (ht : Pow10 w) (hv : IdsAt w v ids) (hlen : ids.length ≤ maxLen) (h32 : ∀ j (hj : j < ids.length), ids[j].1 < 4294967296) :
    Calls Tryz.prog 9 #[rcpV nm len (p : Nat) v] w fun e w' => textPost a nm len p ids w e w' := by
  rcases recFault_code nm.data.toList len ids with h | h
  · exact rtext_fine a nm hnm len p hp v ids w hE ht hv hlen h32 h
  · exact rtext_bad a nm hnm len p v ids w hE hv hlen h
end Go.Proofs.YthgajeobenagjaaGreatDoor
