/-
  Own text. bin.Read by a contract, at any text.
-/
import Derived.Test.YtmjdgakokldliaaGreatDoorPFirstAll
import Derived.Test.YtmjdgakokldliaaGreatDoorPChkAll
namespace Go.Proofs.YtmjdgakokldliaaGreatDoor
open Go.RowKit

theorem hideR {q : Prop} (h : q) : Hid q := h
def strSz : Value → Nat
  | .string s => s.size
  | _ => 0
theorem cell_heldR {W : World} {B : Nat} {t : TypeId} (hB : B = W.heap.size) (h : Hd) : ∀ j u, (heldCells [h])[j]? = some u → (W.alloc (.cells #[.int .u32 (h.1.1 : Nat), .int .i64 h.1.2, .int .i64 h.2.1, .string ⟨h.2.2.toArray⟩] t)).cell? ((⟨B, 0, none⟩ : Addr).add j) = some u := by
  intro j u hj
  rw [add_plain]
  exact new_cell W _ t (by rw [← hj]; simp [heldCells]) hB
theorem infoHeldA : (Tryz.prog.info? 64).map (fun i => (i.zero, i.size, i.bytes)) = some (some (heldV ((0, 0), 0, [])), 4, 40) := by kernel_rfl
theorem row_shapeR {W : World} {base : Nat} {e : TypeId} {size : Nat} {v : Value} {n : Nat} {xs : List Value} (h : W.ownsRow base e size v n xs) : ∃ p c, v = .slice p n c := by
  rcases h.2 with ⟨rfl, rfl⟩ | ⟨g, cap, cur, rfl, _⟩
  · exact ⟨_, _, rfl⟩
  · exact ⟨_, _, rfl⟩
theorem strR_ne {s t : ByteArray} (h : s ≠ t) : (s.toList == t.toList) = false := by
  rw [ByteArray.toList_eq, ByteArray.toList_eq, beq_eq_false_iff_ne]
  exact fun e => h (WideShapes.bytes_inj e)
theorem strR_ne_lit {s : ByteArray} {l : List UInt8} (h : s ≠ ⟨l.toArray⟩) : (s.toList == l) = false := by
  rw [ByteArray.toList_eq, beq_eq_false_iff_ne]
  exact fun e => h (WideShapes.bytes_inj (by rw [e]))
def readsOf (s : List UInt8) : List Hd × Int × Int := if 40000 < s.length then ([], 2, -1) else hReads [] s
theorem markE_two (l : List Hd) (i : Nat) : markE l i = 0 ∨ markE l i = 8 ∨ markE l i = 9 := by
  unfold markE
  split
  · exact .inl rfl
  · split
    · exact .inr (.inr rfl)
    · split
      · exact .inl rfl
      · split
        · exact .inl rfl
        · split
          · exact .inl rfl
          · exact .inr (.inl rfl)
theorem heldsNil (w : World) : HeldsAt w (.slice none 0 0) [] := ⟨none, 0, rfl, fun i hi => by simp at hi⟩
set_option maxRecDepth 100000 in
set_option maxHeartbeats 4000000 in
theorem pRead_all (a : Nat → Addr) (s0 : ByteArray) (m : Int) (w : World) (hsz : s0.size ≤ 50000) (hE : ErrG w a)
    (hm : w.cell? ⟨13, 0, none⟩ = some (.int .i64 m)) :
    Calls Tryz.prog 35 #[.string s0] w fun e w' => ∃ vr ev, e = .returned (.tuple #[vr, ev]) ∧ HeldsAt w' vr (readsOf s0.data.toList).1 ∧ ErrIn w.heap.size w' a ev (readsOf s0.data.toList).2 ∧ Below w.heap.size w w' := by
  obtain ⟨iH, hiH, zH0, zH1, zH2⟩ := info_parts infoHeldA
  have hsl : s0.data.toList.length = s0.size := by rw [Array.length_toList]; rfl
  have HGL : Hid (∀ W, Below w.heap.size w W → W.cell? ⟨13, 0, none⟩ = some (.int .i64 m) ∧ ErrG W a) := fun W hb => ⟨(hb.cell (p := ⟨13, 0, none⟩) (lt_of_cell hm)).trans hm, hE.below hb (Nat.le_refl _)⟩
  have g1 : w.cell? ⟨1, 0, none⟩ = some (sentV a 1) := hE.glob 1 rfl
  clear hm hE
  by_cases hbig : 40000 < s0.size
  · have hb2 : (40000 : Int) < (s0.size : Int) := by omega
    have e : readsOf s0.data.toList = ([], 2, -1) := by unfold readsOf; rw [if_pos (by omega)]
    rw [e]
    go_enter Tryz.func35, Tryz.ntmps35
    go_wp2_with fail
    go_region
    go_wp2_with fail
    go_ret2
    exact ⟨_, _, rfl, heldsNil _, .inr (.inl ⟨1, by decide, rfl, rfl⟩), (Below.refl _ _).drew⟩
  have hb2 : ¬ (40000 : Int) < (s0.size : Int) := by omega
  have HRS : Hid (readsOf s0.data.toList = hReads [] s0.data.toList) := by show _ = _; unfold readsOf; rw [if_neg (by omega)]
  have HS0 : Hid (s0.data.toList.length ≤ 40000) := by show _ ≤ _; omega
  obtain ⟨RES, hRES⟩ : ∃ RES, readsOf s0.data.toList = RES := ⟨_, rfl⟩
  rw [hRES] at HRS ⊢
  clear hRES hsl g1 hsz
  go_enter Tryz.func35, Tryz.ntmps35
  go_wp2_with fail
  go_loopw [0, 4] (fun sv lv wr => ∃ (l : List Hd) (s : ByteArray), sv = .string s ∧ Hid (hReads l s.data.toList = RES) ∧ Hid (l.length + s.data.toList.length ≤ 40000) ∧ Hid (wr.ownsRow w.heap.size 64 4 lv l.length (heldCells l)) ∧ Hid (Below w.heap.size w wr)) (fun sv _ _ => strSz sv)
  case atStart => exact ⟨[], s0, rfl, HRS.out.symm, by show _ ≤ _; have := HS0.out; simpa using this, World.ownsRow_nil _ _ _ _, Below.refl _ _⟩
  case round =>
    clear HRS HS0
    obtain ⟨l, s, rfl, HSK, HLN, HROW, HB⟩ := hrel
    have hss : s.data.toList.length = s.size := by rw [Array.length_toList]; rfl
    have hs2 : s.size ≤ 40000 := by have := HLN.out; omega
    obtain ⟨pv, cv, rfl⟩ := row_shapeR HROW.out
    by_cases hne : s = ⟨#[]⟩
    · subst hne
      have HR : Hid (RES = (l, 0, -1)) := HSK.out.symm.trans (hReads_nil l)
      go_wp2_with fail
      go_ret2
      exact ⟨_, _, rfl, by rw [HR.out]; exact HeldsAt.of_row HROW.out, by rw [HR.out]; exact .inl ⟨rfl, rfl⟩, HB.out⟩
    · have k1' := strR_ne hne
      have n1 : (s.toList == []) = false := strR_ne_lit hne
      have HNE : Hid (s.data.toList ≠ []) := fun e => hne (by apply ByteArray.ext; apply Array.toList_inj.1; rw [e])
      have HRF := hideR (readFirst_all a s m wr (by omega) (HGL.out _ HB.out).1 ((HGL.out _ HB.out).2.glob 0 rfl))
      have HLL : Hid (l.length ≤ 40000) := by show _ ≤ _; have := HLN.out; omega
      clear hne
      cases hF : hFirst s.data.toList with
      | none =>
        have HR : Hid (RES = ([], 1, (l.length : Int))) := HSK.out.symm.trans (hReads_text l _ HNE.out hF)
        rw [hF] at HRF
        clear hF
        go_wp2_with fail
        refine HRF.out.mono ?_
        rintro e w3 ⟨rfl, hb3⟩
        simp only [firstRes]
        have hB3 : Below w.heap.size w w3 := HB.out.trans (hb3.mono HB.out.size)
        have g0 : w3.cell? ⟨5, 0, none⟩ = some (sentV a 0) := (HGL.out _ hB3).2.glob 0 rfl
        have hgl : 5 < w3.heap.size := lt_of_cell g0
        clear hb3
        go_wp2_with fail
        go_region
        go_wp2_with fail
        go_ret2
        refine ⟨_, _, rfl, by rw [HR.out]; exact heldsNil _, ?_, ?_⟩
        · rw [HR.out]
          refine .inr (.inr ⟨0, w3.heap.size + 1, 0, (l.length : Int), by decide, by have := hB3.size; omega, rfl, ?_, ?_, rfl⟩)
          · simp
          · simp
        · exact ((hB3.alloc hB3.size _).alloc (by have := hB3.size; rw [World.size_alloc]; omega) _).drew
      | some x =>
        obtain ⟨h, r⟩ := x
        have hless := hFirst_less hF
        have q4 := (hFirst_held hF).2.2.2
        simp only at hless q4
        have HNX : Hid ((markE (l ++ [h]) l.length = 0 → hReads (l ++ [h]) r = RES) ∧ (markE (l ++ [h]) l.length ≠ 0 → RES = ([], markE (l ++ [h]) l.length, (l.length : Int)))) :=
          ⟨fun e => (hReads_next l _ (h, r) hF e).symm.trans HSK.out, fun e => HSK.out.symm.trans (hReads_odd l _ (h, r) hF e)⟩
        have HLR : Hid ((l ++ [h]).length + r.length ≤ 40000) := by show _ ≤ _; have := HLN.out; rw [List.length_append, List.length_singleton]; omega
        have HT : Hid (h.2.2.length ≤ 50000) := by show _ ≤ _; omega
        have HRL : Hid (r.length < s.size) := by show _ < _; omega
        rw [hF] at HRF
        simp only [firstRes] at HRF
        clear hF hless q4
        go_wp2_with fail
        refine HRF.out.mono ?_
        rintro e w3 ⟨rfl, hb3⟩
        have hal3 := (Below.refl w3.heap.size w3).alloc (Nat.le_refl _) (.cells #[.int .u32 (h.1.1 : Nat), .int .i64 h.1.2, .int .i64 h.2.1, .string ⟨h.2.2.toArray⟩] 64)
        have hal4 := (Below.refl (w3.alloc (.cells #[.int .u32 (h.1.1 : Nat), .int .i64 h.1.2, .int .i64 h.2.1, .string ⟨h.2.2.toArray⟩] 64)).heap.size (w3.alloc (.cells #[.int .u32 (h.1.1 : Nat), .int .i64 h.1.2, .int .i64 h.2.1, .string ⟨h.2.2.toArray⟩] 64))).alloc (Nat.le_refl _) (.cells #[.int .u32 (h.1.1 : Nat), .int .i64 h.1.2, .int .i64 h.2.1, .string ⟨h.2.2.toArray⟩] 64)
        have HROW4 := hideR (row_below (row_below (row_below HROW.out hb3) hal3) hal4)
        have HB4 : Hid (Below w.heap.size w _) := hideR ((HB.out.trans (hb3.mono HB.out.size)).trans ((hal3.mono (Nat.le_trans HB.out.size hb3.size)).trans (hal4.mono (by have := HB.out.size; have := hb3.size; simp; omega))))
        clear hal3 hal4 hb3 HRF
        go_wp2_with (at_builtin; refine wpList_append_own_at _ rfl (.tmp 31) (.tmp 33) 61 rfl w.heap.size 64 iH (heldV ((0, 0), 0, [])) 4 40 Tryz.underlying61 hiH zH0 zH1 zH2 rfl (by decide) _ _ _ rfl HROW4.out ⟨w3.heap.size + 1, 0, none⟩ 1 1 (heldCells [h]) rfl rfl ?c1 ?c2 ?c3 ?c4 ?c5 ?_)
        case c1 => exact cell_heldR (by simp) h
        case c2 => exact heldCells_one _
        case c3 => have := HLL.out; unfold maxLen; omega
        case c4 => have := HLL.out; omega
        case c5 => exact HB4.out.size
        intro v5 w5 hown5 hg5 _ hv5
        have HROW5 : Hid (w5.ownsRow w.heap.size 64 4 v5 (l ++ [h]).length (heldCells (l ++ [h]))) := by
          show World.ownsRow _ _ _ _ _ _ _
          rw [heldCells_append, List.length_append, List.length_singleton]
          exact hown5
        have HB5 : Hid (Below w.heap.size w w5) := HB4.out.trans ((off_of_rowgrown hg5).below HB4.out.size (fun j hj e => by have := row_ge HROW4.out e; omega))
        clear hown5 hg5 hv5 HROW4 HB4 HROW HB
        have hkk : l.length < (l ++ [h]).length := by simp
        have hgk : (l ++ [h])[l.length] = h := by simp
        have HCK := hideR (checkOne_all a v5 (l ++ [h]) l.length w5 (HGL.out _ HB5.out).2 hkk (by simp; have := HLL.out; omega) (by rw [hgk]; exact HT.out) (HeldsAt.of_row HROW5.out))
        clear hkk hgk
        rcases markE_two (l ++ [h]) l.length with hM | hM | hM
        · have HM := hideR hM
          clear hM
          go_wp2_with fail
          refine HCK.out.mono ?_
          rintro e w6 ⟨rfl, hb6⟩
          have HROW6 := hideR (row_below HROW5.out hb6)
          have HB6 : Hid (Below w.heap.size w w6) := HB5.out.trans (hb6.mono HB5.out.size)
          clear hb6 HCK HROW5 HB5
          rw [HM.out, show markV a 0 = .nilIface from rfl]
          go_wp2_with fail
          go_roundw
          case rel => exact ⟨l ++ [h], _, rfl, by show _ = _; exact HNX.out.1 HM.out, by show _ ≤ _; simpa using HLR.out, HROW6.out, HB6.out⟩
          case measure =>
            have h3 : (⟨r.toArray⟩ : ByteArray).size = r.length := by simp [ByteArray.size]
            have := HRL.out
            simp only [strSz, h3]
            omega
        · have HM := hideR hM
          clear hM
          go_wp2_with fail
          refine HCK.out.mono ?_
          rintro e w6 ⟨rfl, hb6⟩
          have hB6 : Below w.heap.size w w6 := HB5.out.trans (hb6.mono HB5.out.size)
          have HR := hideR (HNX.out.2 (by rw [HM.out]; decide))
          clear hb6 HCK HROW5 HB5
          rw [HM.out, show markV a 8 = sentV a 7 from rfl]
          go_wp2_with fail
          go_ret2
          refine ⟨_, _, rfl, by rw [HR.out]; exact heldsNil _, ?_, ?_⟩
          · rw [HR.out, HM.out]
            refine .inr (.inr ⟨7, w6.heap.size, 0, (l.length : Int), by decide, hB6.size, rfl, ?_, ?_, rfl⟩)
            · simp
            · simp
          · exact hB6.alloc hB6.size _
        · have HM := hideR hM
          clear hM
          go_wp2_with fail
          refine HCK.out.mono ?_
          rintro e w6 ⟨rfl, hb6⟩
          have hB6 : Below w.heap.size w w6 := HB5.out.trans (hb6.mono HB5.out.size)
          have HR := hideR (HNX.out.2 (by rw [HM.out]; decide))
          clear hb6 HCK HROW5 HB5
          rw [HM.out, show markV a 9 = sentV a 8 from rfl]
          go_wp2_with fail
          go_ret2
          refine ⟨_, _, rfl, by rw [HR.out]; exact heldsNil _, ?_, ?_⟩
          · rw [HR.out, HM.out]
            refine .inr (.inr ⟨8, w6.heap.size, 0, (l.length : Int), by decide, hB6.size, rfl, ?_, ?_, rfl⟩)
            · simp
            · simp
          · exact hB6.alloc hB6.size _
end Go.Proofs.YtmjdgakokldliaaGreatDoor
