/-
  Own text. bin.Read by a contract, at a text of pieces.
-/
import Derived.Test.YtmjdgakokldliaaDoorPFirst
import Derived.Test.YtmjdgakokldliaaDoorPChk
import Derived.Test.YtmjdgakokldliaaDoorUsesLaw
namespace Go.Proofs.YtmjdgakokldliaaDoor
open Go.RowKit

theorem hide3 {q : Prop} (h : q) : Hid q := h
def strOf : Value → Nat
  | .string s => s.size
  | _ => 0
theorem cell_held {W : World} {B : Nat} {t : TypeId} (hB : B = W.heap.size) (h : Hd) : ∀ j u, (heldCells [h])[j]? = some u → (W.alloc (.cells #[.int .u32 (h.1.1 : Nat), .int .i64 h.1.2, .int .i64 h.2.1, .string ⟨h.2.2.toArray⟩] t)).cell? ((⟨B, 0, none⟩ : Addr).add j) = some u := by
  intro j u hj
  rw [add_plain]
  exact new_cell W _ t (by rw [← hj]; simp [heldCells]) hB
theorem infoHeldR : (Tryd.prog.info? 77).map (fun i => (i.zero, i.size, i.bytes)) = some (some (heldV ((0, 0), 0, [])), 4, 40) := by kernel_rfl
set_option maxRecDepth 100000 in
set_option maxHeartbeats 4000000 in
theorem pRead_any (l : List Hd) (m : Int) (v : Value) (w : World) (hok : BinOk 1000 l)
    (hm : w.cell? ⟨14, 0, none⟩ = some (.int .i64 m)) (hv : w.cell? ⟨0, 0, none⟩ = some v) :
    Calls Tryd.prog 33 #[.string ⟨(hsText l).toArray⟩] w fun e w' => ∃ vr, e = .returned (.tuple #[vr, .nilIface]) ∧ HeldsAt w' vr l ∧ Below w.heap.size w w' := by
  obtain ⟨iH, hiH, zH0, zH1, zH2⟩ := info_parts infoHeldR
  have HEACH : Hid (∀ h ∈ l, h.1.2 = (h.2.2.length : Int) ∧ h.2.2.length ≤ 64 ∧ h.1.1 < 4294967296 ∧ (0 ≤ h.2.1 ∧ h.2.1 < 1000000)) := fun h hh => by
    obtain ⟨a, b, c, d⟩ := hok.each h hh
    rw [a]
    exact ⟨rfl, b.2, pmore_lt _ (by decide) _, c, by omega⟩
  have HLEN : Hid (∀ k, (hsText (l.drop k)).length ≤ 22000) := fun k => by
    have h1 := hsText_len (l.drop k) (fun h hh => by obtain ⟨a, b, _, d⟩ := HEACH.out h (List.mem_of_mem_drop hh); rw [a]; exact ⟨b, by omega, by omega⟩)
    have h2 := hok.many
    rw [List.length_drop] at h1
    show _ ≤ _
    omega
  have HGL : Hid (∀ W, Below w.heap.size w W → W.cell? ⟨14, 0, none⟩ = some (.int .i64 m) ∧ W.cell? ⟨0, 0, none⟩ = some v) := fun W hb => ⟨(hb.cell (p := ⟨14, 0, none⟩) (lt_of_cell hm)).trans hm, (hb.cell (p := ⟨0, 0, none⟩) (lt_of_cell hv)).trans hv⟩
  have HOK : Hid (BinOk 1000 l) := hok
  obtain ⟨S, hS⟩ : ∃ S : ByteArray, (⟨(hsText l).toArray⟩ : ByteArray) = S := ⟨_, rfl⟩
  have hSl : S.data.toList = hsText (l.drop 0) := by rw [← hS, List.drop_zero]
  have hSs : S.data.toList.length = S.size := by rw [Array.length_toList]; rfl
  have hS2 : (S.size : Int) ≤ 22000 := by have := HLEN.out 0; rw [← hSl] at this; omega
  have HSL := hide3 hSl
  rw [hS]
  clear hm hv hok hS hSl hSs
  go_enter Tryd.func33, Tryd.ntmps33
  go_wp2_with fail
  go_loopw [0, 4] (fun sv lv wr => ∃ (k : Nat) (s : ByteArray), k ≤ l.length ∧ sv = .string s ∧ Hid (s.data.toList = hsText (l.drop k)) ∧ Hid (wr.ownsRow w.heap.size 77 4 lv k (heldCells (l.take k))) ∧ Hid (Below w.heap.size w wr)) (fun sv _ _ => strOf sv)
  case atStart => exact ⟨0, S, Nat.zero_le _, rfl, HSL.out, World.ownsRow_nil _ _ _ _, Below.refl _ _⟩
  case round =>
    obtain ⟨k, s, hk, rfl, HSK, HROW, HB⟩ := hrel
    have hss : s.data.toList.length = s.size := by rw [Array.length_toList]; rfl
    have hs2 : s.size ≤ 22000 := by have := HLEN.out k; rw [← HSK.out] at this; omega
    have htk : (l.take k).length = k := by rw [List.length_take]; omega
    obtain ⟨pv, cv, rfl⟩ := row_shape HROW.out
    by_cases hlt : k < l.length
    · have hne : s ≠ ⟨#[]⟩ := fun e => by
        have h1 := HSK.out
        rw [e, hsText_drop l k hlt] at h1
        exact hText_ne l[k] (List.append_eq_nil_iff.1 h1.symm).1
      have k1' := str_ne hne
      have n1 : (s.toList == []) = false := str_ne_lit hne
      obtain ⟨h0, h1, h2, h3⟩ := HEACH.out l[k] (List.getElem_mem hlt)
      have HRF := hide3 (readFirst_any l[k] (hsText (l.drop (k + 1))) s m v wr (by rw [HSK.out]; exact hsText_drop l k hlt) (by omega) h0 h1 h2 h3 (HGL.out _ HB.out).1 (HGL.out _ HB.out).2)
      clear h0 h1 h2 h3 hne
      go_wp2_with fail
      refine HRF.out.mono ?_
      rintro e w3 ⟨rfl, hb3⟩
      obtain ⟨X, hX⟩ : ∃ X : Array Value, #[.int .u32 (l[k].1.1 : Nat), .int .i64 l[k].1.2, .int .i64 l[k].2.1, .string ⟨l[k].2.2.toArray⟩] = X := ⟨_, rfl⟩
      have HX := hide3 hX
      have hal3 := (Below.refl w3.heap.size w3).alloc (Nat.le_refl _) (.cells #[.int .u32 (l[k].1.1 : Nat), .int .i64 l[k].1.2, .int .i64 l[k].2.1, .string ⟨l[k].2.2.toArray⟩] 77)
      have hal4 := (Below.refl (w3.alloc (.cells #[.int .u32 (l[k].1.1 : Nat), .int .i64 l[k].1.2, .int .i64 l[k].2.1, .string ⟨l[k].2.2.toArray⟩] 77)).heap.size (w3.alloc (.cells #[.int .u32 (l[k].1.1 : Nat), .int .i64 l[k].1.2, .int .i64 l[k].2.1, .string ⟨l[k].2.2.toArray⟩] 77))).alloc (Nat.le_refl _) (.cells #[.int .u32 (l[k].1.1 : Nat), .int .i64 l[k].1.2, .int .i64 l[k].2.1, .string ⟨l[k].2.2.toArray⟩] 77)
      have HROW4 := hide3 (row_below (row_below (row_below HROW.out hb3) hal3) hal4)
      have HB4 : Hid (Below w.heap.size w _) := hide3 ((HB.out.trans (hb3.mono HB.out.size)).trans ((hal3.mono (Nat.le_trans HB.out.size hb3.size)).trans (hal4.mono (by have := HB.out.size; have := hb3.size; simp; omega))))
      have HMANY : Hid (l.length ≤ 250) := HOK.out.many
      clear hal3 hal4 hb3 HRF hX HX X
      go_wp2_with (at_builtin; refine wpList_append_own_at _ rfl (.tmp 31) (.tmp 33) 63 rfl w.heap.size 77 iH (heldV ((0, 0), 0, [])) 4 40 Tryd.underlying63 hiH zH0 zH1 zH2 rfl (by decide) _ _ _ rfl HROW4.out ⟨w3.heap.size + 1, 0, none⟩ 1 1 (heldCells [l[k]]) rfl rfl ?c1 ?c2 ?c3 ?c4 ?c5 ?_)
      case c1 => exact cell_held (by simp) l[k]
      case c2 => exact heldCells_one _
      case c3 => have := HMANY.out; unfold maxLen; omega
      case c4 => have := HMANY.out; omega
      case c5 => exact HB4.out.size
      intro v5 w5 hown5 hg5 _ hv5
      have HROW5 : Hid (w5.ownsRow w.heap.size 77 4 v5 (k + 1) (heldCells (l.take (k + 1)))) := by
        show World.ownsRow _ _ _ _ _ _ _
        rw [List.take_succ_eq_append_getElem hlt, heldCells_append]
        exact hown5
      have HB5 : Hid (Below w.heap.size w w5) := HB4.out.trans ((off_of_rowgrown hg5).below HB4.out.size (fun j hj e => by have := row_ge HROW4.out e; omega))
      clear hown5 hg5 hv5 HROW4 HB4 HROW HB
      have hkk : k < (l.take (k + 1)).length := by rw [List.length_take]; omega
      have hgk : (l.take (k + 1))[k] = l[k] := by rw [List.getElem_take]
      have HCK := hide3 (checkOne_any v5 (l.take (k + 1)) k w5 hkk (by rw [List.length_take]; have := HMANY.out; omega) (HeldsAt.of_row (by rw [show (l.take (k + 1)).length = k + 1 by rw [List.length_take]; omega]; exact HROW5.out)) (by rw [hgk]; exact (HOK.out.each _ (List.getElem_mem hlt)).1) (by rw [hgk]; exact (HOK.out.each _ (List.getElem_mem hlt)).2.1.2) (fun h0 => by
        rw [List.getElem_take, hgk]
        exact List.pairwise_iff_getElem.1 HOK.out.rise (k - 1) k (by omega) hlt (by omega)))
      clear hkk hgk
      go_wp2_with fail
      refine HCK.out.mono ?_
      rintro e w6 ⟨rfl, hb6⟩
      have HROW6 := hide3 (row_below HROW5.out hb6)
      have HB6 : Hid (Below w.heap.size w w6) := HB5.out.trans (hb6.mono HB5.out.size)
      clear hb6 HCK HROW5 HB5
      go_wp2_with fail
      go_roundw
      case rel => exact ⟨k + 1, _, hlt, rfl, by show _ = _; rfl, HROW6.out, HB6.out⟩
      case measure =>
        have h1 : s.size = (hText l[k]).length + (hsText (l.drop (k + 1))).length := by rw [← hss, HSK.out, hsText_drop l k hlt, List.length_append]
        have h2 : (hText l[k]).length ≠ 0 := fun e => hText_ne l[k] (List.length_eq_zero_iff.1 e)
        have h3 : (⟨(hsText (l.drop (k + 1))).toArray⟩ : ByteArray).size = (hsText (l.drop (k + 1))).length := by simp [ByteArray.size]
        simp only [strOf, h3]
        omega
    · have hkl : k = l.length := by omega
      subst hkl
      have he : s = ⟨#[]⟩ := by
        apply ByteArray.ext
        apply Array.toList_inj.1
        rw [HSK.out, List.drop_length]
        rfl
      subst he
      rw [List.take_length] at HROW
      go_wp2_with fail
      go_ret2
      exact ⟨_, rfl, HeldsAt.of_row HROW.out, HB.out⟩
end Go.Proofs.YtmjdgakokldliaaDoor
