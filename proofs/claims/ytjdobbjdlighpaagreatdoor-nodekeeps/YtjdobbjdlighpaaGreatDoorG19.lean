/-
  Own text. NodeKeeps over the contracts of package node: it returns true whatever the acts.
-/
import Derived.Test.YtjdobbjdlighpaaGreatDoorG16
import Derived.Test.YtjdobbjdlighpaaGreatDoorG17
import Derived.Test.YtjdobbjdlighpaaGreatDoorG18
namespace Go.Proofs.YtjdobbjdlighpaaGreatDoor
open Go.RowKit Go.Maps

structure KeepI (k : Nat) (st : NSt) (NM : List NFile) : Prop where
  files : st.files = NM.reverse
  inv : NInv st
  ok : NOk (4000 * k) k st
  many : NM.length ≤ k
theorem KeepI.start : KeepI 0 ⟨[], []⟩ [] := ⟨rfl, NInv.empty, NOk.empty.mono (by simp) (Nat.le_refl _), Nat.le_refl _⟩
theorem KeepI.more {k : Nat} {st : NSt} {NM : List NFile} (h : KeepI k st NM) : KeepI (k + 1) st NM := ⟨h.files, h.inv, h.ok.mono (by push_cast; omega) (by omega), by have := h.many; omega⟩
theorem KeepI.put {k : Nat} {st : NSt} {NM : List NFile} (h : KeepI k st NM) {nm s : List UInt8} (he : (nPut st nm s).2.1 = 0) : KeepI (k + 1) (nPut st nm s).2.2 (NM ++ [(nm, s)]) := by
  have hok := (h.ok.put (by omega) nm s).mono (V := 4000 * ((k + 1 : Nat) : Int)) (m := k + 1) (by push_cast; omega) (Nat.le_refl _)
  refine ⟨?_, h.inv.put h.ok (by omega) nm s, hok, by rw [List.length_append]; have := h.many; simp; omega⟩
  rcases nPut_cases st nm s with ⟨h1, _⟩ | ⟨_, _, e⟩
  · exact absurd he h1
  · rw [e, List.reverse_append]
    simp [h.files]
theorem KeepI.unput {k : Nat} {st : NSt} {NM : List NFile} (h : KeepI k st NM) {nm s : List UInt8} (he : (nPut st nm s).2.1 ≠ 0) : KeepI (k + 1) (nPut st nm s).2.2 NM := by
  rcases nPut_cases st nm s with ⟨_, _, e⟩ | ⟨_, _, e⟩
  · rw [e]
    exact h.more
  · rw [e] at he
    exact absurd rfl he
def keepNo (NM : List NFile) (nm : List UInt8) : List NFile := NM.filter (fun f => !decide (f.1 = nm))
theorem nDrop_files (st : NSt) (nm : List UInt8) : (nDrop st nm).2.files = st.files.filter (fun f => !decide (f.1 = nm)) := by
  unfold nDrop
  cases hf : nFile st.files nm with
  | none =>
    refine (List.filter_eq_self.2 fun f hm => ?_).symm
    have := nFile_none hf f hm
    simp [this]
  | some s =>
    simp only
    split <;> rfl
theorem KeepI.drop {k : Nat} {st : NSt} {NM : List NFile} (h : KeepI k st NM) (nm : List UInt8) : KeepI (k + 1) (nDrop st nm).2 (keepNo NM nm) :=
  ⟨by rw [nDrop_files, h.files, List.filter_reverse]; rfl, h.inv.drop h.ok nm, (h.ok.drop nm).mono (by push_cast; omega) (by omega), Nat.le_trans (List.length_filter_le _ _) (by have := h.many; omega)⟩
theorem KeepI.sweep {k : Nat} {st : NSt} {NM : List NFile} (h : KeepI k st NM) : KeepI (k + 1) (nSweep st).2 NM :=
  ⟨h.files, h.inv.sweep, h.ok.sweep.mono (by push_cast; omega) (by omega), by have := h.many; omega⟩
theorem KeepI.told {k : Nat} {st : NSt} {NM : List NFile} (h : KeepI k st NM) (nm : List UInt8) : ((nDrop st nm).1 = 0 ∧ (keepNo NM nm).length < NM.length) ∨ ((nDrop st nm).1 = 5 ∧ NM = keepNo NM nm) := by
  unfold nDrop
  cases hf : nFile st.files nm with
  | none =>
    refine .inr ⟨rfl, ?_⟩
    refine (List.filter_eq_self.2 fun f hm => ?_).symm
    have := nFile_none hf f (by rw [h.files]; exact List.mem_reverse.2 hm)
    simp [this]
  | some s =>
    refine .inl ⟨by simp only; split <;> rfl, ?_⟩
    have hm : (nm, s) ∈ NM := by have := nFile_some hf; rw [h.files] at this; exact List.mem_reverse.1 this
    refine Nat.lt_of_le_of_ne (List.length_filter_le _ _) fun e => ?_
    have := List.length_filter_eq_length_iff.1 e _ hm
    simp at this
theorem keepNo_snoc {NM : List NFile} {nm : List UInt8} {j : Nat} (hj : j < NM.length) : keepNo (NM.take (j + 1)) nm = if NM[j].1 = nm then keepNo (NM.take j) nm else keepNo (NM.take j) nm ++ [NM[j]] := by
  rw [List.take_succ_eq_append_getElem hj, keepNo, List.filter_append]
  by_cases e : NM[j].1 = nm
  · simp [keepNo, e]
  · simp [keepNo, e]
set_option maxRecDepth 100000 in
set_option maxHeartbeats 16000000 in
theorem nodeKeeps_any (a : Nat → Addr) (vl : Value) (l : List Act3) (other : ByteArray) (w : World) (hE : ErrE [1, 2, 3, 4, 5, 6, 8, 9, 10] w a) (hv : Acts3At w vl l) :
    Calls Tryz.prog 6 #[vl, .string other] w fun e w' => e = .returned (.bool true) ∧ Below w.heap.size w w' := by
  have HEE : Hid (∀ W, Below w.heap.size w W → ErrE [1, 2, 3, 4, 5, 6, 8, 9, 10] W a) := fun W hb => hE.below hb (Nat.le_refl _)
  have HV : Hid (Acts3At w vl l) := hv
  obtain ⟨pa, ca, rfl, _⟩ := hv
  obtain ⟨iS, hiS, zS0, zS1, zS2⟩ := info_parts infoStrK
  have HGL : Hid (∀ i, ([4, 10] : List Nat).contains i = true → errG i < w.heap.size) := fun i hi => lt_of_cell (hE.glob i (by
    have : i = 4 ∨ i = 10 := by simpa using hi
    rcases this with rfl | rfl <;> rfl))
  clear hE
  go_enter Tryz.func6, Tryz.ntmps6
  go_wp2_with fail
  refine (noded_any a w ((HEE.out _ (Below.refl _ _)).sub (by decide))).mono ?_
  rintro e w1 ⟨rfl, hb1⟩
  have HB1 := hideN hb1
  clear hb1
  go_wp2_with fail
  refine (longActs3_any _ l 60 w1 (by decide) (HV.out.below HB1.out)).mono ?_
  rintro e w2 ⟨n, rfl, hw2, hn, h0⟩
  subst hw2
  rcases hn with rfl | rfl
  rotate_left
  · go_wp2_with fail
    go_ret
    exact ⟨rfl, HB1.out⟩
  obtain ⟨hlen, hfit⟩ := h0 rfl
  have HFIT := hideN hfit
  have hlen' : (l.length : Int) ≤ 60 := by omega
  clear h0 hfit
  by_cases hot : other.size ≤ 30
  rotate_left
  · have hot' : (30 : Int) < (other.size : Int) := by omega
    go_wp2_with fail
    go_ret
    exact ⟨rfl, HB1.out⟩
  have hot' : ¬ (30 : Int) < (other.size : Int) := by omega
  go_wp2_with fail
  refine (nNew_any w2).mono ?_
  rintro e w3 ⟨p, F0, rfl, hP3, hF3, hb3⟩
  have HS3 : Hid (KeepSt w w3 p F0 ⟨[], []⟩ [(.slice none 0 0, ([] : List NFile).map (·.1)), (.slice none 0 0, ([] : List NFile).map (·.2))]) := ⟨HB1.out.trans (hb3.mono HB1.out.size), hP3, fun j hj => Nat.le_trans HB1.out.size (hF3 j hj), (TRows.nil w w3 F0).snoc.snoc⟩
  clear hP3 hF3 hb3 HB1
  go_wp2_with fail
  go_loopw [7, 8, 9] (fun vn vt iv wr => ∃ (k : Nat) (st : NSt) (F' : Nat → Prop) (NM : List NFile), k ≤ l.length ∧ iv = .int .i64 k ∧ Hid (KeepI k st NM) ∧ Hid (KeepSt w wr p F' st [(vn, NM.map (·.1)), (vt, NM.map (·.2))])) (fun _ _ iv _ => l.length - (intOf iv).toNat)
  case atStart => exact ⟨0, ⟨[], []⟩, F0, [], Nat.zero_le _, rfl, KeepI.start, HS3.out⟩
  case round =>
    clear HS3
    obtain ⟨k, st, F', NM, hk, rfl, HI, HS⟩ := hrel
    by_cases hlt : k < l.length
    · have hlt' : (k : Int) < (l.length : Int) := by omega
      have hk0 : (0 : Int) ≤ (k : Int) := by omega
      obtain ⟨_, _, hve, hcell⟩ := HV.out.below HS.out.below
      obtain ⟨rfl, rfl⟩ : pa = _ ∧ ca = _ := by simpa using hve
      obtain ⟨b, o, rfl, _, c0, c1, c2⟩ := hcell k hlt
      obtain ⟨ht1, ht2⟩ := HFIT.out k hlt
      obtain ⟨⟨y1, y2, y3⟩, hy⟩ : ∃ y, l[k] = y := ⟨_, rfl⟩
      rw [hy] at c0 c1 c2 ht1 ht2
      simp only at c0 c1 c2 ht1 ht2
      clear hy hcell hve
      have hal := (Below.refl wr.heap.size wr).alloc (Nat.le_refl _) (.cells #[.string y1, .string y2, .string y3] 86)
      have HBA := hideN (Blk.new wr #[.string y1, .string y2, .string y3] 86)
      have HS1 := hideN (HS.out.next hal)
      have HFW : Hid (∀ j, F' j → j < wr.heap.size) := HS.out.node.lt
      have HRW : Hid (∀ r ∈ [(u7, NM.map (·.1)), (u8, NM.map (·.2))], ∀ j, r.1.ownBlock = some j → j < wr.heap.size) := fun r hr j hj => row_lt (HS.out.rows.own r hr) hj
      have HNL : Hid (NM.length ≤ 60) := Nat.le_trans HI.out.many (by omega)
      have a0 := HBA.out.cell (i := 0) rfl
      have a1 := HBA.out.cell (i := 1) rfl
      have a2 := HBA.out.cell (i := 2) rfl
      have HKB : Hid (4000 * (k : Int) + 5000 ≤ 1000000) := by show _ ≤ _; omega
      by_cases hput : y1 = ⟨#[112, 117, 116]⟩
      · subst hput
        have HPUT := hideN (fun W (hb : Below w.heap.size w W) (hP : PNode W p F' st) => nodePut_any a y2 y3 p F' (4000 * (k : Int)) st W (by omega) (by omega) ⟨by omega, by omega⟩ HI.out.ok.bins (by have := HI.out.ok.many; omega) ((HEE.out _ hb).sub (by decide)) hP)
        have HYES := hideN (fun h => HI.out.put (nm := y2.data.toList) (s := y3.data.toList) h)
        have HNO := hideN (fun h => HI.out.unput (nm := y2.data.toList) (s := y3.data.toList) h)
        obtain ⟨⟨fr, ec, stB⟩, hr⟩ : ∃ r, nPut st y2.data.toList y3.data.toList = r := ⟨_, rfl⟩
        unfold NPutPost at HPUT
        rw [hr] at HPUT HYES HNO
        simp only at HPUT HYES HNO
        clear hr
        go_wp2_with fail
        generalize wr.alloc (.cells #[.string ⟨#[112, 117, 116]⟩, .string y2, .string y3] 86) = W1 at *
        refine (HPUT.out W1 HS1.out.below HS1.out.node).mono ?_
        rintro e w4 ⟨ev4, FB, rfl, he4, hP4, hF4, ho4⟩
        have HS4 := hideN (HS1.out.prog hP4 hF4 ho4)
        have HBA4 := hideN (ho4.blk HBA.out (fun hf => by have := HFW.out _ hf; omega))
        have HSZ4 : Hid (wr.heap.size < w4.heap.size) := HBA4.out.lt
        have HE4 := hideN he4
        clear hP4 hF4 ho4 he4 a0 a1 a2 HS1 HBA
        have a1 := HBA4.out.cell (i := 1) rfl
        have a2 := HBA4.out.cell (i := 2) rfl
        by_cases hec : ec = 0
        · subst hec
          obtain rfl := HE4.out.nil
          have HIB := hideN (HYES.out rfl)
          obtain ⟨NB, hNB⟩ : ∃ NB, NM ++ [(y2.data.toList, y3.data.toList)] = NB := ⟨_, rfl⟩
          have HNB := hideN hNB
          rw [hNB] at HIB
          clear HYES HNO HE4 HPUT hNB
          go_wp2_with (at_builtin; refine wpList_append_own_at _ rfl (.tmp 65) (.tmp 68) 31 rfl w.heap.size 9 iS (.string ⟨#[]⟩) 1 16 Tryz.underlying31 hiS zS0 zS1 zS2 rfl (by decide) _ _ _ rfl ((HS4.out.rows.own _ (List.mem_cons_self ..)).alloc _) ⟨w4.heap.size, 0, none⟩ 1 1 [.string y2] rfl rfl ?c1 ?c2 ?c3 ?c4 ?c5 ?_)
          case c1 => exact cell_one_atK rfl
          case c2 => intro u hu; simp at hu; subst hu; rfl
          case c3 => have := HNL.out; unfold maxLen; first | omega | (simp only [List.length_map]; omega)
          case c4 => have := HNL.out; first | omega | (simp only [List.length_map]; omega)
          case c5 => have := HS4.out.below.size; simp; omega
          intro v5 w5 hown5 hg5 _ hv5
          have hal4 := (Below.refl w4.heap.size w4).alloc (Nat.le_refl _) (.cells #[.string y2] 9)
          have HS5 := hideN ((HS4.out.next hal4).app (A := []) (B := [(u8, NM.map (·.2))]) hg5 (text_rowK (log := NM.map (·.1)) (by simpa using hown5)) (by simpa using hv5))
          have HBA5 := hideN ((off_of_rowgrown hg5).blk (HBA4.out.next hal4) (fun e => by have := HRW.out _ (List.mem_cons_self ..) _ e; omega))
          clear hown5 hg5 hv5 hal4 a1 a2 HS4 HBA4
          have a2 := HBA5.out.cell (i := 2) rfl
          simp only [List.nil_append] at HS5
          go_wp2_with (at_builtin; refine wpList_append_own_at _ rfl (.tmp 70) (.tmp 73) 31 rfl w.heap.size 9 iS (.string ⟨#[]⟩) 1 16 Tryz.underlying31 hiS zS0 zS1 zS2 rfl (by decide) _ _ _ rfl ((HS5.out.rows.own _ (List.mem_cons_of_mem _ (List.mem_cons_self ..))).alloc _) ⟨w5.heap.size, 0, none⟩ 1 1 [.string y3] rfl rfl ?c1 ?c2 ?c3 ?c4 ?c5 ?_)
          case c1 => exact cell_one_atK rfl
          case c2 => intro u hu; simp at hu; subst hu; rfl
          case c3 => have := HNL.out; unfold maxLen; first | omega | (simp only [List.length_map]; omega)
          case c4 => have := HNL.out; first | omega | (simp only [List.length_map]; omega)
          case c5 => have := HS5.out.below.size; simp; omega
          intro v6 w6 hown6 hg6 _ hv6
          have hal5 := (Below.refl w5.heap.size w5).alloc (Nat.le_refl _) (.cells #[.string y3] 9)
          have HSB := hideN ((HS5.out.next hal5).app (A := [(v5, NM.map (·.1) ++ [y2.data.toList])]) (B := []) hg6 (text_rowK (log := NM.map (·.2)) (by simpa using hown6)) (by simpa using hv6))
          clear hown6 hg6 hv6 hal5 a2 HS5 HBA5
          have e1 : NM.map (·.1) ++ [y2.data.toList] = NB.map (·.1) := by rw [← HNB.out, List.map_append]; rfl
          have e2 : NM.map (·.2) ++ [y3.data.toList] = NB.map (·.2) := by rw [← HNB.out, List.map_append]; rfl
          simp only [List.cons_append, List.nil_append, e1, e2] at HSB
          clear e1 e2

          obtain ⟨pn, cn, hvn⟩ := HSB.out.rows.shape (List.mem_cons_self ..)
          obtain ⟨pt, ct, hvt⟩ := HSB.out.rows.shape (List.mem_cons_of_mem _ (List.mem_cons_self ..))
          rw [List.length_map] at hvn hvt
          subst hvn hvt
          have hnbl : (NB.length : Int) ≤ 60 := by have := HIB.out.many; omega
          go_wp2_with fail
          go_loopw [17] (fun jv wr3 => ∃ (j : Nat), j ≤ NB.length ∧ jv = .int .i64 j ∧ Hid (KeepSt w wr3 p FB stB [(.slice pn NB.length cn, NB.map (·.1)), (.slice pt NB.length ct, NB.map (·.2))])) (fun jv _ => NB.length - (intOf jv).toNat)
          case atStart => exact ⟨0, Nat.zero_le _, rfl, HSB.out⟩
          case round =>
            clear HSB
            obtain ⟨j, hj, rfl, HS3⟩ := hrel
            by_cases hjl : j < NB.length
            · have hjl' : (j : Int) < (NB.length : Int) := by omega
              have hj0 : (0 : Int) ≤ (j : Int) := by omega
              have hne1 : NB.map (·.1) ≠ [] := fun e => by have := congrArg List.length e; simp at this; rw [this] at hjl; simp at hjl
              have hne2 : NB.map (·.2) ≠ [] := fun e => by have := congrArg List.length e; simp at this; rw [this] at hjl; simp at hjl
              obtain ⟨⟨x1, x2⟩, hx⟩ : ∃ x, NB[j] = x := ⟨_, rfl⟩
              have HCL : Hid (∃ gn gt, pn = some ⟨gn, 0, none⟩ ∧ pt = some ⟨gt, 0, none⟩ ∧ ∀ W, KeepSt w W p FB stB [(.slice pn NB.length cn, NB.map (·.1)), (.slice pt NB.length ct, NB.map (·.2))] → W.cell? ⟨gn, j, none⟩ = some (.string ⟨x1.toArray⟩) ∧ W.cell? ⟨gt, j, none⟩ = some (.string ⟨x2.toArray⟩)) := by
                obtain ⟨gn, cn', h1, _⟩ := HS3.out.rows.cell (List.mem_cons_self ..) hne1
                obtain ⟨gt, ct', h2, _⟩ := HS3.out.rows.cell (List.mem_cons_of_mem _ (List.mem_cons_self ..)) hne2
                obtain ⟨rfl, _⟩ : pn = some ⟨gn, 0, none⟩ ∧ cn = cn' := by simpa using h1
                obtain ⟨rfl, _⟩ : pt = some ⟨gt, 0, none⟩ ∧ ct = ct' := by simpa using h2
                refine ⟨gn, gt, rfl, rfl, fun W h => ?_⟩
                obtain ⟨gn', cn'', k1, k2⟩ := h.rows.cell (List.mem_cons_self ..) hne1
                obtain ⟨gt', ct'', k3, k4⟩ := h.rows.cell (List.mem_cons_of_mem _ (List.mem_cons_self ..)) hne2
                obtain ⟨rfl, _⟩ : gn = gn' ∧ cn = cn'' := by simpa using k1
                obtain ⟨rfl, _⟩ : gt = gt' ∧ ct = ct'' := by simpa using k3
                have e1 := k2 j (by simpa using hjl)
                have e2 := k4 j (by simpa using hjl)
                rw [List.getElem_map, hx] at e1 e2
                exact ⟨e1, e2⟩
              have hmem : (x1, x2) ∈ stB.files := by rw [HIB.out.files]; exact List.mem_reverse.2 (hx ▸ List.getElem_mem hjl)
              obtain ⟨g1, bl, g2, g3⟩ := HIB.out.inv.got HIB.out.ok hmem
              obtain ⟨g4, g5⟩ := HIB.out.ok.files _ hmem
              have HGET := hideN (fun W (hb : Below w.heap.size w W) (hP : PNode W p FB stB) => nodeGet_some a ⟨x1.toArray⟩ p FB stB W x2 bl (by have := isName_len g5; show x1.toArray.size ≤ 50000; rw [List.size_toArray]; simp only at this; omega) g1 g2 g3 g5 g4 ((HEE.out _ hb).sub (by decide)) hP)
              obtain ⟨gn, gt, rfl, rfl, hcl⟩ := HCL.out
              have HCC := hideN hcl
              obtain ⟨X1, hX1⟩ : ∃ X1 : ByteArray, (⟨x1.toArray⟩ : ByteArray) = X1 := ⟨_, rfl⟩
              obtain ⟨X2, hX2⟩ : ∃ X2 : ByteArray, (⟨x2.toArray⟩ : ByteArray) = X2 := ⟨_, rfl⟩
              rw [hX1, hX2] at HCC
              rw [hX1, hX2] at HGET
              obtain ⟨c0, _⟩ := HCC.out _ HS3.out
              clear hX1 hX2 hcl HCL hne1 hne2 hx hmem g1 g2 g3 g4 g5
              go_wp2_with fail
              refine (HGET.out wr HS3.out.below HS3.out.node).mono ?_
              rintro e w5 ⟨rfl, hb5⟩
              have HS5 := hideN (HS3.out.next hb5)
              clear hb5 c0 HS3
              obtain ⟨_, c1⟩ := HCC.out _ HS5.out
              go_wp2_with fail
              go_roundw
              case rel => exact ⟨j + 1, hjl, by go_num, HS5.out⟩
              case measure => simp [intOf]; omega
            · have hge : (NB.length : Int) ≤ (j : Int) := by omega
              go_wp2_with fail
              go_roundw
              case rel => exact ⟨k + 1, stB, FB, NB, hlt, by go_num, HIB.out, HS3.out⟩
              case measure => simp [intOf]; omega
        · obtain ⟨t4, x4, rfl⟩ : ∃ t u, ev4 = .iface t u := by
            rcases HE4.out with ⟨_, hf⟩ | ⟨_, _, hv, _⟩ | ⟨_, _, _, _, _, _, hv, _⟩
            · exact (hec (Prod.mk.inj hf).1).elim
            · exact ⟨_, _, hv⟩
            · exact ⟨_, _, hv⟩
          have HIB := hideN (HNO.out hec)
          have HSB := hideN HS4.out
          clear HYES HNO HE4 HPUT hec a1 a2 HS4

          obtain ⟨pn, cn, hvn⟩ := HSB.out.rows.shape (List.mem_cons_self ..)
          obtain ⟨pt, ct, hvt⟩ := HSB.out.rows.shape (List.mem_cons_of_mem _ (List.mem_cons_self ..))
          rw [List.length_map] at hvn hvt
          subst hvn hvt
          have hnbl : (NM.length : Int) ≤ 60 := by have := HIB.out.many; omega
          go_wp2_with fail
          go_loopw [17] (fun jv wr3 => ∃ (j : Nat), j ≤ NM.length ∧ jv = .int .i64 j ∧ Hid (KeepSt w wr3 p FB stB [(.slice pn NM.length cn, NM.map (·.1)), (.slice pt NM.length ct, NM.map (·.2))])) (fun jv _ => NM.length - (intOf jv).toNat)
          case atStart => exact ⟨0, Nat.zero_le _, rfl, HSB.out⟩
          case round =>
            clear HSB
            obtain ⟨j, hj, rfl, HS3⟩ := hrel
            by_cases hjl : j < NM.length
            · have hjl' : (j : Int) < (NM.length : Int) := by omega
              have hj0 : (0 : Int) ≤ (j : Int) := by omega
              have hne1 : NM.map (·.1) ≠ [] := fun e => by have := congrArg List.length e; simp at this; rw [this] at hjl; simp at hjl
              have hne2 : NM.map (·.2) ≠ [] := fun e => by have := congrArg List.length e; simp at this; rw [this] at hjl; simp at hjl
              obtain ⟨⟨x1, x2⟩, hx⟩ : ∃ x, NM[j] = x := ⟨_, rfl⟩
              have HCL : Hid (∃ gn gt, pn = some ⟨gn, 0, none⟩ ∧ pt = some ⟨gt, 0, none⟩ ∧ ∀ W, KeepSt w W p FB stB [(.slice pn NM.length cn, NM.map (·.1)), (.slice pt NM.length ct, NM.map (·.2))] → W.cell? ⟨gn, j, none⟩ = some (.string ⟨x1.toArray⟩) ∧ W.cell? ⟨gt, j, none⟩ = some (.string ⟨x2.toArray⟩)) := by
                obtain ⟨gn, cn', h1, _⟩ := HS3.out.rows.cell (List.mem_cons_self ..) hne1
                obtain ⟨gt, ct', h2, _⟩ := HS3.out.rows.cell (List.mem_cons_of_mem _ (List.mem_cons_self ..)) hne2
                obtain ⟨rfl, _⟩ : pn = some ⟨gn, 0, none⟩ ∧ cn = cn' := by simpa using h1
                obtain ⟨rfl, _⟩ : pt = some ⟨gt, 0, none⟩ ∧ ct = ct' := by simpa using h2
                refine ⟨gn, gt, rfl, rfl, fun W h => ?_⟩
                obtain ⟨gn', cn'', k1, k2⟩ := h.rows.cell (List.mem_cons_self ..) hne1
                obtain ⟨gt', ct'', k3, k4⟩ := h.rows.cell (List.mem_cons_of_mem _ (List.mem_cons_self ..)) hne2
                obtain ⟨rfl, _⟩ : gn = gn' ∧ cn = cn'' := by simpa using k1
                obtain ⟨rfl, _⟩ : gt = gt' ∧ ct = ct'' := by simpa using k3
                have e1 := k2 j (by simpa using hjl)
                have e2 := k4 j (by simpa using hjl)
                rw [List.getElem_map, hx] at e1 e2
                exact ⟨e1, e2⟩
              have hmem : (x1, x2) ∈ stB.files := by rw [HIB.out.files]; exact List.mem_reverse.2 (hx ▸ List.getElem_mem hjl)
              obtain ⟨g1, bl, g2, g3⟩ := HIB.out.inv.got HIB.out.ok hmem
              obtain ⟨g4, g5⟩ := HIB.out.ok.files _ hmem
              have HGET := hideN (fun W (hb : Below w.heap.size w W) (hP : PNode W p FB stB) => nodeGet_some a ⟨x1.toArray⟩ p FB stB W x2 bl (by have := isName_len g5; show x1.toArray.size ≤ 50000; rw [List.size_toArray]; simp only at this; omega) g1 g2 g3 g5 g4 ((HEE.out _ hb).sub (by decide)) hP)
              obtain ⟨gn, gt, rfl, rfl, hcl⟩ := HCL.out
              have HCC := hideN hcl
              obtain ⟨X1, hX1⟩ : ∃ X1 : ByteArray, (⟨x1.toArray⟩ : ByteArray) = X1 := ⟨_, rfl⟩
              obtain ⟨X2, hX2⟩ : ∃ X2 : ByteArray, (⟨x2.toArray⟩ : ByteArray) = X2 := ⟨_, rfl⟩
              rw [hX1, hX2] at HCC
              rw [hX1, hX2] at HGET
              obtain ⟨c0, _⟩ := HCC.out _ HS3.out
              clear hX1 hX2 hcl HCL hne1 hne2 hx hmem g1 g2 g3 g4 g5
              go_wp2_with fail
              refine (HGET.out wr HS3.out.below HS3.out.node).mono ?_
              rintro e w5 ⟨rfl, hb5⟩
              have HS5 := hideN (HS3.out.next hb5)
              clear hb5 c0 HS3
              obtain ⟨_, c1⟩ := HCC.out _ HS5.out
              go_wp2_with fail
              go_roundw
              case rel => exact ⟨j + 1, hjl, by go_num, HS5.out⟩
              case measure => simp [intOf]; omega
            · have hge : (NM.length : Int) ≤ (j : Int) := by omega
              go_wp2_with fail
              go_roundw
              case rel => exact ⟨k + 1, stB, FB, NM, hlt, by go_num, HIB.out, HS3.out⟩
              case measure => simp [intOf]; omega
      · by_cases hdrop : y1 = ⟨#[100, 114, 111, 112]⟩
        · subst hdrop
          have n1 : ((⟨#[100, 114, 111, 112]⟩ : ByteArray).toList == [112, 117, 116]) = false := strK_ne_lit hput
          clear hput
          have HDROP := hideN (fun W (hb : Below w.heap.size w W) (hP : PNode W p F' st) (hn : ∀ j, F' j → w.heap.size ≤ j) => nodeDrop_any a y2 p F' st W (by omega) (fun b hb => (HI.out.ok.bins b hb).mono (by omega)) (fun f hf => (HI.out.ok.files f hf).1) HI.out.inv.has ((HEE.out _ hb).sub (by decide)) (fun i hi hf => by have h1 := HGL.out i hi; have h2 := hn _ hf; omega) hP)
          have HTOLD := hideN (HI.out.told y2.data.toList)
          have HIB := hideN (HI.out.drop y2.data.toList)
          obtain ⟨⟨dc, stB⟩, hr⟩ : ∃ r, nDrop st y2.data.toList = r := ⟨_, rfl⟩
          obtain ⟨NB, hNB⟩ : ∃ NB, keepNo NM y2.data.toList = NB := ⟨_, rfl⟩
          have HNB := hideN hNB
          unfold NDropPost at HDROP
          rw [hr] at HDROP HTOLD HIB
          rw [hNB] at HTOLD HIB
          simp only at HDROP HTOLD HIB
          clear hr hNB
          obtain ⟨pm, cm, hvm⟩ := HS1.out.rows.shape (List.mem_cons_self ..)
          rw [List.length_map] at hvm
          subst hvm
          have hnml : (NM.length : Int) ≤ 60 := by have := HNL.out; omega
          go_wp2_with fail
          generalize wr.alloc (.cells #[.string ⟨#[100, 114, 111, 112]⟩, .string y2, .string y3] 86) = W1 at *
          have HS2 : Hid (KeepSt w W1 p F' st [(.slice pm NM.length cm, NM.map (·.1)), (u8, NM.map (·.2)), (.slice none 0 0, (keepNo (NM.take 0) y2.data.toList).map (·.1)), (.slice none 0 0, (keepNo (NM.take 0) y2.data.toList).map (·.2))]) := ⟨HS1.out.below, HS1.out.node, HS1.out.new, HS1.out.rows.snoc.snoc⟩
          obtain ⟨RB, hRB⟩ : ∃ RB, wr.heap.size = RB := ⟨_, rfl⟩
          have HFW2 : Hid (∀ j, F' j → j < RB) := by rw [← hRB]; exact HFW.out
          have HBA2 : Hid (Blk W1 RB #[.string ⟨#[100, 114, 111, 112]⟩, .string y2, .string y3] 86) := by rw [← hRB]; exact HBA.out
          have HRW2 : Hid (∀ r ∈ [(Value.slice pm NM.length cm, NM.map (·.1)), (u8, NM.map (·.2))], ∀ j, r.1.ownBlock = some j → j < RB) := by rw [← hRB]; exact HRW.out
          rw [hRB]
          clear hRB a0 a1 a2 HBA HFW HRW HS HS1 hal c0 c1 c2
          go_loopw [13, 14, 15] (fun vx vy jv wr2 => ∃ (j : Nat), j ≤ NM.length ∧ jv = .int .i64 j ∧ Hid (KeepSt w wr2 p F' st [(.slice pm NM.length cm, NM.map (·.1)), (u8, NM.map (·.2)), (vx, (keepNo (NM.take j) y2.data.toList).map (·.1)), (vy, (keepNo (NM.take j) y2.data.toList).map (·.2))]) ∧ Hid (Blk wr2 RB #[.string ⟨#[100, 114, 111, 112]⟩, .string y2, .string y3] 86) ∧ Hid (∀ r ∈ [(vx, ()), (vy, ())], ∀ j, r.1.ownBlock = some j → j ≠ RB)) (fun _ _ jv _ => NM.length - (intOf jv).toNat)
          case atStart => exact ⟨0, Nat.zero_le _, rfl, HS2.out, HBA2.out, fun r hr j hj => by simp at hr; subst hr; simp [Value.ownBlock] at hj⟩
          case round =>
            clear HS2 HBA2
            obtain ⟨j, hj, rfl, HS3, HBA3, HRX⟩ := hrel
            have a1 := HBA3.out.cell (i := 1) rfl
            by_cases hjl : j < NM.length
            · have hjl' : (j : Int) < (NM.length : Int) := by omega
              have hj0 : (0 : Int) ≤ (j : Int) := by omega
              have hne1 : NM.map (·.1) ≠ [] := fun e => by have := congrArg List.length e; simp at this; rw [this] at hjl; simp at hjl
              have hne2 : NM.map (·.2) ≠ [] := fun e => by have := congrArg List.length e; simp at this; rw [this] at hjl; simp at hjl
              obtain ⟨gn, cn', h1, k2⟩ := HS3.out.rows.cell (List.mem_cons_self ..) hne1
              obtain ⟨gt, ct', h2, k4⟩ := HS3.out.rows.cell (List.mem_cons_of_mem _ (List.mem_cons_self ..)) hne2
              obtain ⟨rfl, rfl⟩ : pm = some ⟨gn, 0, none⟩ ∧ cm = cn' := by simpa using h1
              rw [List.length_map] at h2
              subst h2
              have HKN := hideN (keepNo_snoc (nm := y2.data.toList) hjl)
              have HKL : Hid ((keepNo (NM.take j) y2.data.toList).length ≤ 60) := Nat.le_trans (List.length_filter_le _ _) (by rw [List.length_take]; have := HNL.out; omega)
              obtain ⟨⟨x1, x2⟩, hx⟩ : ∃ x, NM[j] = x := ⟨_, rfl⟩
              have d1 := k2 j (by simpa using hjl)
              have d2 := k4 j (by simpa using hjl)
              rw [List.getElem_map, hx] at d1 d2
              rw [hx] at HKN
              simp only at d1 d2 HKN
              obtain ⟨X1, hX1⟩ : ∃ X1 : ByteArray, (⟨x1.toArray⟩ : ByteArray) = X1 := ⟨_, rfl⟩
              obtain ⟨X2, hX2⟩ : ∃ X2 : ByteArray, (⟨x2.toArray⟩ : ByteArray) = X2 := ⟨_, rfl⟩
              obtain rfl : x1 = X1.data.toList := by rw [← hX1]
              obtain rfl : x2 = X2.data.toList := by rw [← hX2]
              change _ = some (Value.string _) at d1 d2
              rw [hX1] at d1
              rw [hX2] at d2
              have HXJ : Hid (NM[j] = (X1.data.toList, X2.data.toList)) := hx
              clear h1 k2 k4 hne1 hne2 hx hX1 hX2
              by_cases hxy : X1 = y2
              · subst hxy
                rw [if_pos rfl] at HKN
                go_wp2_with fail
                go_quiet (fail)
                have hdr := below_of_grown (grown_drewN wr nq)
                have HS4 := hideN (HS3.out.next hdr)
                have HBA4 := hideN (HBA3.out.next hdr)
                clear d1 d2 a1 hdr HS3 HBA3
                generalize wr.drewN nq = wq at *
                go_wp2_with fail
                go_roundw
                case rel => exact ⟨j + 1, hjl, by go_num, by show KeepSt _ _ _ _ _ _; rw [HKN.out]; exact HS4.out, HBA4.out, HRX.out⟩
                case measure => simp [intOf]; omega
              · have hxn := strK_ne hxy
                have hxd : ¬ X1.data.toList = y2.data.toList := fun e => hxy (by rw [← str_backK X1, e, str_backK])
                rw [if_neg hxd] at HKN
                clear hxy hxd
                go_wp2_with fail
                go_quiet (fail)
                have hdr := below_of_grown (grown_drewN wr nq)
                have HS4 := hideN (HS3.out.next hdr)
                have HBA4 := hideN (HBA3.out.next hdr)
                have d3 : (wr.drewN nq).cell? ⟨gn, j, none⟩ = some (Value.string X1) := d1
                have d4 : (wr.drewN nq).cell? ⟨gt, j, none⟩ = some (Value.string X2) := d2
                clear d1 d2 a1 hdr HS3 HBA3
                generalize wr.drewN nq = wq at *
                go_wp2_with (at_builtin; refine wpList_append_own_at _ rfl (.tmp 90) (.tmp 95) 31 rfl w.heap.size 9 iS (.string ⟨#[]⟩) 1 16 Tryz.underlying31 hiS zS0 zS1 zS2 rfl (by decide) _ _ _ rfl ((HS4.out.rows.own _ (List.mem_cons_of_mem _ (List.mem_cons_of_mem _ (List.mem_cons_self ..)))).alloc _) ⟨wq.heap.size, 0, none⟩ 1 1 [.string X1] rfl rfl ?c1 ?c2 ?c3 ?c4 ?c5 ?_)
                case c1 => exact cell_one_atK rfl
                case c2 => intro u hu; simp at hu; subst hu; rfl
                case c3 => have := HKL.out; unfold maxLen; first | omega | (simp only [List.length_map]; omega)
                case c4 => have := HKL.out; first | omega | (simp only [List.length_map]; omega)
                case c5 => have := HS4.out.below.size; simp; omega
                intro v5 w5 hown5 hg5 _ hv5
                have hal4 := (Below.refl wq.heap.size wq).alloc (Nat.le_refl _) (.cells #[.string X1] 9)
                have HS5 := hideN ((HS4.out.next hal4).app (A := [(.slice (some ⟨gn, 0, none⟩) NM.length cm, NM.map (·.1)), (.slice (some ⟨gt, 0, none⟩) NM.length ct', NM.map (·.2))]) (B := [(u14, (keepNo (NM.take j) y2.data.toList).map (·.2))]) hg5 (text_rowK (log := (keepNo (NM.take j) y2.data.toList).map (·.1)) (by simpa using hown5)) (by simpa using hv5))
                have HBA5 := hideN ((off_of_rowgrown hg5).blk (HBA4.out.next hal4) (fun e => HRX.out _ (List.mem_cons_self ..) _ e rfl))
                have hRBl := HBA4.out.lt
                have HRX5 : Hid (∀ j, v5.ownBlock = some j → j ≠ RB) := fun j hj e => by
                  rcases hv5 with h | h
                  · exact HRX.out _ (List.mem_cons_self ..) j (h ▸ hj) e
                  · rw [h] at hj
                    have := Option.some.inj hj
                    try simp at this
                    omega
                have d2' : w5.cell? ⟨gt, j, none⟩ = some (.string X2) := by
                  obtain ⟨gt', ct'', k3, k4⟩ := HS5.out.rows.cell (v := .slice (some ⟨gt, 0, none⟩) NM.length ct') (t := NM.map (·.2)) (by simp) (fun e => by have := congrArg List.length e; simp at this; rw [this] at hjl; simp at hjl)
                  obtain ⟨rfl, _⟩ : gt = gt' ∧ ct' = ct'' := by simpa using k3
                  have e2 := k4 j (by simpa using hjl)
                  rw [List.getElem_map, HXJ.out] at e2
                  simp only [strB] at e2
                  rw [str_backK] at e2
                  exact e2
                clear hown5 hg5 hv5 hal4 d3 d4
                simp only [List.cons_append, List.nil_append] at HS5
                go_wp2_with (at_builtin; refine wpList_append_own_at _ rfl (.tmp 97) (.tmp 102) 31 rfl w.heap.size 9 iS (.string ⟨#[]⟩) 1 16 Tryz.underlying31 hiS zS0 zS1 zS2 rfl (by decide) _ _ _ rfl ((HS5.out.rows.own _ (List.mem_cons_of_mem _ (List.mem_cons_of_mem _ (List.mem_cons_of_mem _ (List.mem_cons_self ..))))).alloc _) ⟨w5.heap.size, 0, none⟩ 1 1 [.string X2] rfl rfl ?c1 ?c2 ?c3 ?c4 ?c5 ?_)
                case c1 => exact cell_one_atK rfl
                case c2 => intro u hu; simp at hu; subst hu; rfl
                case c3 => have := HKL.out; unfold maxLen; first | omega | (simp only [List.length_map]; omega)
                case c4 => have := HKL.out; first | omega | (simp only [List.length_map]; omega)
                case c5 => have := HS5.out.below.size; simp; omega
                intro v6 w6 hown6 hg6 _ hv6
                have hal5 := (Below.refl w5.heap.size w5).alloc (Nat.le_refl _) (.cells #[.string X2] 9)
                have HS6 := hideN ((HS5.out.next hal5).app (A := [(.slice (some ⟨gn, 0, none⟩) NM.length cm, NM.map (·.1)), (.slice (some ⟨gt, 0, none⟩) NM.length ct', NM.map (·.2)), (v5, (keepNo (NM.take j) y2.data.toList).map (·.1) ++ [X1.data.toList])]) (B := []) hg6 (text_rowK (log := (keepNo (NM.take j) y2.data.toList).map (·.2)) (by simpa using hown6)) (by simpa using hv6))
                have HBA6 := hideN ((off_of_rowgrown hg6).blk (HBA5.out.next hal5) (fun e => HRX.out _ (List.mem_cons_of_mem _ (List.mem_cons_self ..)) _ e rfl))
                have hRBl5 := HBA5.out.lt
                have HRX6 : Hid (∀ r ∈ [(v5, ()), (v6, ())], ∀ j, r.1.ownBlock = some j → j ≠ RB) := fun r hr j hj e => by
                  rcases List.mem_cons.1 hr with rfl | hr
                  · exact HRX5.out j hj e
                  · rw [List.mem_singleton.1 hr] at hj
                    rcases hv6 with h | h
                    · exact HRX.out _ (List.mem_cons_of_mem _ (List.mem_cons_self ..)) j (h ▸ hj) e
                    · rw [h] at hj
                      have := Option.some.inj hj
                      try simp at this
                      omega
                have e1 : (keepNo (NM.take j) y2.data.toList).map (·.1) ++ [X1.data.toList] = (keepNo (NM.take (j + 1)) y2.data.toList).map (·.1) := by rw [HKN.out, List.map_append]; rfl
                have e2 : (keepNo (NM.take j) y2.data.toList).map (·.2) ++ [X2.data.toList] = (keepNo (NM.take (j + 1)) y2.data.toList).map (·.2) := by rw [HKN.out, List.map_append]; rfl
                simp only [List.cons_append, List.nil_append, e1, e2] at HS6
                clear hown6 hg6 hv6 hal5 d2' e1 e2 HS5 HBA5
                go_wp2_with fail
                go_roundw
                case rel => exact ⟨j + 1, hjl, by go_num, HS6.out, HBA6.out, HRX6.out⟩
                case measure => simp [intOf]; omega
            · have hge : (NM.length : Int) ≤ (j : Int) := by omega
              have hje : NM.take j = NM := List.take_of_length_le (by omega)
              rw [hje, HNB.out] at HS3
              obtain ⟨px, cx, hvx⟩ := HS3.out.rows.shape (List.mem_cons_of_mem _ (List.mem_cons_of_mem _ (List.mem_cons_self ..)))
              rw [List.length_map] at hvx
              subst hvx
              clear hje HRX
              go_wp2_with fail
              refine (HDROP.out wr HS3.out.below HS3.out.node HS3.out.new).mono ?_
              rintro e w4 ⟨ev4, FB, rfl, he4, hP4, hF4, ho4⟩
              have HSB : Hid (KeepSt w w4 p FB stB [(.slice px NB.length cx, NB.map (·.1)), (u14, NB.map (·.2))]) := by
                have h := HS3.out.prog hP4 hF4 ho4
                exact ⟨h.below, h.node, h.new, h.rows.sub (.cons _ (.cons _ (List.Sublist.refl _)))⟩
              have HE4 := hideN he4
              clear hP4 hF4 ho4 he4 a1 HS3 HDROP
              rcases HTOLD.out with ⟨rfl, hsz⟩ | ⟨rfl, hsz⟩
              · obtain rfl := HE4.out.nil
                have hsz' : (NB.length : Int) < (NM.length : Int) := by omega
                clear HTOLD HE4 hsz
                obtain ⟨pt, ct, hvt⟩ := HSB.out.rows.shape (List.mem_cons_of_mem _ (List.mem_cons_self ..))
                rw [List.length_map] at hvt
                subst hvt
                have hnbl : (NB.length : Int) ≤ 60 := by have := HIB.out.many; omega
                go_wp2_with fail
                go_loopw [17] (fun jv wr3 => ∃ (j : Nat), j ≤ NB.length ∧ jv = .int .i64 j ∧ Hid (KeepSt w wr3 p FB stB [(.slice px NB.length cx, NB.map (·.1)), (.slice pt NB.length ct, NB.map (·.2))])) (fun jv _ => NB.length - (intOf jv).toNat)
                case atStart => exact ⟨0, Nat.zero_le _, rfl, HSB.out⟩
                case round =>
                  clear HSB
                  obtain ⟨j, hj, rfl, HS3⟩ := hrel
                  by_cases hjl : j < NB.length
                  · have hjl' : (j : Int) < (NB.length : Int) := by omega
                    have hj0 : (0 : Int) ≤ (j : Int) := by omega
                    have hne1 : NB.map (·.1) ≠ [] := fun e => by have := congrArg List.length e; simp at this; rw [this] at hjl; simp at hjl
                    have hne2 : NB.map (·.2) ≠ [] := fun e => by have := congrArg List.length e; simp at this; rw [this] at hjl; simp at hjl
                    obtain ⟨⟨x1, x2⟩, hx⟩ : ∃ x, NB[j] = x := ⟨_, rfl⟩
                    have HCL : Hid (∃ gn gt, px = some ⟨gn, 0, none⟩ ∧ pt = some ⟨gt, 0, none⟩ ∧ ∀ W, KeepSt w W p FB stB [(.slice px NB.length cx, NB.map (·.1)), (.slice pt NB.length ct, NB.map (·.2))] → W.cell? ⟨gn, j, none⟩ = some (.string ⟨x1.toArray⟩) ∧ W.cell? ⟨gt, j, none⟩ = some (.string ⟨x2.toArray⟩)) := by
                      obtain ⟨gn, cn', h1, _⟩ := HS3.out.rows.cell (List.mem_cons_self ..) hne1
                      obtain ⟨gt, ct', h2, _⟩ := HS3.out.rows.cell (List.mem_cons_of_mem _ (List.mem_cons_self ..)) hne2
                      obtain ⟨rfl, _⟩ : px = some ⟨gn, 0, none⟩ ∧ cx = cn' := by simpa using h1
                      obtain ⟨rfl, _⟩ : pt = some ⟨gt, 0, none⟩ ∧ ct = ct' := by simpa using h2
                      refine ⟨gn, gt, rfl, rfl, fun W h => ?_⟩
                      obtain ⟨gn', cn'', k1, k2⟩ := h.rows.cell (List.mem_cons_self ..) hne1
                      obtain ⟨gt', ct'', k3, k4⟩ := h.rows.cell (List.mem_cons_of_mem _ (List.mem_cons_self ..)) hne2
                      obtain ⟨rfl, _⟩ : gn = gn' ∧ cx = cn'' := by simpa using k1
                      obtain ⟨rfl, _⟩ : gt = gt' ∧ ct = ct'' := by simpa using k3
                      have e1 := k2 j (by simpa using hjl)
                      have e2 := k4 j (by simpa using hjl)
                      rw [List.getElem_map, hx] at e1 e2
                      exact ⟨e1, e2⟩
                    have hmem : (x1, x2) ∈ stB.files := by rw [HIB.out.files]; exact List.mem_reverse.2 (hx ▸ List.getElem_mem hjl)
                    obtain ⟨g1, bl, g2, g3⟩ := HIB.out.inv.got HIB.out.ok hmem
                    obtain ⟨g4, g5⟩ := HIB.out.ok.files _ hmem
                    have HGET := hideN (fun W (hb : Below w.heap.size w W) (hP : PNode W p FB stB) => nodeGet_some a ⟨x1.toArray⟩ p FB stB W x2 bl (by have := isName_len g5; show x1.toArray.size ≤ 50000; rw [List.size_toArray]; simp only at this; omega) g1 g2 g3 g5 g4 ((HEE.out _ hb).sub (by decide)) hP)
                    obtain ⟨gn, gt, rfl, rfl, hcl⟩ := HCL.out
                    have HCC := hideN hcl
                    obtain ⟨X1, hX1⟩ : ∃ X1 : ByteArray, (⟨x1.toArray⟩ : ByteArray) = X1 := ⟨_, rfl⟩
                    obtain ⟨X2, hX2⟩ : ∃ X2 : ByteArray, (⟨x2.toArray⟩ : ByteArray) = X2 := ⟨_, rfl⟩
                    rw [hX1, hX2] at HCC
                    rw [hX1, hX2] at HGET
                    obtain ⟨c0, _⟩ := HCC.out _ HS3.out
                    clear hX1 hX2 hcl HCL hne1 hne2 hx hmem g1 g2 g3 g4 g5
                    go_wp2_with fail
                    refine (HGET.out wr HS3.out.below HS3.out.node).mono ?_
                    rintro e w5 ⟨rfl, hb5⟩
                    have HS5 := hideN (HS3.out.next hb5)
                    clear hb5 c0 HS3
                    obtain ⟨_, c1⟩ := HCC.out _ HS5.out
                    go_wp2_with fail
                    go_roundw
                    case rel => exact ⟨j + 1, hjl, by go_num, HS5.out⟩
                    case measure => simp [intOf]; omega
                  · have hge : (NB.length : Int) ≤ (j : Int) := by omega
                    go_wp2_with fail
                    go_roundw
                    case rel => exact ⟨k + 1, stB, FB, NB, hlt, by go_num, HIB.out, HS3.out⟩
                    case measure => simp [intOf]; omega
              · obtain ⟨t4, x4, rfl⟩ : ∃ t u, ev4 = .iface t u := by
                  rcases HE4.out with ⟨_, hf⟩ | ⟨_, _, hv, _⟩ | ⟨_, _, _, _, _, _, hv, _⟩
                  · exact absurd (Prod.mk.inj hf).1 (by decide)
                  · exact ⟨_, _, hv⟩
                  · exact ⟨_, _, hv⟩
                clear HTOLD HE4
                subst hsz
                obtain ⟨pt, ct, hvt⟩ := HSB.out.rows.shape (List.mem_cons_of_mem _ (List.mem_cons_self ..))
                rw [List.length_map] at hvt
                subst hvt
                have hnbl : (NM.length : Int) ≤ 60 := by have := HIB.out.many; omega
                go_wp2_with fail
                go_loopw [17] (fun jv wr3 => ∃ (j : Nat), j ≤ NM.length ∧ jv = .int .i64 j ∧ Hid (KeepSt w wr3 p FB stB [(.slice px NM.length cx, NM.map (·.1)), (.slice pt NM.length ct, NM.map (·.2))])) (fun jv _ => NM.length - (intOf jv).toNat)
                case atStart => exact ⟨0, Nat.zero_le _, rfl, HSB.out⟩
                case round =>
                  clear HSB
                  obtain ⟨j, hj, rfl, HS3⟩ := hrel
                  by_cases hjl : j < NM.length
                  · have hjl' : (j : Int) < (NM.length : Int) := by omega
                    have hj0 : (0 : Int) ≤ (j : Int) := by omega
                    have hne1 : NM.map (·.1) ≠ [] := fun e => by have := congrArg List.length e; simp at this; rw [this] at hjl; simp at hjl
                    have hne2 : NM.map (·.2) ≠ [] := fun e => by have := congrArg List.length e; simp at this; rw [this] at hjl; simp at hjl
                    obtain ⟨⟨x1, x2⟩, hx⟩ : ∃ x, NM[j] = x := ⟨_, rfl⟩
                    have HCL : Hid (∃ gn gt, px = some ⟨gn, 0, none⟩ ∧ pt = some ⟨gt, 0, none⟩ ∧ ∀ W, KeepSt w W p FB stB [(.slice px NM.length cx, NM.map (·.1)), (.slice pt NM.length ct, NM.map (·.2))] → W.cell? ⟨gn, j, none⟩ = some (.string ⟨x1.toArray⟩) ∧ W.cell? ⟨gt, j, none⟩ = some (.string ⟨x2.toArray⟩)) := by
                      obtain ⟨gn, cn', h1, _⟩ := HS3.out.rows.cell (List.mem_cons_self ..) hne1
                      obtain ⟨gt, ct', h2, _⟩ := HS3.out.rows.cell (List.mem_cons_of_mem _ (List.mem_cons_self ..)) hne2
                      obtain ⟨rfl, _⟩ : px = some ⟨gn, 0, none⟩ ∧ cx = cn' := by simpa using h1
                      obtain ⟨rfl, _⟩ : pt = some ⟨gt, 0, none⟩ ∧ ct = ct' := by simpa using h2
                      refine ⟨gn, gt, rfl, rfl, fun W h => ?_⟩
                      obtain ⟨gn', cn'', k1, k2⟩ := h.rows.cell (List.mem_cons_self ..) hne1
                      obtain ⟨gt', ct'', k3, k4⟩ := h.rows.cell (List.mem_cons_of_mem _ (List.mem_cons_self ..)) hne2
                      obtain ⟨rfl, _⟩ : gn = gn' ∧ cx = cn'' := by simpa using k1
                      obtain ⟨rfl, _⟩ : gt = gt' ∧ ct = ct'' := by simpa using k3
                      have e1 := k2 j (by simpa using hjl)
                      have e2 := k4 j (by simpa using hjl)
                      rw [List.getElem_map, hx] at e1 e2
                      exact ⟨e1, e2⟩
                    have hmem : (x1, x2) ∈ stB.files := by rw [HIB.out.files]; exact List.mem_reverse.2 (hx ▸ List.getElem_mem hjl)
                    obtain ⟨g1, bl, g2, g3⟩ := HIB.out.inv.got HIB.out.ok hmem
                    obtain ⟨g4, g5⟩ := HIB.out.ok.files _ hmem
                    have HGET := hideN (fun W (hb : Below w.heap.size w W) (hP : PNode W p FB stB) => nodeGet_some a ⟨x1.toArray⟩ p FB stB W x2 bl (by have := isName_len g5; show x1.toArray.size ≤ 50000; rw [List.size_toArray]; simp only at this; omega) g1 g2 g3 g5 g4 ((HEE.out _ hb).sub (by decide)) hP)
                    obtain ⟨gn, gt, rfl, rfl, hcl⟩ := HCL.out
                    have HCC := hideN hcl
                    obtain ⟨X1, hX1⟩ : ∃ X1 : ByteArray, (⟨x1.toArray⟩ : ByteArray) = X1 := ⟨_, rfl⟩
                    obtain ⟨X2, hX2⟩ : ∃ X2 : ByteArray, (⟨x2.toArray⟩ : ByteArray) = X2 := ⟨_, rfl⟩
                    rw [hX1, hX2] at HCC
                    rw [hX1, hX2] at HGET
                    obtain ⟨c0, _⟩ := HCC.out _ HS3.out
                    clear hX1 hX2 hcl HCL hne1 hne2 hx hmem g1 g2 g3 g4 g5
                    go_wp2_with fail
                    refine (HGET.out wr HS3.out.below HS3.out.node).mono ?_
                    rintro e w5 ⟨rfl, hb5⟩
                    have HS5 := hideN (HS3.out.next hb5)
                    clear hb5 c0 HS3
                    obtain ⟨_, c1⟩ := HCC.out _ HS5.out
                    go_wp2_with fail
                    go_roundw
                    case rel => exact ⟨j + 1, hjl, by go_num, HS5.out⟩
                    case measure => simp [intOf]; omega
                  · have hge : (NM.length : Int) ≤ (j : Int) := by omega
                    go_wp2_with fail
                    go_roundw
                    case rel => exact ⟨k + 1, stB, FB, NM, hlt, by go_num, HIB.out, HS3.out⟩
                    case measure => simp [intOf]; omega
        · by_cases hsweep : y1 = ⟨#[115, 119, 101, 101, 112]⟩
          · subst hsweep
            have n1 : ((⟨#[115, 119, 101, 101, 112]⟩ : ByteArray).toList == [112, 117, 116]) = false := strK_ne_lit hput
            have n2 : ((⟨#[115, 119, 101, 101, 112]⟩ : ByteArray).toList == [100, 114, 111, 112]) = false := strK_ne_lit hdrop
            clear hput hdrop
            have HIB := hideN HI.out.sweep
            have HSZ := hideN (fun st2 (hok : NOk (4000 * (k + 1 : Nat)) (k + 1) st2) F2 W (hP : PNode W p F2 st2) => nodeSize_any p F2 st2 W (fun b hb => (hok.bins b hb).mono (by push_cast; omega)) (by have := hok.many; omega) hP)
            have HSW := hideN (fun W (hP : PNode W p F' st) => nodeSweep_any p F' st W (fun b hb => (HI.out.ok.bins b hb).mono (by omega)) (by have := HI.out.ok.many; omega) hP)
            unfold NSweepPost at HSW
            have hsum := nSweep_size st
            have hbd := nSize_bound st.bins (fun b hb => (HI.out.ok.bins b hb).mono (by omega))
            have hbd2 := nSize_bound (nSweep st).2.bins (fun b hb => (HI.out.ok.sweep.bins b hb).mono (by omega))
            have hmn := HI.out.ok.many
            have hmn2 := HI.out.ok.sweep.many
            obtain ⟨⟨gone, stB⟩, hr⟩ : ∃ r, nSweep st = r := ⟨_, rfl⟩
            rw [hr] at HSW HIB hsum hbd2 hmn2
            simp only at HSW HIB hsum hbd2 hmn2
            obtain ⟨Z, hZ⟩ : ∃ Z, nSize st.bins = Z := ⟨_, rfl⟩
            obtain ⟨Z2, hZ2⟩ : ∃ Z2, nSize stB.bins = Z2 := ⟨_, rfl⟩
            rw [hZ] at hsum hbd
            rw [hZ2] at hsum hbd2
            have HZ := hideN hZ
            have HZ2 := hideN hZ2
            have hw : IntKind.i64.wrap (Z - gone) = Z2 := by rw [IntKind.wrap_i64]; omega
            have HIM := hideN HI.out.more
            clear hr hZ hZ2 hsum hbd hbd2 hmn hmn2
            go_wp2_with fail
            generalize wr.alloc (.cells #[.string ⟨#[115, 119, 101, 101, 112]⟩, .string y2, .string y3] 86) = W1 at *
            refine (HSZ.out st HIM.out.ok F' W1 HS1.out.node).mono ?_
            rintro e w4 ⟨rfl, hb4⟩
            have HS4 := hideN (HS1.out.next hb4)
            rw [HZ.out]
            clear hb4 a0 a1 a2 HS1 HBA
            go_wp2_with fail
            refine (HSW.out w4 HS4.out.node).mono ?_
            rintro e w5 ⟨FB, rfl, hP5, hF5, ho5⟩
            have HS5 := hideN (HS4.out.prog hP5 hF5 ho5)
            clear hP5 hF5 ho5 HS4
            go_wp2_with fail
            refine (HSZ.out stB HIB.out.ok FB w5 HS5.out.node).mono ?_
            rintro e w6 ⟨rfl, hb6⟩
            have HSB := hideN (HS5.out.next hb6)
            rw [HZ2.out]
            clear hb6 HS5 HSW HSZ

            obtain ⟨pn, cn, hvn⟩ := HSB.out.rows.shape (List.mem_cons_self ..)
            obtain ⟨pt, ct, hvt⟩ := HSB.out.rows.shape (List.mem_cons_of_mem _ (List.mem_cons_self ..))
            rw [List.length_map] at hvn hvt
            subst hvn hvt
            have hnbl : (NM.length : Int) ≤ 60 := by have := HIB.out.many; omega
            go_wp2_with fail
            go_loopw [17] (fun jv wr3 => ∃ (j : Nat), j ≤ NM.length ∧ jv = .int .i64 j ∧ Hid (KeepSt w wr3 p FB stB [(.slice pn NM.length cn, NM.map (·.1)), (.slice pt NM.length ct, NM.map (·.2))])) (fun jv _ => NM.length - (intOf jv).toNat)
            case atStart => exact ⟨0, Nat.zero_le _, rfl, HSB.out⟩
            case round =>
              clear HSB
              obtain ⟨j, hj, rfl, HS3⟩ := hrel
              by_cases hjl : j < NM.length
              · have hjl' : (j : Int) < (NM.length : Int) := by omega
                have hj0 : (0 : Int) ≤ (j : Int) := by omega
                have hne1 : NM.map (·.1) ≠ [] := fun e => by have := congrArg List.length e; simp at this; rw [this] at hjl; simp at hjl
                have hne2 : NM.map (·.2) ≠ [] := fun e => by have := congrArg List.length e; simp at this; rw [this] at hjl; simp at hjl
                obtain ⟨⟨x1, x2⟩, hx⟩ : ∃ x, NM[j] = x := ⟨_, rfl⟩
                have HCL : Hid (∃ gn gt, pn = some ⟨gn, 0, none⟩ ∧ pt = some ⟨gt, 0, none⟩ ∧ ∀ W, KeepSt w W p FB stB [(.slice pn NM.length cn, NM.map (·.1)), (.slice pt NM.length ct, NM.map (·.2))] → W.cell? ⟨gn, j, none⟩ = some (.string ⟨x1.toArray⟩) ∧ W.cell? ⟨gt, j, none⟩ = some (.string ⟨x2.toArray⟩)) := by
                  obtain ⟨gn, cn', h1, _⟩ := HS3.out.rows.cell (List.mem_cons_self ..) hne1
                  obtain ⟨gt, ct', h2, _⟩ := HS3.out.rows.cell (List.mem_cons_of_mem _ (List.mem_cons_self ..)) hne2
                  obtain ⟨rfl, _⟩ : pn = some ⟨gn, 0, none⟩ ∧ cn = cn' := by simpa using h1
                  obtain ⟨rfl, _⟩ : pt = some ⟨gt, 0, none⟩ ∧ ct = ct' := by simpa using h2
                  refine ⟨gn, gt, rfl, rfl, fun W h => ?_⟩
                  obtain ⟨gn', cn'', k1, k2⟩ := h.rows.cell (List.mem_cons_self ..) hne1
                  obtain ⟨gt', ct'', k3, k4⟩ := h.rows.cell (List.mem_cons_of_mem _ (List.mem_cons_self ..)) hne2
                  obtain ⟨rfl, _⟩ : gn = gn' ∧ cn = cn'' := by simpa using k1
                  obtain ⟨rfl, _⟩ : gt = gt' ∧ ct = ct'' := by simpa using k3
                  have e1 := k2 j (by simpa using hjl)
                  have e2 := k4 j (by simpa using hjl)
                  rw [List.getElem_map, hx] at e1 e2
                  exact ⟨e1, e2⟩
                have hmem : (x1, x2) ∈ stB.files := by rw [HIB.out.files]; exact List.mem_reverse.2 (hx ▸ List.getElem_mem hjl)
                obtain ⟨g1, bl, g2, g3⟩ := HIB.out.inv.got HIB.out.ok hmem
                obtain ⟨g4, g5⟩ := HIB.out.ok.files _ hmem
                have HGET := hideN (fun W (hb : Below w.heap.size w W) (hP : PNode W p FB stB) => nodeGet_some a ⟨x1.toArray⟩ p FB stB W x2 bl (by have := isName_len g5; show x1.toArray.size ≤ 50000; rw [List.size_toArray]; simp only at this; omega) g1 g2 g3 g5 g4 ((HEE.out _ hb).sub (by decide)) hP)
                obtain ⟨gn, gt, rfl, rfl, hcl⟩ := HCL.out
                have HCC := hideN hcl
                obtain ⟨X1, hX1⟩ : ∃ X1 : ByteArray, (⟨x1.toArray⟩ : ByteArray) = X1 := ⟨_, rfl⟩
                obtain ⟨X2, hX2⟩ : ∃ X2 : ByteArray, (⟨x2.toArray⟩ : ByteArray) = X2 := ⟨_, rfl⟩
                rw [hX1, hX2] at HCC
                rw [hX1, hX2] at HGET
                obtain ⟨c0, _⟩ := HCC.out _ HS3.out
                clear hX1 hX2 hcl HCL hne1 hne2 hx hmem g1 g2 g3 g4 g5
                go_wp2_with fail
                refine (HGET.out wr HS3.out.below HS3.out.node).mono ?_
                rintro e w5 ⟨rfl, hb5⟩
                have HS5 := hideN (HS3.out.next hb5)
                clear hb5 c0 HS3
                obtain ⟨_, c1⟩ := HCC.out _ HS5.out
                go_wp2_with fail
                go_roundw
                case rel => exact ⟨j + 1, hjl, by go_num, HS5.out⟩
                case measure => simp [intOf]; omega
              · have hge : (NM.length : Int) ≤ (j : Int) := by omega
                go_wp2_with fail
                go_roundw
                case rel => exact ⟨k + 1, stB, FB, NM, hlt, by go_num, HIB.out, HS3.out⟩
                case measure => simp [intOf]; omega
          · have n1 : (y1.toList == [112, 117, 116]) = false := strK_ne_lit hput
            have n2 : (y1.toList == [100, 114, 111, 112]) = false := strK_ne_lit hdrop
            have n3 : (y1.toList == [115, 119, 101, 101, 112]) = false := strK_ne_lit hsweep
            clear hput hdrop hsweep
            have HIB := hideN HI.out.more
            have HSB := hideN HS1.out
            clear HS1

            obtain ⟨pn, cn, hvn⟩ := HSB.out.rows.shape (List.mem_cons_self ..)
            obtain ⟨pt, ct, hvt⟩ := HSB.out.rows.shape (List.mem_cons_of_mem _ (List.mem_cons_self ..))
            rw [List.length_map] at hvn hvt
            subst hvn hvt
            have hnbl : (NM.length : Int) ≤ 60 := by have := HIB.out.many; omega
            go_wp2_with fail
            go_loopw [17] (fun jv wr3 => ∃ (j : Nat), j ≤ NM.length ∧ jv = .int .i64 j ∧ Hid (KeepSt w wr3 p F' st [(.slice pn NM.length cn, NM.map (·.1)), (.slice pt NM.length ct, NM.map (·.2))])) (fun jv _ => NM.length - (intOf jv).toNat)
            case atStart => exact ⟨0, Nat.zero_le _, rfl, HSB.out⟩
            case round =>
              clear HSB
              obtain ⟨j, hj, rfl, HS3⟩ := hrel
              by_cases hjl : j < NM.length
              · have hjl' : (j : Int) < (NM.length : Int) := by omega
                have hj0 : (0 : Int) ≤ (j : Int) := by omega
                have hne1 : NM.map (·.1) ≠ [] := fun e => by have := congrArg List.length e; simp at this; rw [this] at hjl; simp at hjl
                have hne2 : NM.map (·.2) ≠ [] := fun e => by have := congrArg List.length e; simp at this; rw [this] at hjl; simp at hjl
                obtain ⟨⟨x1, x2⟩, hx⟩ : ∃ x, NM[j] = x := ⟨_, rfl⟩
                have HCL : Hid (∃ gn gt, pn = some ⟨gn, 0, none⟩ ∧ pt = some ⟨gt, 0, none⟩ ∧ ∀ W, KeepSt w W p F' st [(.slice pn NM.length cn, NM.map (·.1)), (.slice pt NM.length ct, NM.map (·.2))] → W.cell? ⟨gn, j, none⟩ = some (.string ⟨x1.toArray⟩) ∧ W.cell? ⟨gt, j, none⟩ = some (.string ⟨x2.toArray⟩)) := by
                  obtain ⟨gn, cn', h1, _⟩ := HS3.out.rows.cell (List.mem_cons_self ..) hne1
                  obtain ⟨gt, ct', h2, _⟩ := HS3.out.rows.cell (List.mem_cons_of_mem _ (List.mem_cons_self ..)) hne2
                  obtain ⟨rfl, _⟩ : pn = some ⟨gn, 0, none⟩ ∧ cn = cn' := by simpa using h1
                  obtain ⟨rfl, _⟩ : pt = some ⟨gt, 0, none⟩ ∧ ct = ct' := by simpa using h2
                  refine ⟨gn, gt, rfl, rfl, fun W h => ?_⟩
                  obtain ⟨gn', cn'', k1, k2⟩ := h.rows.cell (List.mem_cons_self ..) hne1
                  obtain ⟨gt', ct'', k3, k4⟩ := h.rows.cell (List.mem_cons_of_mem _ (List.mem_cons_self ..)) hne2
                  obtain ⟨rfl, _⟩ : gn = gn' ∧ cn = cn'' := by simpa using k1
                  obtain ⟨rfl, _⟩ : gt = gt' ∧ ct = ct'' := by simpa using k3
                  have e1 := k2 j (by simpa using hjl)
                  have e2 := k4 j (by simpa using hjl)
                  rw [List.getElem_map, hx] at e1 e2
                  exact ⟨e1, e2⟩
                have hmem : (x1, x2) ∈ st.files := by rw [HIB.out.files]; exact List.mem_reverse.2 (hx ▸ List.getElem_mem hjl)
                obtain ⟨g1, bl, g2, g3⟩ := HIB.out.inv.got HIB.out.ok hmem
                obtain ⟨g4, g5⟩ := HIB.out.ok.files _ hmem
                have HGET := hideN (fun W (hb : Below w.heap.size w W) (hP : PNode W p F' st) => nodeGet_some a ⟨x1.toArray⟩ p F' st W x2 bl (by have := isName_len g5; show x1.toArray.size ≤ 50000; rw [List.size_toArray]; simp only at this; omega) g1 g2 g3 g5 g4 ((HEE.out _ hb).sub (by decide)) hP)
                obtain ⟨gn, gt, rfl, rfl, hcl⟩ := HCL.out
                have HCC := hideN hcl
                obtain ⟨X1, hX1⟩ : ∃ X1 : ByteArray, (⟨x1.toArray⟩ : ByteArray) = X1 := ⟨_, rfl⟩
                obtain ⟨X2, hX2⟩ : ∃ X2 : ByteArray, (⟨x2.toArray⟩ : ByteArray) = X2 := ⟨_, rfl⟩
                rw [hX1, hX2] at HCC
                rw [hX1, hX2] at HGET
                obtain ⟨c0, _⟩ := HCC.out _ HS3.out
                clear hX1 hX2 hcl HCL hne1 hne2 hx hmem g1 g2 g3 g4 g5
                go_wp2_with fail
                refine (HGET.out wr HS3.out.below HS3.out.node).mono ?_
                rintro e w5 ⟨rfl, hb5⟩
                have HS5 := hideN (HS3.out.next hb5)
                clear hb5 c0 HS3
                obtain ⟨_, c1⟩ := HCC.out _ HS5.out
                go_wp2_with fail
                go_roundw
                case rel => exact ⟨j + 1, hjl, by go_num, HS5.out⟩
                case measure => simp [intOf]; omega
              · have hge : (NM.length : Int) ≤ (j : Int) := by omega
                go_wp2_with fail
                go_roundw
                case rel => exact ⟨k + 1, st, F', NM, hlt, by go_num, HIB.out, HS3.out⟩
                case measure => simp [intOf]; omega
    · have hge : (l.length : Int) ≤ (k : Int) := by omega
      obtain ⟨pn, cn, hvn⟩ := HS.out.rows.shape (List.mem_cons_self ..)
      obtain ⟨pt, ct, hvt⟩ := HS.out.rows.shape (List.mem_cons_of_mem _ (List.mem_cons_self ..))
      rw [List.length_map] at hvn hvt
      subst hvn hvt
      have HNL : Hid (NM.length ≤ 60) := Nat.le_trans HI.out.many (by omega)
      have hnml : (NM.length : Int) ≤ 60 := by have := HNL.out; omega
      have HFL : Hid (st.files.length = NM.length) := by show _ = _; rw [HI.out.files, List.length_reverse]
      have HNAM : Hid (∀ W, PNode W p F' st → Calls Tryz.prog 52 #[.pointer (some p)] W fun e w' => ∃ q c, e = .returned (.slice q NM.length c) ∧ Below W.heap.size W w') := fun W hP => (nodeNames_any p F' st W (by rw [HFL.out]; have := HNL.out; omega) hP).mono fun e w' ⟨v, ss, he, hs, hr, hb⟩ => by
        obtain ⟨q, c, hv⟩ := row_shapeK hr
        exact ⟨q, c, by rw [he, hv, hs.length_eq, List.length_map, HFL.out], hb⟩
      go_wp2_with fail
      refine (HNAM.out wr HS.out.node).mono ?_
      rintro e w4 ⟨q4, c4, rfl, hb4⟩
      have HS4 := hideN (HS.out.next hb4)
      clear hb4 HS
      by_cases hnil : NM.length = 0
      · have hnil' : (NM.length : Int) = 0 := by omega
        go_wp2_with fail
        refine (HNAM.out w4 HS4.out.node).mono ?_
        rintro e w5 ⟨q5, c5, rfl, hb5⟩
        have HS5 := hideN (HS4.out.next hb5)
        clear hb5 HS4
        go_wp2_with fail
        go_ret
        exact ⟨rfl, HS5.out.below⟩
      · have hnil' : ((NM.length : Int) == 0) = false := by rw [beq_eq_false_iff_ne]; omega
        have hpos : (0 : Int) < (NM.length : Int) := by omega
        obtain ⟨⟨x1, x2⟩, NM', hNM⟩ : ∃ x r, NM = x :: r := by
          cases NM with
          | nil => exact absurd rfl hnil
          | cons x r => exact ⟨x, r, rfl⟩
        have HNM := hideN hNM
        have HCL : Hid (∃ gt, pt = some ⟨gt, 0, none⟩ ∧ ∀ W st2 F2, KeepSt w W p F2 st2 [(.slice pn NM.length cn, NM.map (·.1)), (.slice pt NM.length ct, NM.map (·.2))] → W.cell? ⟨gt, 0, none⟩ = some (.string ⟨x2.toArray⟩)) := by
          have hne2 : NM.map (·.2) ≠ [] := by rw [HNM.out]; simp
          obtain ⟨gt, ct', h2, _⟩ := HS4.out.rows.cell (List.mem_cons_of_mem _ (List.mem_cons_self ..)) hne2
          obtain ⟨rfl, _⟩ : pt = some ⟨gt, 0, none⟩ ∧ ct = ct' := by simpa using h2
          refine ⟨gt, rfl, fun W st2 F2 h => ?_⟩
          obtain ⟨gt', ct'', k3, k4⟩ := h.rows.cell (List.mem_cons_of_mem _ (List.mem_cons_self ..)) hne2
          obtain ⟨rfl, _⟩ : gt = gt' ∧ ct = ct'' := by simpa using k3
          have e2 := k4 0 (by rw [HNM.out]; simp)
          rw [List.getElem_map] at e2
          have : NM[0]'(by rw [HNM.out]; simp) = (x1, x2) := by simp [HNM.out]
          rw [this] at e2
          exact e2
        obtain ⟨gt, rfl, hcl⟩ := HCL.out
        have HCC := hideN hcl
        have HMEM : Hid ((x1, x2) ∈ st.files) := by show _ ∈ _; rw [HI.out.files, HNM.out]; simp
        have HXL : Hid (x2.length ≤ 4000) := (HI.out.ok.files _ HMEM.out).1
        obtain ⟨X2, hX2⟩ : ∃ X2 : ByteArray, (⟨x2.toArray⟩ : ByteArray) = X2 := ⟨_, rfl⟩
        have hXx : x2 = X2.data.toList := by rw [← hX2]
        have HX2 : Hid (X2.size ≤ 4000) := by
          show X2.size ≤ 4000
          have h1 := HXL.out
          have h2 : X2.data.toList.length = X2.size := by rw [Array.length_toList]; rfl
          rw [hXx] at h1
          omega
        have HPUT := hideN (fun W (hb : Below w.heap.size w W) (hP : PNode W p F' st) => nodePut_any a other X2 p F' (4000 * (k : Int)) st W (by omega) (by have := HX2.out; omega) ⟨by omega, by omega⟩ HI.out.ok.bins (by have := HI.out.ok.many; omega) ((HEE.out _ hb).sub (by decide)) hP)
        have HAG : Hid ((nPut st other.data.toList X2.data.toList).1 = 0) := HI.out.inv.again HI.out.ok (by omega) (nm := x1) (by rw [← hXx]; exact HMEM.out) _
        have HYES := hideN (fun h => HI.out.put (nm := other.data.toList) (s := X2.data.toList) h)
        have HTH := hideN (fun h => nPut_there' (st := st) (nm := other.data.toList) (s := X2.data.toList) h)
        obtain ⟨⟨fr, ec, st2⟩, hr⟩ : ∃ r, nPut st other.data.toList X2.data.toList = r := ⟨_, rfl⟩
        unfold NPutPost at HPUT
        rw [hr] at HPUT HYES HAG HTH
        simp only at HPUT HYES HAG HTH
        obtain rfl : fr = 0 := HAG.out
        rw [hX2] at HCC
        have c0 := HCC.out _ _ _ HS4.out
        clear hr hX2 hXx hcl HCL hNM hnil
        go_wp2_with fail
        refine (HPUT.out w4 HS4.out.below HS4.out.node).mono ?_
        rintro e w5 ⟨ev5, F5, rfl, he5, hP5, hF5, ho5⟩
        have HS5 := hideN (HS4.out.prog hP5 hF5 ho5)
        have HE5 := hideN he5
        clear hP5 hF5 ho5 he5 c0 HS4
        by_cases hec : ec = 0
        · subst hec
          obtain rfl := HE5.out.nil
          obtain ⟨g1, _, _⟩ := HTH.out rfl
          have hI5 := HYES.out rfl
          have hm5 : (other.data.toList, X2.data.toList) ∈ st2.files := nFile_some g1
          obtain ⟨_, bl, g2, g3⟩ := hI5.inv.got hI5.ok hm5
          obtain ⟨g4, g5⟩ := hI5.ok.files _ hm5
          have HGET := hideN (nodeGet_some a other p F5 st2 w5 X2.data.toList bl (by omega) g1 g2 g3 g5 g4 ((HEE.out _ HS5.out.below).sub (by decide)) HS5.out.node)
          rw [str_backK] at HGET
          clear g1 g2 g3 g4 g5 hm5 hI5 HPUT HYES HTH HAG HE5
          go_wp2_with fail
          refine HGET.out.mono ?_
          rintro e w6 ⟨rfl, hb6⟩
          have HS6 := hideN (HS5.out.next hb6)
          have c1 := HCC.out _ _ _ HS6.out
          clear hb6 HS5 HGET
          go_wp2_with fail
          go_ret
          exact ⟨rfl, HS6.out.below⟩
        · obtain ⟨t4, x4, rfl⟩ : ∃ t u, ev5 = .iface t u := by
            rcases HE5.out with ⟨_, hf⟩ | ⟨_, _, hv, _⟩ | ⟨_, _, _, _, _, _, hv, _⟩
            · exact (hec (Prod.mk.inj hf).1).elim
            · exact ⟨_, _, hv⟩
            · exact ⟨_, _, hv⟩
          clear HYES HTH HE5 HPUT hec
          go_wp2_with fail
          go_ret
          exact ⟨rfl, HS5.out.below⟩
end Go.Proofs.YtjdobbjdlighpaaGreatDoor
