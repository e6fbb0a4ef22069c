/-
  Own text. The document's bin by contracts: Put.
-/
import Derived.Test.YtpkaflbdcoffdaaDoorBinDrop
namespace Go.Proofs.YtpkaflbdcoffdaaDoor
open Go.RowKit

theorem sl4_from (g n c i : Nat) (hi : i ≤ n) (hc : n ≤ c) : ∃ P4 c4, (∀ w : World, (Instr.slice 63 (.slice (some ⟨g, 0, none⟩) n c) (some (.int .i64 (i : Int))) none none).run Tryd.prog w = .ok (.slice (some P4) (n - i) c4) w) ∧ (i < n → P4 = ⟨g, i * 4, none⟩) := by
  have hj1 : (0 : Int) ≤ (i : Int) := by omega
  have hj2 : (i : Int) ≤ (n : Int) := by omega
  by_cases hcap : c = i
  · refine ⟨⟨g, 0, none⟩, c - i, fun w => ?_, fun h => by omega⟩
    go_simp
  · by_cases h0 : i = 0
    · subst h0
      refine ⟨⟨g, 0, none⟩, c - 0, fun w => ?_, fun h => by simp⟩
      go_simp
    · refine ⟨⟨g, i * 4, none⟩, c - i, fun w => ?_, fun h => rfl⟩
      go_simp
theorem sl4_upto (g n c i : Nat) (hi : i ≤ n) (hc : n ≤ c) : ∀ w : World, (Instr.slice 63 (.slice (some ⟨g, 0, none⟩) n c) none (some (.int .i64 (i : Int))) none).run Tryd.prog w = .ok (.slice (some ⟨g, 0, none⟩) i c) w := by
  have hj1 : (0 : Int) ≤ (i : Int) := by omega
  have hj3 : (i : Int) ≤ (c : Int) := by omega
  intro w
  go_simp
theorem four_new (W : World) (h : Hd) (t : TypeId) (B : Nat) (hB : B = W.heap.size) : ∀ j u, (heldCells [h])[j]? = some u → (W.alloc (.cells #[.int .u32 (h.1.1 : Nat), .int .i64 h.1.2, .int .i64 h.2.1, .string ⟨h.2.2.toArray⟩] t)).cell? ((⟨B, 0, none⟩ : Addr).add j) = some u := by
  intro j u hj
  have ha : (⟨B, 0, none⟩ : Addr).add j = ⟨B, j, none⟩ := by unfold Addr.add; split <;> simp_all
  rw [ha]
  refine new_cell W _ t ?_ hB
  rw [← hj]
  match j with
  | 0 => rfl
  | 1 => rfl
  | 2 => rfl
  | 3 => rfl
  | j + 4 => simp [heldCells]
theorem ownsRow_low {w : World} {base base' : Nat} {e : TypeId} {size : Nat} {v : Value} {n : Nat} {xs : List Value} (h : w.ownsRow base e size v n xs) (hb : base' ≤ base) : w.ownsRow base' e size v n xs := by
  obtain ⟨hl, ho⟩ := h
  refine ⟨hl, ?_⟩
  rcases ho with ho | ⟨g, cap, cur, hv, hg, r⟩
  · exact .inl ho
  · exact .inr ⟨g, cap, cur, hv, Nat.le_trans hb hg, r⟩
/- What Put leaves behind. -/
def PutPost (w : World) (B : Nat) (v : Value) (r : ((Nat × Int) × Bool × Int) × List Hd) (e : Ending) (w' : World) : Prop :=
  ∃ v', e = .returned (.tuple #[idV (r.1.1.1 : Nat) r.1.1.2, .bool r.1.2.1, .int .i64 r.1.2.2]) ∧ RBin w' B v' r.2 ∧ (∀ k, v'.ownBlock = some k → v.ownBlock = some k ∨ w.heap.size ≤ k) ∧ Off (RBin.Of B v) w w'

set_option maxRecDepth 100000 in
set_option maxHeartbeats 4000000 in
theorem rPut_bound (B : Nat) (v : Value) (l : List Hd) (s : ByteArray) (w : World) (hs : s.size < 1 ∨ 64 < s.size) (h : RBin w B v l) :
    Calls Tryd.prog 37 #[.pointer (some ⟨B, 0, none⟩), .string s] w (PutPost w B v (hPut l s.data.toList)) := by
  have HR : Hid (RBin w B v l) := h
  have e2 : Hid (hPut l s.data.toList = (((0, 0), false, 2), l)) := by
    show _ = _
    unfold hPut
    rw [if_pos (by rw [Array.length_toList]; exact hs)]
  have hB : Below w.heap.size w (w.alloc (.cells #[.int .u32 0, .int .i64 0] 37)) := (Below.refl _ w).alloc (Nat.le_refl _) _
  have HB : Hid (Below w.heap.size w (w.alloc (.cells #[.int .u32 0, .int .i64 0] 37))) := hB
  have hX := Blk.new w #[.int .u32 0, .int .i64 0] 37
  clear h hB
  rcases hs with hs | hs
  · have h1 : (s.size : Int) < 1 := by omega
    go_enter Tryd.func37, Tryd.ntmps37
    go_wp2_with fail
    refine bodyPost_ret (v := .tuple #[idV (0 : Nat) 0, .bool false, .int .i64 2]) (by simp [results, Tryd.results37, go_sem]) rfl ?_
    rw [e2.out]
    exact ⟨v, rfl, HR.out.below HB.out, fun k hk => .inl hk, Off.of_below HB.out⟩
  · have h1 : ¬ (s.size : Int) < 1 := by omega
    have h2 : (64 : Int) < (s.size : Int) := by omega
    go_enter Tryd.func37, Tryd.ntmps37
    go_wp2_with fail
    refine bodyPost_ret (v := .tuple #[idV (0 : Nat) 0, .bool false, .int .i64 2]) (by simp [results, Tryd.results37, go_sem]) rfl ?_
    rw [e2.out]
    exact ⟨v, rfl, HR.out.below HB.out, fun k hk => .inl hk, Off.of_below HB.out⟩

/- Behind Find: the result's block, the ID's block, the bin. -/
structure PutW (w W : World) (I B : Nat) (v : Value) (l : List Hd) (x : Nat × Int) : Prop where
  below : Below w.heap.size w W
  res : Blk W w.heap.size #[.int .u32 0, .int .i64 0] 37
  id : Blk W I #[.int .u32 (x.1 : Nat), .int .i64 x.2] 37
  ne : w.heap.size < I
  bin : RBin W B v l
theorem PutW.next {w W W' : World} {I B : Nat} {v : Value} {l : List Hd} {x : Nat × Int} (h : PutW w W I B v l x) (hb : Below W.heap.size W W') : PutW w W' I B v l x :=
  ⟨h.below.trans (hb.mono h.below.size), h.res.next hb, h.id.next hb, h.ne, h.bin.below hb⟩

set_option maxRecDepth 100000 in
set_option maxHeartbeats 4000000 in
theorem rPut_found (B : Nat) (v : Value) (l : List Hd) (s : ByteArray) (w : World) (hs1 : 1 ≤ s.size) (hs2 : s.size ≤ 64) (hn : l.length ≤ maxLen) (hu : ∀ h ∈ l, 0 ≤ h.2.1 ∧ h.2.1 ≤ 1000000) (k : Nat) (hf : hFind l (idOfL s.data.toList) = some k) (h : RBin w B v l) :
    Calls Tryd.prog 37 #[.pointer (some ⟨B, 0, none⟩), .string s] w (PutPost w B v (hPut l s.data.toList)) := by
  have HR : Hid (RBin w B v l) := h
  have HN : Hid (l.length ≤ maxLen) := hn
  have HSM : Hid (s.size ≤ maxLen) := by show _ ≤ _; unfold maxLen; omega
  have h1 : ¬ (s.size : Int) < 1 := by omega
  have h2 : ¬ (64 : Int) < (s.size : Int) := by omega
  obtain ⟨hk, _⟩ := hFind_some hf
  have hne : 1 ≤ l.length := by omega
  obtain ⟨hu0, hu1⟩ := hu _ (List.getElem_mem hk)
  have e1 : Hid (findI l (idOfL s.data.toList) = (k : Int)) := by show _ = _; unfold findI; rw [hf]
  have hk0 : (0 : Int) ≤ (k : Int) := by omega
  have hk' : (k : Int) < (l.length : Int) := by omega
  have HID : Hid (idOfL s.data.toList = (pmore 2166136261 s.data.toList, (s.size : Int))) := by show _ = _; unfold idOfL; rw [Array.length_toList]; rfl
  have H37 := rFind_any B v l (idOfL s.data.toList)
  rw [HID.out] at H37 e1
  obtain ⟨P, hP⟩ : ∃ P, pmore 2166136261 s.data.toList = P := ⟨_, rfl⟩
  rw [hP] at H37 e1 HID
  have HPS : Hid (pmore 2166136261 s.data.toList = P) := hP
  have HF : Hid (∀ (w : World), l.length ≤ maxLen → RBin w B v l → Calls Tryd.prog 40 #[.pointer (some ⟨B, 0, none⟩), idV (P : Nat) (s.size : Int)] w fun e w' => e = .returned (.int .i64 (findI l (P, (s.size : Int)))) ∧ Below w.heap.size w w') := H37
  have hs3 : ¬ (s.data.toList.length < 1 ∨ 64 < s.data.toList.length) := by rw [Array.length_toList]; show ¬ (s.size < 1 ∨ 64 < s.size); omega
  have e2 : Hid (hPut l s.data.toList = if l[k].2.2 = s.data.toList then ((idOfL s.data.toList, false, 0), l.modify k (hUse 1)) else (((0, 0), false, 10), l)) := by
    show _ = _
    unfold hPut
    rw [if_neg hs3, hf]
    simp only [List.getElem?_eq_getElem hk, Option.map_some, Option.some.injEq]
  have HMU : Hid (l.modify k (fun h => (h.1, l[k].2.1 + 1, h.2.2)) = l.modify k (hUse 1)) := modify_use l k hk 1
  clear h hn hf hu H37 hP hs3 hs1 hs2
  have hX := Blk.new w #[.int .u32 0, .int .i64 0] 37
  have hB0 : Below w.heap.size w (w.alloc (.cells #[.int .u32 0, .int .i64 0] 37)) := (Below.refl _ w).alloc (Nat.le_refl _) _
  have HX : Hid (Blk (w.alloc (.cells #[.int .u32 0, .int .i64 0] 37)) w.heap.size #[.int .u32 0, .int .i64 0] 37) := hX
  have HB0 : Hid (Below w.heap.size w (w.alloc (.cells #[.int .u32 0, .int .i64 0] 37))) := hB0
  clear hX hB0
  go_enter Tryd.func37, Tryd.ntmps37
  go_wp2_with fail
  refine (idOf_any s _ HSM.out).mono ?_
  rintro e w1 ⟨rfl, hb1⟩
  rw [HPS.out]
  have hR1 := HX.out.next hb1
  have hB1 : Below w.heap.size w w1 := HB0.out.trans (hb1.mono (by simp))
  have hz1 : w.heap.size < w1.heap.size := hR1.lt
  have hal := (Below.refl w1.heap.size w1).alloc (Nat.le_refl _) (.cells #[.int .u32 (P : Nat), .int .i64 (s.size : Int)] 37)
  have hI2 := Blk.new w1 #[.int .u32 (P : Nat), .int .i64 (s.size : Int)] 37
  have hPW : PutW w (w1.alloc (.cells #[.int .u32 (P : Nat), .int .i64 (s.size : Int)] 37)) w1.heap.size B v l (P, (s.size : Int)) := ⟨hB1.trans (hal.mono hB1.size), hR1.next hal, hI2, hz1, HR.out.below (hB1.trans (hal.mono hB1.size))⟩
  have HPW : Hid (PutW w (w1.alloc (.cells #[.int .u32 (P : Nat), .int .i64 (s.size : Int)] 37)) w1.heap.size B v l (P, (s.size : Int))) := hPW
  clear hb1 hR1 hB1 hal hI2 hPW
  go_wp2_with fail
  refine (HF.out _ HN.out HPW.out.bin).mono ?_
  rintro e w2 ⟨rfl, hb2⟩
  rw [e1.out]
  have hPW := HPW.out.next hb2
  generalize w1.heap.size = I at *
  clear HPW hb2 HF
  obtain ⟨g, cap, rfl, ⟨hgB, _⟩, hfz, hc⟩ := hPW.bin.open hne
  have q0 := hPW.bin.blk.cell (i := 0) rfl
  have i0 := hPW.id.cell (i := 0) rfl
  have i1 := hPW.id.cell (i := 1) rfl
  have r0 := hPW.res.cell (i := 0) rfl
  have r1 := hPW.res.cell (i := 1) rfl
  have fr0 := hPW.res.frozen 0
  have fr1 := hPW.res.frozen 1
  obtain ⟨_, _, q2, q3⟩ := hc k hk
  have hws := hPW.below.size
  by_cases ht : l[k].2.2 = s.data.toList
  · have hteq : (⟨l[k].2.2.toArray⟩ : ByteArray) = s := by rw [ht]
    have e3 : Hid (hPut l s.data.toList = ((idOfL s.data.toList, false, 0), l.modify k (hUse 1))) := by show _ = _; rw [e2.out, if_pos ht]
    rw [hteq] at q3
    have qf := hfz (k * 4 + 2)
    have HS := hPW.bin.setUses k hk (l[k].2.1 + 1)
    obtain ⟨u, hu⟩ : ∃ u, l[k].2.1 = u := ⟨_, rfl⟩
    rw [hu] at q2 hu0 hu1 HS HMU
    have hW : PutW w w2 I B (.slice (some ⟨g, 0, none⟩) l.length cap) l (P, (s.size : Int)) := hPW
    have HW2 : IntKind.i64.wrap (u + 1) = u + 1 := by rw [IntKind.wrap_i64]; omega
    have hgI : g ≠ I := fun e => by
      obtain ⟨_, ho⟩ := hPW.bin.row
      rcases ho with ⟨he, _⟩ | ⟨g', cap', cur, he, _, hb, _⟩
      · cases he
      · have eg : g' = g := by simp at he; exact he.1.symm
        subst eg
        have hid : w2.heap[I]? = some (.cells #[.int .u32 (P : Nat), .int .i64 (s.size : Int)] 37 (0, 0)) := hPW.id
        rw [← e, hb] at hid
        exact absurd (Obj.cells.inj (Option.some.inj hid)).2.1 (by decide)
    have hgR : g ≠ w.heap.size := fun e => by
      have := HR.out.lt (k := g) (.inr rfl)
      omega
    have HSS : Hid (RBin (w2.setCell ⟨g, k * 4 + 2, none⟩ (.int .i64 (u + 1))) B (.slice (some ⟨g, 0, none⟩) l.length cap) (l.modify k (fun h => (h.1, u + 1, h.2.2)))) := HS
    have HPWW : Hid (PutW w w2 I B (.slice (some ⟨g, 0, none⟩) l.length cap) l (P, (s.size : Int))) := hPW
    have s0 : (w2.setCell ⟨g, k * 4 + 2, none⟩ (.int .i64 (u + 1))).cell? ⟨I, 0, none⟩ = some (.int .u32 (P : Nat)) := (hPW.id.other (a := ⟨g, k * 4 + 2, none⟩) (fun e => hgI e.symm) _).cell (i := 0) rfl
    have s1 : (w2.setCell ⟨g, k * 4 + 2, none⟩ (.int .i64 (u + 1))).cell? ⟨I, 1, none⟩ = some (.int .i64 (s.size : Int)) := (hPW.id.other (a := ⟨g, k * 4 + 2, none⟩) (fun e => hgI e.symm) _).cell (i := 1) rfl
    have HRES : Hid (Blk (w2.setCell ⟨g, k * 4 + 2, none⟩ (.int .i64 (u + 1))) w.heap.size #[.int .u32 0, .int .i64 0] 37) := hPW.res.other (a := ⟨g, k * 4 + 2, none⟩) (fun e => hgR e.symm) _
    have t0 := HRES.out.cell (i := 0) rfl
    have t1 := HRES.out.cell (i := 1) rfl
    have tf0 := HRES.out.frozen 0
    have tf1 := HRES.out.frozen 1
    clear hc hfz HS hu hPW e2 ht hteq hW
    go_wp2_with fail
    refine bodyPost_ret (v := .tuple #[idV (P : Nat) (s.size : Int), .bool false, .int .i64 0]) (by simp [results, Tryd.results37, go_sem, t0, t1]) rfl ?_
    rw [e3.out, HID.out]
    have hgl := HPWW.out.bin.lt (k := g) (.inr rfl)
    refine ⟨.slice (some ⟨g, 0, none⟩) l.length cap, rfl, ?_, fun k hk => .inl hk, (((Off.of_below HPWW.out.below).setCell (p := ⟨g, k * 4 + 2, none⟩) (.inl (.inr rfl)) _).setCell (p := ⟨w.heap.size, 0, none⟩) (.inr (Nat.le_refl _)) _).setCell (p := ⟨w.heap.size, 1, none⟩) (.inr (Nat.le_refl _)) _⟩
    rw [← HMU.out]
    have hnR : ∀ k, RBin.Of B (.slice (some ⟨g, 0, none⟩) l.length cap) k → ¬ k = w.heap.size := fun k hk e => by
      have := HR.out.lt hk
      omega
    exact HSS.out.off (((Off.refl (fun k => k = w.heap.size) _).setCell (p := ⟨w.heap.size, 0, none⟩) (.inl rfl) _).setCell (p := ⟨w.heap.size, 1, none⟩) (.inl rfl) _) hnR
  · have hteq : ((⟨l[k].2.2.toArray⟩ : ByteArray).toList == s.toList) = false := by
      rw [ByteArray.toList_eq, ByteArray.toList_eq, beq_eq_false_iff_ne]
      exact ht
    have e3 : Hid (hPut l s.data.toList = (((0, 0), false, 10), l)) := by show _ = _; rw [e2.out, if_neg ht]
    have HPWW : Hid (PutW w w2 I B (.slice (some ⟨g, 0, none⟩) l.length cap) l (P, (s.size : Int))) := hPW
    obtain ⟨tx, htx⟩ : ∃ tx : ByteArray, (⟨l[k].2.2.toArray⟩ : ByteArray) = tx := ⟨_, rfl⟩
    rw [htx] at q3 hteq
    clear hc hfz hPW e2 ht htx q2
    go_wp2_with fail
    refine bodyPost_ret (v := .tuple #[idV (0 : Nat) 0, .bool false, .int .i64 10]) (by simp [results, Tryd.results37, go_sem, r0, r1]) rfl ?_
    rw [e3.out]
    have hb := (HPWW.out.below.setCell (p := ⟨w.heap.size, 0, none⟩) (Nat.le_refl _) (.int .u32 0)).setCell (p := ⟨w.heap.size, 1, none⟩) (Nat.le_refl _) (.int .i64 0)
    exact ⟨.slice (some ⟨g, 0, none⟩) l.length cap, rfl, HR.out.below hb, fun k hk => .inl hk, Off.of_below hb⟩
end Go.Proofs.YtpkaflbdcoffdaaDoor
