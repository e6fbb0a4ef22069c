/-
  Own text. The document's node by contracts: AddFile.
-/
import Derived.Test.YtjdobbjdlighpabGreatDoorH28
import Derived.Sort.Walk0
namespace Go.Proofs.YtjdobbjdlighpabGreatDoor
open Go.RowKit Go.Maps

theorem row_take {w : World} {base : Nat} {e : TypeId} {sz : Nat} {v : Value} {n : Nat} {A B : List Value} (h : w.ownsRow base e sz v n (A ++ B)) {g : Nat} (hg : v.ownBlock = some g) : ∀ j u, A[j]? = some u → w.cell? ((⟨g, 0, none⟩ : Addr).add j) = some u := fun j u hj => by
  have hl := (List.getElem?_eq_some_iff.1 hj).1
  exact h.cells (g := g) hg j u (by rw [List.getElem?_append_left hl]; exact hj)
theorem row_drop {w : World} {base : Nat} {e : TypeId} {sz : Nat} {v : Value} {n : Nat} {A B : List Value} (h : w.ownsRow base e sz v n (A ++ B)) {g : Nat} (hg : v.ownBlock = some g) : ∀ j u, B[j]? = some u → w.cell? ((⟨g, A.length, none⟩ : Addr).add j) = some u := fun j u hj => by
  have := h.cells (g := g) hg (A.length + j) u (by rw [List.getElem?_append_right (by omega), Nat.add_sub_cancel_left]; exact hj)
  have ha : ∀ o j, (⟨g, o, none⟩ : Addr).add j = ⟨g, o + j, none⟩ := fun o j => by unfold Addr.add; split <;> simp_all
  rw [ha] at this ⊢
  rwa [Nat.zero_add] at this
theorem slF_from (g n c i : Nat) (hi : i ≤ n) (hc : n ≤ c) : ∃ P4 c4, (∀ w : World, (Instr.slice 31 (.slice (some ⟨g, 0, none⟩) n c) (some (.int .i64 (i : Int))) none none).run Tryz.prog w = .ok (.slice (some P4) (n - i) c4) w) ∧ (i < n → P4 = ⟨g, i * 4, none⟩) := by
  have hj1 : (0 : Int) ≤ (i : Int) := by omega
  have hj2 : (i : Int) ≤ (n : Int) := by omega
  by_cases hcap : c = i
  · refine ⟨⟨g, 0, none⟩, c - i, fun w => ?_, fun h => by omega⟩
    go_simp
  · by_cases h0 : i = 0
    · subst h0
      refine ⟨⟨g, 0, none⟩, c - 0, fun w => ?_, fun h => by simp⟩
      go_simp
    · refine ⟨⟨g, i * 4, none⟩, c - i, fun w => ?_, fun h => rfl⟩
      go_simp
theorem slF_upto (g n c i : Nat) (hi : i ≤ n) (hc : n ≤ c) : ∀ w : World, (Instr.slice 31 (.slice (some ⟨g, 0, none⟩) n c) none (some (.int .i64 (i : Int))) none).run Tryz.prog w = .ok (.slice (some ⟨g, 0, none⟩) i c) w := by
  have hj1 : (0 : Int) ≤ (i : Int) := by omega
  have hj3 : (i : Int) ≤ (c : Int) := by omega
  intro w
  go_simp
theorem mfCells_one {ps : List MF} (h : ∀ q ∈ ps, q.2.oneCell' = true) : ∀ u ∈ mfCells ps, u.oneCell' = true := by
  induction ps with
  | nil => simp [mfCells]
  | cons x r ih =>
    intro u hu
    simp only [mfCells, List.mem_cons] at hu
    rcases hu with rfl | rfl | rfl | rfl | hu
    · rfl
    · rfl
    · rfl
    · exact h x (List.mem_cons_self ..)
    · exact ih (fun q hq => h q (List.mem_cons_of_mem _ hq)) u hu
theorem IdsAt.one {w : World} {v : Value} {ids : List (Nat × Int)} (h : IdsAt w v ids) : v.oneCell' = true := by
  obtain ⟨p, c, rfl, _⟩ := h
  rfl
/- The row of files is another one. -/
theorem MSt.setF {w W : World} {M : Nat} {vf vb vf' : Value} {ps ps' : List MF} {bs : List MB} (h : MSt w M vf vb ps bs) (hb : Below w.heap.size w W) (hr : W.ownsRow w.heap.size 40 4 vf' ps'.length (mfCells ps')) (hi : ∀ q ∈ ps', IdsAt w q.2 (idsOf q.1.2)) (hio : ∀ k, mIds ps' k → k ≠ M ∧ vb.ownBlock ≠ some k ∧ ¬ mBins bs k) :
    MSt (W.setCell ⟨M, 0, none⟩ vf') M vf' vb ps' bs ∧ Off (fun k => k = M) w (W.setCell ⟨M, 0, none⟩ vf') ∧ (∀ k, vf'.ownBlock = some k → w.heap.size ≤ k) := by
  have hM := h.blk.lt
  have hnew : ∀ k, vf'.ownBlock = some k → w.heap.size ≤ k := fun k hk => (hr.lt k hk).1
  have ho : Off (fun k => k = M) w (W.setCell ⟨M, 0, none⟩ vf') := Off.setCell (F := fun k => k = M) (p := ⟨M, 0, none⟩) (Off.of_below hb) (.inl rfl) _
  have ho2 : Off (fun k => k = M) W (W.setCell ⟨M, 0, none⟩ vf') := Off.setCell (F := fun k => k = M) (p := ⟨M, 0, none⟩) (Off.refl _ W) (.inl rfl) _
  have hl : ∀ k, mFoot M vf vb ps bs k → k < w.heap.size := h.lt
  refine ⟨⟨(h.blk.below hb hM).set 0 vf', ownsRow_low (ho2.row hr (fun k hk e => by have := hnew k hk; omega)) (Nat.zero_le _), ho.row h.brow (fun k hk e => h.mb (e ▸ hk)), fun q hq => (hi q hq).off ho (fun hne k hk e => (hio k ⟨q, hq, hne, hk⟩).1 e), fun x hx => (h.bins x hx).off ho (fun k hk e => (h.bm k ⟨x, hx, hk⟩).1 e), fun e => by have := hnew M e; omega, h.mb, fun k hk e => ?_, fun k hk => ?_, h.bb, fun k hk => ?_⟩, ho, hnew⟩
  · have := hnew k hk
    have := hl k (.inr (.inr (.inl e)))
    omega
  · obtain ⟨h1, _, h3⟩ := h.bm k hk
    exact ⟨h1, fun e => by have := hnew k e; have := hl k (.inr (.inr (.inr (.inl hk)))); omega, h3⟩
  · obtain ⟨h1, h2, h3⟩ := hio k hk
    obtain ⟨q, hq, hne, hk2⟩ := hk
    exact ⟨h1, fun e => by have := hnew k e; have := (hi q hq).lt hne hk2; omega, h2, h3⟩
def mInsF (ps : List MF) (j : Nat) (q : MF) : List MF := ps.take j ++ q :: ps.drop j
theorem mInsF_length {ps : List MF} {j : Nat} {q : MF} (hj : j ≤ ps.length) : (mInsF ps j q).length = j + 1 + (ps.length - j) := by
  unfold mInsF
  simp
  omega
theorem mInsF_cells (ps : List MF) (j : Nat) (q : MF) : mfCells (mInsF ps j q) = mfCells (ps.take j) ++ mfCells [q] ++ mfCells (ps.drop j) := by
  unfold mInsF
  rw [mfCells_append, List.append_assoc, show q :: ps.drop j = [q] ++ ps.drop j from rfl, mfCells_append [q]]
theorem mInsF_fs (ps : List MF) (q : MF) (j : Nat) (hj : kPlace ltN (mFs ps) q.1.1 = j) : mFs (mInsF ps j q) = kIns ltN (mFs ps) q.1 := by
  unfold mInsF kIns
  rw [hj]
  simp [mFs, List.map_take, List.map_drop]
theorem mInsF_mem {ps : List MF} {j : Nat} {q y : MF} (h : y ∈ mInsF ps j q) : y ∈ ps ∨ y = q := by
  unfold mInsF at h
  rcases List.mem_append.1 h with h | h
  · exact .inl (List.mem_of_mem_take h)
  · rcases List.mem_cons.1 h with h | h
    · exact .inr h
    · exact .inl (List.mem_of_mem_drop h)
def MemOr (ps' ps : List MF) (q : MF) : Prop := ∀ y ∈ ps', y ∈ ps ∨ y = q
set_option maxRecDepth 100000 in
set_option maxHeartbeats 8000000 in
theorem mAdd_any (M : Nat) (vf vb : Value) (ps : List MF) (bs : List MB) (X : ByteArray) (s : List UInt8) (v : Value) (w : World) (hn : ps.length ≤ 1000) (h : MSt w M vf vb ps bs) (hv : IdsAt w v (idsOf s)) (hio : idsOf s ≠ [] → ∀ k, v.ownBlock = some k → k ≠ M ∧ vb.ownBlock ≠ some k ∧ ¬ mBins bs k) :
    Calls Tryz.prog 107 #[.pointer (some ⟨M, 0, none⟩), rcpV X (s.length : Int) ((pmore 2166136261 s : Nat) : Int) v] w fun e w' => e = .returned (.tuple #[]) ∧ ∃ vf' ps', mFs ps' = kIns ltN (mFs ps) (X.data.toList, s) ∧ MSt w' M vf' vb ps' bs ∧ (∀ k, vf'.ownBlock = some k → w.heap.size ≤ k) ∧ MemOr ps' ps ((X.data.toList, s), v) ∧ Off (fun k => k = M) w w' := by
  obtain ⟨ti, hti, hz0, hz1, hz2⟩ := info_parts infoMf
  obtain ⟨pf, cf, hvf, hcell⟩ := h.files
  subst hvf
  have HH := hideN h
  have HV := hideN hv
  have HIO := hideN hio
  have HN := hideN hn
  have HV1 : Hid (v.oneCell' = true) := hv.one
  obtain ⟨pv, cv, hvv, _⟩ := id hv
  obtain ⟨idl, hidl⟩ : ∃ idl, (idsOf s).length = idl := ⟨_, rfl⟩
  rw [hidl] at hvv
  obtain ⟨PP, hPP⟩ : ∃ PP, pmore 2166136261 s = PP := ⟨_, rfl⟩
  obtain ⟨LL, hLL⟩ : ∃ LL, (s.length : Int) = LL := ⟨_, rfl⟩
  have HPP := hideN hPP
  have HLL := hideN hLL
  rw [hPP, hLL]
  subst hvv
  have hal := (Below.refl w.heap.size w).alloc (Nat.le_refl _) (.cells #[.string X, .int .i64 LL, .int .u32 (PP : Nat), .slice pv idl cv] 40)
  have HB1 := hideN hal
  have HR1 := hideN (Blk.new w #[.string X, .int .i64 LL, .int .u32 (PP : Nat), .slice pv idl cv] 40)
  have hl2 : (ps.length : Int) ≤ 1000 := by omega
  clear h hv hio hn hidl hPP hLL hal hcell
  go_enter Tryz.func107, Tryz.ntmps107
  go_wp2_with fail
  obtain ⟨W, hW⟩ : ∃ W, w.alloc (.cells #[.string X, .int .i64 LL, .int .u32 (PP : Nat), .slice pv idl cv] 40) = W := ⟨_, rfl⟩
  rw [hW] at HB1 HR1 ⊢
  obtain ⟨RB, hRB⟩ : ∃ RB, w.heap.size = RB := ⟨_, rfl⟩
  have HRB := hideN hRB
  rw [hRB] at HR1 ⊢
  clear hW hRB
  go_loopw [4] (fun i wr => ∃ j : Nat, j ≤ ps.length ∧ i = .int .i64 j ∧ Hid (Below W.heap.size W wr) ∧ Hid (∀ k (hk : k < (mFs ps).length), k < j → ltN (mFs ps)[k].1 X.data.toList = true)) (fun i _ => ps.length - (intOf i).toNat)
  case atStart => exact ⟨0, Nat.zero_le _, rfl, Below.refl _ _, fun k _ h => by omega⟩
  case round =>
    obtain ⟨j, hj, rfl, HB2, HLE⟩ := hrel
    have HBW : Hid (Below w.heap.size w wr) := HB1.out.trans (HB2.out.mono HB1.out.size)
    have hS := HH.out.below HBW.out
    have HS := hideN hS
    have HR2 := hideN (HR1.out.next HB2.out)
    obtain ⟨pf', cf', hvf', hcell⟩ := hS.files
    obtain ⟨rfl, rfl⟩ : pf = pf' ∧ cf = cf' := by simpa using hvf'
    have HC := hideN hcell
    have q0 := hS.blk.cell (i := 0) rfl
    have r0 := HR2.out.cell (i := 0) rfl
    have r1 := HR2.out.cell (i := 1) rfl
    have r2 := HR2.out.cell (i := 2) rfl
    have r3 := HR2.out.cell (i := 3) rfl
    have hj0 : (0 : Int) ≤ (j : Int) := by omega
    have HJ := hideN hj
    clear hS hvf' hcell
    by_cases hlt : j < ps.length
    · have hlt' : (j : Int) < (ps.length : Int) := by omega
      obtain ⟨b, o, rfl, ⟨hb, hc⟩, a0, _⟩ := HC.out j hlt
      obtain ⟨Y, hY⟩ : ∃ Y : ByteArray, (⟨ps[j].1.1.toArray⟩ : ByteArray) = Y := ⟨_, rfl⟩
      have hYd : Y.data.toList = ps[j].1.1 := by rw [← hY]
      rw [hY] at a0
      have HYD : Hid ((mFs ps)[j]'(by rw [mFs_length]; exact hlt) = (Y.data.toList, ps[j].1.2)) := by show _ = _; rw [mFs_get, hYd]
      have hbl0 : Op.bytesLess Y.toList X.toList = ltN Y.data.toList X.data.toList := by rw [Go.Proofs.bytesLess_eq, ByteArray.toList_eq, ByteArray.toList_eq]
      cases hlt2 : ltN Y.data.toList X.data.toList with
      | true =>
        have hbl : Op.bytesLess Y.toList X.toList = true := by rw [hbl0, hlt2]
        have HNX : Hid (∀ k (hk : k < (mFs ps).length), k < j + 1 → ltN (mFs ps)[k].1 X.data.toList = true) := fun k hk hkj => by
          rcases Nat.lt_or_ge k j with h' | h'
          · exact HLE.out k hk h'
          · obtain rfl : k = j := by omega
            rw [HYD.out]
            exact hlt2
        clear hY hYd hbl0 hlt2 HYD
        go_wp2_with fail
        go_quiet (fail)
        go_wp2_with fail
        go_roundw
        case rel => exact ⟨j + 1, hlt, by go_num, HB2.out.trans ((below_of_grown (grown_drewN wr nq)).mono HB2.out.size), HNX.out⟩
        case measure => simp [intOf]; omega
      | false =>
        have hbl : Op.bytesLess Y.toList X.toList = false := by rw [hbl0, hlt2]
        have HPL : Hid (kPlace ltN (mFs ps) X.data.toList = j) := kPlace_at ltN _ _ j (by rw [mFs_length]; exact hj) HLE.out (fun _ => by rw [HYD.out]; exact hlt2)
        clear hY hYd hbl0 hlt2 HYD
        go_wp2_with fail
        go_quiet (fail)
        have HBQ : Hid (Below W.heap.size W (wr.drewN nq)) := HB2.out.trans ((below_of_grown (grown_drewN wr nq)).mono HB2.out.size)
        obtain ⟨WQ, hWQ⟩ : ∃ WQ, wr.drewN nq = WQ := ⟨_, rfl⟩
        rw [hWQ] at HBQ ⊢
        clear hWQ q0 r0 r1 r2 r3 a0 HS HR2 HC hbl hb hc
        have HBX : Hid (Below w.heap.size w WQ) := HB1.out.trans (HBQ.out.mono HB1.out.size)
        have HS := hideN (HH.out.below HBX.out)
        have HRQ := hideN (HR1.out.next HBQ.out)
        have HML : Hid (M < WQ.heap.size) := HS.out.blk.lt
        have HRL : Hid (RB < WQ.heap.size) := HRQ.out.lt
        have HFZ : Hid (WQ.frozen? ⟨M, 0, none⟩ = false) := HS.out.blk.frozen 0
        have HQ0 : Hid (WQ.cell? ⟨M, 0, none⟩ = some (.slice (some ⟨b, o, none⟩) ps.length cf)) := HS.out.blk.cell (i := 0) rfl
        have HCR : Hid (∀ W', Below WQ.heap.size WQ W' → W'.cell? ⟨RB, 0, none⟩ = some (.string X) ∧ W'.cell? ⟨RB, 1, none⟩ = some (.int .i64 LL) ∧ W'.cell? ⟨RB, 2, none⟩ = some (.int .u32 (PP : Nat)) ∧ W'.cell? ⟨RB, 3, none⟩ = some (.slice pv idl cv)) := fun W' hb => by
          have h := HRQ.out.next hb
          exact ⟨h.cell (i := 0) rfl, h.cell (i := 1) rfl, h.cell (i := 2) rfl, h.cell (i := 3) rfl⟩
        have q0 := HQ0.out
        have hids : ∀ y ∈ mInsF ps j ((X.data.toList, s), .slice pv idl cv), IdsAt w y.2 (idsOf y.1.2) := fun y hy => by
          rcases mInsF_mem hy with hy | rfl
          · exact HH.out.ids y hy
          · exact HV.out
        have HIDS := hideN hids
        have hqc : mfCells [((X.data.toList, s), Value.slice pv idl cv)] = [.string X, .int .i64 LL, .int .u32 (PP : Nat), .slice pv idl cv] := by
          rw [mfCells, mfCells]
          simp only
          rw [HLL.out, HPP.out, str_backK]
        have hcells := mInsF_cells ps j ((X.data.toList, s), .slice pv idl cv)
        rw [hqc] at hcells
        have HCELLS := hideN hcells
        clear hids hqc hcells
        obtain ⟨g, cap, hvg, hcap, hcap2⟩ := row_some HS.out.frow (by omega : 1 ≤ ps.length)
        obtain ⟨⟨hgb, ho0⟩, hcc⟩ : (g = b ∧ 0 = o) ∧ cf = cap := by simpa [eq_comm] using hvg
        subst hgb ho0 hcc
        have hsp : WQ.ownsRow 0 40 4 (.slice (some ⟨g, 0, none⟩) ps.length cf) ps.length (mfCells (ps.take j) ++ mfCells (ps.drop j)) := by
          rw [← mfCells_append, List.take_append_drop]
          exact HS.out.frow
        obtain ⟨P4, c4, hsl4, hP4⟩ := slF_from g ps.length cf j HJ.out hcap
        have hsl5 := slF_upto g ps.length cf j HJ.out hcap
        have HLT : Hid ((mfCells (ps.take j)).length = j * 4) := by show _ = _; rw [mfCells_length, List.length_take, Nat.min_eq_left HJ.out]
        have HLD : Hid ((mfCells (ps.drop j)).length = (ps.length - j) * 4) := by show _ = _; rw [mfCells_length, List.length_drop]
        have HC1 : Hid (∀ W', Below WQ.heap.size WQ W' → ∀ j' u, (mfCells (ps.take j))[j']? = some u → W'.cell? ((⟨g, 0, none⟩ : Addr).add j') = some u) := fun W' hb => row_take (row_below hsp hb) rfl
        have HC2 : Hid (∀ W', Below WQ.heap.size WQ W' → ∀ j' u, (mfCells (ps.drop j))[j']? = some u → W'.cell? (P4.add j') = some u) := fun W' hb j' u hj' => by
          have hjl := (List.getElem?_eq_some_iff.1 hj').1
          rw [HLD.out] at hjl
          rw [hP4 (by omega)]
          have := row_drop (row_below hsp hb) rfl j' u hj'
          rw [HLT.out] at this
          exact this
        have HO1 : Hid (∀ u ∈ mfCells (ps.take j), u.oneCell' = true) := mfCells_one fun y hy => (HH.out.ids y (List.mem_of_mem_take hy)).one
        have HO2 : Hid (∀ u ∈ mfCells (ps.drop j), u.oneCell' = true) := mfCells_one fun y hy => (HH.out.ids y (List.mem_of_mem_drop hy)).one
        clear hvg hsp hP4 hcap hcap2
        go_wp2_with (first
          | (at_builtin; refine wpList_append_own _ rfl (.tmp 28) (.tmp 34) 31 rfl WQ.heap.size 40 ti (rcpV ⟨#[]⟩ 0 0 (.slice none 0 0)) 4 56 Tryz.underlying31 hti hz0 hz1 hz2 rfl (by decide) (.slice none 0 0) 0 [] rfl (World.ownsRow_nil _ _ _ _) ⟨g, 0, none⟩ j cf (mfCells (ps.take j)) rfl HLT.out (HC1.out WQ (Below.refl _ _)) HO1.out (by have := HN.out; have := HJ.out; unfold maxLen; omega) (by have := HN.out; have := HJ.out; omega) (Nat.le_refl _) ?_; intro v3 w6 ho3 hg3 _; rw [Nat.zero_add, List.nil_append] at ho3; have hB3 : Below WQ.heap.size WQ w6 := (Below.refl _ WQ).grown hg3 (Nat.le_refl _) (fun k hk => by cases hk); have HO3 := hideN ho3; have HB3 := hideN hB3; clear hg3 ho3; have q3 := (hB3.cell (p := ⟨M, 0, none⟩) HML.out).trans HQ0.out; obtain ⟨z0, z1, z2, z3⟩ := HCR.out w6 HB3.out; clear hB3)
          | (at_builtin; refine wpList_append_own _ rfl (.tmp 36) (.tmp 38) 31 rfl WQ.heap.size 40 ti (rcpV ⟨#[]⟩ 0 0 (.slice none 0 0)) 4 56 Tryz.underlying31 hti hz0 hz1 hz2 rfl (by decide) v3 j (mfCells (ps.take j)) rfl (HO3.out.alloc _) ⟨w6.heap.size, 0, none⟩ 1 1 [.string X, .int .i64 LL, .int .u32 (PP : Nat), .slice pv idl cv] rfl rfl (fun j' u hj' => by rw [add_plain]; exact new_cell _ #[.string X, .int .i64 LL, .int .u32 (PP : Nat), .slice pv idl cv] _ (by rw [← hj']; simp) (by simp)) (by intro u hu; simp at hu; rcases hu with rfl | rfl | rfl | rfl <;> rfl) (by have := HN.out; have := HJ.out; unfold maxLen; omega) (by have := HN.out; have := HJ.out; omega) (by have := HB3.out.size; simp; omega) ?_; intro v4 w7 ho4 hg4 _; have hB4 : Below WQ.heap.size WQ w7 := (HB3.out.alloc HB3.out.size _).grown hg4 (by have := HB3.out.size; simp; omega) (fun k hk => (HO3.out.lt k hk).1); have HO4 := hideN ho4; have HB4 := hideN hB4; clear hg4 ho4; have q4 := (hB4.cell (p := ⟨M, 0, none⟩) HML.out).trans HQ0.out; clear hB4)
          | (at_builtin; refine wpList_append_own _ rfl (.tmp 41) (.tmp 47) 31 rfl WQ.heap.size 40 ti (rcpV ⟨#[]⟩ 0 0 (.slice none 0 0)) 4 56 Tryz.underlying31 hti hz0 hz1 hz2 rfl (by decide) v4 (j + 1) _ rfl HO4.out P4 (ps.length - j) c4 (mfCells (ps.drop j)) rfl HLD.out (HC2.out w7 HB4.out) HO2.out (by have := HN.out; have := HJ.out; unfold maxLen; omega) (by have := HN.out; have := HJ.out; omega) HB4.out.size ?_; intro v5 w8 ho5 hg5 _; have hB5 : Below WQ.heap.size WQ w8 := HB4.out.grown hg5 HB4.out.size (fun k hk => (HO4.out.lt k hk).1); have HO5 := hideN ho5; have HB5 := hideN hB5; clear hg5 ho5; obtain ⟨p5, c5, hu5⟩ := row_shapeK HO5.out; subst hu5; have q5 := (hB5.cell (p := ⟨M, 0, none⟩) HML.out).trans HQ0.out; have f5 := (hB5.frozen (p := ⟨M, 0, none⟩) HML.out).trans HFZ.out; clear hB5))
        refine bodyPost_end (v := .tuple #[]) (results_none Tryz.results107 _ _ _) rfl ?_
        have ho5 := HO5.out
        rw [← HCELLS.out] at ho5
        have hfin := HH.out.setF (vf' := .slice p5 (j + 1 + (ps.length - j)) c5) (HBX.out.trans (HB5.out.mono HBX.out.size)) (ownsRow_low (by rw [mInsF_length HJ.out]; exact ho5) HBX.out.size) HIDS.out (fun k hk => by
          obtain ⟨y, hy, hne, hk2⟩ := hk
          rcases mInsF_mem hy with hy | rfl
          · obtain ⟨h1, _, h3, h4⟩ := HH.out.io k ⟨y, hy, hne, hk2⟩
            exact ⟨h1, h3, h4⟩
          · exact HIO.out hne k hk2)
        exact ⟨rfl, _, _, mInsF_fs ps ((X.data.toList, s), .slice pv idl cv) j HPL.out, hfin.1, hfin.2.2, fun y hy => mInsF_mem hy, hfin.2.1⟩
    · have hge : (ps.length : Int) ≤ (j : Int) := by omega
      have HPL : Hid (kPlace ltN (mFs ps) X.data.toList = j) := kPlace_at ltN _ _ j (by rw [mFs_length]; exact hj) HLE.out (fun h => by rw [mFs_length] at h; omega)
      go_wp2_with fail
      go_quiet (fail)
      have HBQ : Hid (Below W.heap.size W (wr.drewN nq)) := HB2.out.trans ((below_of_grown (grown_drewN wr nq)).mono HB2.out.size)
      obtain ⟨WQ, hWQ⟩ : ∃ WQ, wr.drewN nq = WQ := ⟨_, rfl⟩
      rw [hWQ] at HBQ ⊢
      clear hWQ q0 r0 r1 r2 r3 HS HR2 HC hge
      have HBX : Hid (Below w.heap.size w WQ) := HB1.out.trans (HBQ.out.mono HB1.out.size)
      have HS := hideN (HH.out.below HBX.out)
      have HRQ := hideN (HR1.out.next HBQ.out)
      have HML : Hid (M < WQ.heap.size) := HS.out.blk.lt
      have HRL : Hid (RB < WQ.heap.size) := HRQ.out.lt
      have HFZ : Hid (WQ.frozen? ⟨M, 0, none⟩ = false) := HS.out.blk.frozen 0
      have HQ0 : Hid (WQ.cell? ⟨M, 0, none⟩ = some (.slice pf ps.length cf)) := HS.out.blk.cell (i := 0) rfl
      have HCR : Hid (∀ W', Below WQ.heap.size WQ W' → W'.cell? ⟨RB, 0, none⟩ = some (.string X) ∧ W'.cell? ⟨RB, 1, none⟩ = some (.int .i64 LL) ∧ W'.cell? ⟨RB, 2, none⟩ = some (.int .u32 (PP : Nat)) ∧ W'.cell? ⟨RB, 3, none⟩ = some (.slice pv idl cv)) := fun W' hb => by
        have h := HRQ.out.next hb
        exact ⟨h.cell (i := 0) rfl, h.cell (i := 1) rfl, h.cell (i := 2) rfl, h.cell (i := 3) rfl⟩
      have q0 := HQ0.out
      have hids : ∀ y ∈ mInsF ps j ((X.data.toList, s), .slice pv idl cv), IdsAt w y.2 (idsOf y.1.2) := fun y hy => by
        rcases mInsF_mem hy with hy | rfl
        · exact HH.out.ids y hy
        · exact HV.out
      have HIDS := hideN hids
      have hqc : mfCells [((X.data.toList, s), Value.slice pv idl cv)] = [.string X, .int .i64 LL, .int .u32 (PP : Nat), .slice pv idl cv] := by
        rw [mfCells, mfCells]
        simp only
        rw [HLL.out, HPP.out, str_backK]
      have hcells := mInsF_cells ps j ((X.data.toList, s), .slice pv idl cv)
      rw [hqc] at hcells
      have HCELLS := hideN hcells
      clear hids hqc hcells
      obtain ⟨_, hrow⟩ := HS.out.frow
      rcases hrow with ⟨hv0, hn0⟩ | ⟨g, cap, cur, hv0, _, _, hcap, hcap2, _⟩
      · obtain rfl : ps = [] := List.length_eq_zero_iff.1 hn0
        obtain rfl : j = 0 := Nat.le_zero.1 HJ.out
        obtain ⟨rfl, rfl⟩ : pf = none ∧ cf = 0 := by simpa using hv0
        clear hv0 hn0
        obtain ⟨z0, z1, z2, z3⟩ := HCR.out WQ (Below.refl _ _)
        go_wp2_with ((at_builtin; refine wpList_append_own _ rfl (.tmp 36) (.tmp 38) 31 rfl WQ.heap.size 40 ti (rcpV ⟨#[]⟩ 0 0 (.slice none 0 0)) 4 56 Tryz.underlying31 hti hz0 hz1 hz2 rfl (by decide) (.slice none 0 0) 0 [] rfl (World.ownsRow_nil _ _ _ _) ⟨WQ.heap.size, 0, none⟩ 1 1 [.string X, .int .i64 LL, .int .u32 (PP : Nat), .slice pv idl cv] rfl rfl (fun j' u hj' => by rw [add_plain]; exact new_cell _ #[.string X, .int .i64 LL, .int .u32 (PP : Nat), .slice pv idl cv] _ (by rw [← hj']; simp) (by simp)) (by intro u hu; simp at hu; rcases hu with rfl | rfl | rfl | rfl <;> rfl) (by unfold maxLen; omega) (by omega) (by simp) ?_; intro v4 w7 ho4 hg4 _; have hB4 : Below WQ.heap.size WQ w7 := ((Below.refl _ WQ).alloc (Nat.le_refl _) _).grown hg4 (by simp) (fun k hk => by cases hk); have HO4 := hideN ho4; have HB4 := hideN hB4; clear hg4 ho4; obtain ⟨g5, c5, hu5, hc5, hc6⟩ := row_some HO4.out (by omega); subst hu5; have q4 := (hB4.cell (p := ⟨M, 0, none⟩) HML.out).trans HQ0.out; have f4 := (hB4.frozen (p := ⟨M, 0, none⟩) HML.out).trans HFZ.out; clear hB4))
        refine bodyPost_end (v := .tuple #[]) (results_none Tryz.results107 _ _ _) rfl ?_
        have ho5 := HO4.out
        rw [List.nil_append] at ho5
        have hfin := HH.out.setF (vf' := .slice (some ⟨g5, 0, none⟩) (0 + 1) c5) (ps' := mInsF [] 0 ((X.data.toList, s), .slice pv idl cv)) (HBX.out.trans (HB4.out.mono HBX.out.size)) (ownsRow_low (by rw [HCELLS.out]; simpa [mInsF, mfCells] using ho5) HBX.out.size) HIDS.out (fun k hk => by
          obtain ⟨y, hy, hne, hk2⟩ := hk
          rcases mInsF_mem hy with hy | rfl
          · obtain ⟨h1, _, h3, h4⟩ := HH.out.io k ⟨y, hy, hne, hk2⟩
            exact ⟨h1, h3, h4⟩
          · exact HIO.out hne k hk2)
        exact ⟨rfl, _, _, mInsF_fs [] ((X.data.toList, s), .slice pv idl cv) 0 HPL.out, hfin.1, hfin.2.2, fun y hy => mInsF_mem hy, hfin.2.1⟩
      · obtain ⟨rfl, rfl⟩ : pf = some ⟨g, 0, none⟩ ∧ cf = cap := by simpa using hv0
        have hsp : WQ.ownsRow 0 40 4 (.slice (some ⟨g, 0, none⟩) ps.length cf) ps.length (mfCells (ps.take j) ++ mfCells (ps.drop j)) := by
          rw [← mfCells_append, List.take_append_drop]
          exact HS.out.frow
        obtain ⟨P4, c4, hsl4, hP4⟩ := slF_from g ps.length cf j HJ.out hcap
        have hsl5 := slF_upto g ps.length cf j HJ.out hcap
        have HLT : Hid ((mfCells (ps.take j)).length = j * 4) := by show _ = _; rw [mfCells_length, List.length_take, Nat.min_eq_left HJ.out]
        have HLD : Hid ((mfCells (ps.drop j)).length = (ps.length - j) * 4) := by show _ = _; rw [mfCells_length, List.length_drop]
        have HC1 : Hid (∀ W', Below WQ.heap.size WQ W' → ∀ j' u, (mfCells (ps.take j))[j']? = some u → W'.cell? ((⟨g, 0, none⟩ : Addr).add j') = some u) := fun W' hb => row_take (row_below hsp hb) rfl
        have HC2 : Hid (∀ W', Below WQ.heap.size WQ W' → ∀ j' u, (mfCells (ps.drop j))[j']? = some u → W'.cell? (P4.add j') = some u) := fun W' hb j' u hj' => by
          have hjl := (List.getElem?_eq_some_iff.1 hj').1
          rw [HLD.out] at hjl
          rw [hP4 (by omega)]
          have := row_drop (row_below hsp hb) rfl j' u hj'
          rw [HLT.out] at this
          exact this
        have HO1 : Hid (∀ u ∈ mfCells (ps.take j), u.oneCell' = true) := mfCells_one fun y hy => (HH.out.ids y (List.mem_of_mem_take hy)).one
        have HO2 : Hid (∀ u ∈ mfCells (ps.drop j), u.oneCell' = true) := mfCells_one fun y hy => (HH.out.ids y (List.mem_of_mem_drop hy)).one
        clear hv0 hsp hP4 hcap hcap2
        go_wp2_with (first
          | (at_builtin; refine wpList_append_own _ rfl (.tmp 28) (.tmp 34) 31 rfl WQ.heap.size 40 ti (rcpV ⟨#[]⟩ 0 0 (.slice none 0 0)) 4 56 Tryz.underlying31 hti hz0 hz1 hz2 rfl (by decide) (.slice none 0 0) 0 [] rfl (World.ownsRow_nil _ _ _ _) ⟨g, 0, none⟩ j cf (mfCells (ps.take j)) rfl HLT.out (HC1.out WQ (Below.refl _ _)) HO1.out (by have := HN.out; have := HJ.out; unfold maxLen; omega) (by have := HN.out; have := HJ.out; omega) (Nat.le_refl _) ?_; intro v3 w6 ho3 hg3 _; rw [Nat.zero_add, List.nil_append] at ho3; have hB3 : Below WQ.heap.size WQ w6 := (Below.refl _ WQ).grown hg3 (Nat.le_refl _) (fun k hk => by cases hk); have HO3 := hideN ho3; have HB3 := hideN hB3; clear hg3 ho3; have q3 := (hB3.cell (p := ⟨M, 0, none⟩) HML.out).trans HQ0.out; obtain ⟨z0, z1, z2, z3⟩ := HCR.out w6 HB3.out; clear hB3)
          | (at_builtin; refine wpList_append_own _ rfl (.tmp 36) (.tmp 38) 31 rfl WQ.heap.size 40 ti (rcpV ⟨#[]⟩ 0 0 (.slice none 0 0)) 4 56 Tryz.underlying31 hti hz0 hz1 hz2 rfl (by decide) v3 j (mfCells (ps.take j)) rfl (HO3.out.alloc _) ⟨w6.heap.size, 0, none⟩ 1 1 [.string X, .int .i64 LL, .int .u32 (PP : Nat), .slice pv idl cv] rfl rfl (fun j' u hj' => by rw [add_plain]; exact new_cell _ #[.string X, .int .i64 LL, .int .u32 (PP : Nat), .slice pv idl cv] _ (by rw [← hj']; simp) (by simp)) (by intro u hu; simp at hu; rcases hu with rfl | rfl | rfl | rfl <;> rfl) (by have := HN.out; have := HJ.out; unfold maxLen; omega) (by have := HN.out; have := HJ.out; omega) (by have := HB3.out.size; simp; omega) ?_; intro v4 w7 ho4 hg4 _; have hB4 : Below WQ.heap.size WQ w7 := (HB3.out.alloc HB3.out.size _).grown hg4 (by have := HB3.out.size; simp; omega) (fun k hk => (HO3.out.lt k hk).1); have HO4 := hideN ho4; have HB4 := hideN hB4; clear hg4 ho4; have q4 := (hB4.cell (p := ⟨M, 0, none⟩) HML.out).trans HQ0.out; clear hB4)
          | (at_builtin; refine wpList_append_own _ rfl (.tmp 41) (.tmp 47) 31 rfl WQ.heap.size 40 ti (rcpV ⟨#[]⟩ 0 0 (.slice none 0 0)) 4 56 Tryz.underlying31 hti hz0 hz1 hz2 rfl (by decide) v4 (j + 1) _ rfl HO4.out P4 (ps.length - j) c4 (mfCells (ps.drop j)) rfl HLD.out (HC2.out w7 HB4.out) HO2.out (by have := HN.out; have := HJ.out; unfold maxLen; omega) (by have := HN.out; have := HJ.out; omega) HB4.out.size ?_; intro v5 w8 ho5 hg5 _; have hB5 : Below WQ.heap.size WQ w8 := HB4.out.grown hg5 HB4.out.size (fun k hk => (HO4.out.lt k hk).1); have HO5 := hideN ho5; have HB5 := hideN hB5; clear hg5 ho5; obtain ⟨p5, c5, hu5⟩ := row_shapeK HO5.out; subst hu5; have q5 := (hB5.cell (p := ⟨M, 0, none⟩) HML.out).trans HQ0.out; have f5 := (hB5.frozen (p := ⟨M, 0, none⟩) HML.out).trans HFZ.out; clear hB5))
        refine bodyPost_end (v := .tuple #[]) (results_none Tryz.results107 _ _ _) rfl ?_
        have ho5 := HO5.out
        rw [← HCELLS.out] at ho5
        have hfin := HH.out.setF (vf' := .slice p5 (j + 1 + (ps.length - j)) c5) (HBX.out.trans (HB5.out.mono HBX.out.size)) (ownsRow_low (by rw [mInsF_length HJ.out]; exact ho5) HBX.out.size) HIDS.out (fun k hk => by
          obtain ⟨y, hy, hne, hk2⟩ := hk
          rcases mInsF_mem hy with hy | rfl
          · obtain ⟨h1, _, h3, h4⟩ := HH.out.io k ⟨y, hy, hne, hk2⟩
            exact ⟨h1, h3, h4⟩
          · exact HIO.out hne k hk2)
        exact ⟨rfl, _, _, mInsF_fs ps ((X.data.toList, s), .slice pv idl cv) j HPL.out, hfin.1, hfin.2.2, fun y hy => mInsF_mem hy, hfin.2.1⟩
end Go.Proofs.YtjdobbjdlighpabGreatDoor
