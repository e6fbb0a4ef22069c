/-
  Own text. node.copyOf and (*node.Node).keep by contracts: files are put into a node, and the bin of a rep.
  Own text. (*node.Node).Recipe by a contract.
  Own text. (*node.Node).Size by a contract.
-/
import Derived.Test.YtcbcjefefmbccaaDoorG09
import Derived.Test.YtcbcjefefmbccaaDoorG11
import Derived.Test.YtcbcjefefmbccaaDoorG02
namespace Go.Proofs.YtcbcjefefmbccaaDoor
open Go.RowKit Go.Maps

theorem IdsIn.off {base : Nat} {F : Nat → Prop} {w w' : World} {v : Value} {ids : List (Nat × Int)} (h : IdsIn base w v ids) (ho : Off F w w') (hn : ∀ k, base ≤ k → ¬ F k) : IdsIn base w' v ids := by
  obtain ⟨p, c, rfl, h⟩ := h
  refine ⟨p, c, rfl, fun i hi => ?_⟩
  obtain ⟨b, o, rfl, hb0, hb, h0, h1⟩ := h i hi
  have he : w'.heap[b]? = w.heap[b]? := ho.block b hb (hn b hb0)
  exact ⟨b, o, rfl, hb0, Nat.lt_of_lt_of_le hb ho.size, (World.cell?_of_block (w := w) he).trans h0, (World.cell?_of_block (w := w) he).trans h1⟩
theorem IdsIn.own {base : Nat} {w : World} {v : Value} {ids : List (Nat × Int)} (h : IdsIn base w v ids) (hne : ids ≠ []) {k : Nat} (hk : v.ownBlock = some k) : base ≤ k ∧ k < w.heap.size := by
  obtain ⟨p, c, rfl, h⟩ := h
  obtain ⟨b, o, rfl, hb0, hb, _⟩ := h 0 (List.length_pos_iff.2 hne)
  have : b = k := by simpa [Value.ownBlock] using hk
  omega
set_option maxRecDepth 100000 in
set_option maxHeartbeats 4000000 in
theorem copyOf_any (X : ByteArray) (L P : Int) (v : Value) (ids : List (Nat × Int)) (w : World) (hv : IdsAt w v ids) (hlen : ids.length ≤ 50000) :
    Calls Tryd.prog 80 #[rcpV X L P v] w fun e w' => ∃ v', e = .returned (rcpV X L P v') ∧ IdsIn w.heap.size w' v' ids ∧ Below w.heap.size w w' := by
  have HL := hideN hlen
  have HI := hideN hv
  obtain ⟨pv0, cv0, rfl, _⟩ := hv
  obtain ⟨idl, hidl⟩ : ∃ idl, ids.length = idl := ⟨_, rfl⟩
  have HID := hideN hidl
  rw [hidl] at HI ⊢
  clear hlen hidl
  have hal := (Below.refl w.heap.size w).alloc (Nat.le_refl _) (.cells #[.string X, .int .i64 L, .int .u32 P, .slice pv0 idl cv0] 87)
  have hr := Blk.new w #[.string X, .int .i64 L, .int .u32 P, .slice pv0 idl cv0] 87
  have hal2 := (Below.refl (w.alloc (.cells #[.string X, .int .i64 L, .int .u32 P, .slice pv0 idl cv0] 87)).heap.size (w.alloc (.cells #[.string X, .int .i64 L, .int .u32 P, .slice pv0 idl cv0] 87))).alloc (Nat.le_refl _) (.cells #[.string ⟨#[]⟩, .int .i64 0, .int .u32 0, .slice none 0 0] 87)
  have hbr2 := Blk.new (w.alloc (.cells #[.string X, .int .i64 L, .int .u32 P, .slice pv0 idl cv0] 87)) #[.string ⟨#[]⟩, .int .i64 0, .int .u32 0, .slice none 0 0] 87
  have hs1 : (w.alloc (.cells #[.string X, .int .i64 L, .int .u32 P, .slice pv0 idl cv0] 87)).heap.size = w.heap.size + 1 := by simp
  rw [hs1] at hbr2
  have hr2 := hr.next hal2
  have HB2 : Hid (Below w.heap.size w _) := hideN (hal.trans (hal2.mono hal.size))
  have HI2 := hideN ((HI.out.below hal).below hal2)
  clear hal hal2 hr HI hs1
  go_enter Tryd.func80, Tryd.ntmps80
  go_wp2_with fail
  generalize ((w.alloc (.cells #[.string X, .int .i64 L, .int .u32 P, .slice pv0 idl cv0] 87)).alloc (.cells #[.string ⟨#[]⟩, .int .i64 0, .int .u32 0, .slice none 0 0] 87)) = W2 at *
  have a3 := hr2.cell (i := 3) rfl
  go_wp2_with fail
  refine (cloneIds_any (.slice pv0 idl cv0) ids W2 HI2.out HL.out).mono ?_
  rintro e w3 ⟨v3, rfl, hi3, hb3⟩
  have HI3 := hideN hi3
  have HB3 : Hid (Below w.heap.size w w3) := HB2.out.trans (hb3.mono HB2.out.size)
  have hbr3 := hbr2.next hb3
  have hr3 := hr2.next hb3
  have hlt3 := hbr2.lt
  obtain ⟨p3, c3, hv3, _⟩ := hi3
  rw [HID.out] at hv3
  subst hv3
  clear hb3 HI2 hbr2 hr2 a3
  have hr4 := hr3.set 3 (.slice p3 idl c3)
  have hbr4 := hbr3.other (a := ⟨w.heap.size, 3, none⟩) (by simp only; omega) (.slice p3 idl c3)
  have y3 := hr3.cell (i := 3) rfl
  have z3 := hr3.frozen 3
  have k0 := hbr4.cell (i := 0) rfl
  have k1 := hbr4.cell (i := 1) rfl
  have k2 := hbr4.cell (i := 2) rfl
  have k3 := hbr4.cell (i := 3) rfl
  have f0 := hbr4.frozen 0
  have f1 := hbr4.frozen 1
  have f2 := hbr4.frozen 2
  have f3 := hbr4.frozen 3
  have r0 := hr4.cell (i := 0) rfl
  have r1 := hr4.cell (i := 1) rfl
  have r2 := hr4.cell (i := 2) rfl
  have r3 := hr4.cell (i := 3) rfl
  go_wp2_with fail
  have hRs := (((hbr4.set 0 (.string X)).set 1 (.int .i64 L)).set 2 (.int .u32 P)).set 3 (.slice p3 idl c3)
  have s0 := hRs.cell (i := 0) rfl
  have s1 := hRs.cell (i := 1) rfl
  have s2 := hRs.cell (i := 2) rfl
  have s3 := hRs.cell (i := 3) rfl
  have hO := (((((Off.of_below (F := fun k => k = w.heap.size + 1 ∨ k = w.heap.size) (Below.refl w3.heap.size w3)).setCell (p := ⟨w.heap.size, 3, none⟩) (.inl (.inr rfl)) (.slice p3 idl c3)).setCell (p := ⟨w.heap.size + 1, 0, none⟩) (.inl (.inl rfl)) (.string X)).setCell (p := ⟨w.heap.size + 1, 1, none⟩) (.inl (.inl rfl)) (.int .i64 L)).setCell (p := ⟨w.heap.size + 1, 2, none⟩) (.inl (.inl rfl)) (.int .u32 P)).setCell (p := ⟨w.heap.size + 1, 3, none⟩) (.inl (.inl rfl)) (.slice p3 idl c3)
  have hi9 := (HI3.out.off hO (fun k hk e => by rcases e with e | e <;> omega)).low (show w.heap.size ≤ W2.heap.size by omega)
  exact bodyPost_ret (v := .agg #[.string X, .int .i64 L, .int .u32 P, .slice p3 idl c3]) (by simp [results, Tryd.results80, go_sem, s0, s1, s2, s3]) rfl ⟨.slice p3 idl c3, rfl, hi9, HB3.out.trans (hO.below HB3.out.size (fun j hj e => by rcases e with e | e <;> omega))⟩

def KeepPost (w : World) (N mf mb : Nat) (vi : List UInt8 → Value) (Fi : Nat × Int → Nat → Prop) (fs : List Rcp) (bs : List NBin) (F8 : Nat → Prop) (fs' : List Rcp) (bs' : List NBin) (e : Ending) (w' : World) : Prop :=
  e = .returned (.tuple #[]) ∧ ∃ vi' pi' Fi', NAtR w' N mf mb vi' pi' Fi' fs' bs' ∧ (∀ k, rFoot N mf mb vi' Fi' fs' bs' k → rFoot N mf mb vi Fi fs bs k ∨ F8 k ∨ w.heap.size ≤ k) ∧ Off (fun k => k = mf ∨ k = mb) w w'
set_option maxRecDepth 100000 in
set_option maxHeartbeats 8000000 in
theorem keep_any (N mf mb : Nat) (vi : List UInt8 → Value) (pi : Nat × Int → Addr) (Fi : Nat × Int → Nat → Prop) (fs : List Rcp) (bs : List NBin) (x : Nat × Int) (q : Addr) (F8 : Nat → Prop) (bl : List Hd) (vl : Value) (fl : List Rcp) (w : World) (hx : WfID x)
    (h : NAtR w N mf mb vi pi Fi fs bs) (hq : PBin0 w q F8 bl) (hF8 : ∀ k, F8 k → ¬ rFoot N mf mb vi Fi fs bs k) (hv : ∀ W, Off (fun k => k = mf) w W → RcpsAt W vl fl)
    (hnew : ∀ r ∈ fl, ∀ g ∈ fs, g.1 ≠ r.1) (hap : fl.Pairwise (fun f g => f.1 ≠ g.1)) (hnm : ∀ r ∈ fl, r.1.length ≤ 50000) (hids : ∀ r ∈ fl, r.2.2.2.length ≤ 50000) (hlen : fl.length ≤ 1000) (hsl : fs.length ≤ 1000) (hbl : bs.length ≤ 1000) :
    Calls Tryd.prog 79 #[.pointer (some ⟨N, 0, none⟩), idV (x.1 : Nat) x.2, .pointer (some q), vl] w (KeepPost w N mf mb vi Fi fs bs F8 (fl.reverse ++ fs) ((x, bl) :: bs.filter (fun b => !decide (b.1 = x)))) := by
  have HH := hideN h
  have HQ := hideN hq
  have HF8 := hideN hF8
  have HV := hideN hv
  have HNEW := hideN hnew
  have HAP := hideN hap
  have HNM := hideN hnm
  have HIDS := hideN hids
  have HLEN := hideN hlen
  have HSL := hideN hsl
  have HBL := hideN hbl
  have HX := hideN hx
  obtain ⟨xp, xl⟩ := x
  obtain ⟨pa, ca, hvl, _⟩ := hv w (Off.refl _ _)
  subst hvl
  have hal := (Below.refl w.heap.size w).alloc (Nat.le_refl _) (.cells #[.int .u32 (xp : Nat), .int .i64 xl] 37)
  have HXB := hideN (Blk.new w #[.int .u32 (xp : Nat), .int .i64 xl] 37)
  have HH1 := hideN (h.below hal)
  have HO1 : Hid (Off (fun k => k = mf) w _) := hideN (Off.of_below (F := fun k => k = mf) hal)
  have q0 := HH1.out.blk.cell (i := 0) rfl
  have hlen' : (fl.length : Int) ≤ 1000 := by omega
  have hmq := fun w => run_eql_map_nil_sl (P := Tryd.prog) w 131 _ _ (some mf) Tryd.underlying131
  clear h hq hF8 hv hnew hap hnm hids hlen hsl hbl hx hal
  go_enter Tryd.func79, Tryd.ntmps79
  go_wp2_with fail
  obtain ⟨W1, hW1⟩ : ∃ W1, w.alloc (.cells #[.int .u32 (xp : Nat), .int .i64 xl] 37) = W1 := ⟨_, rfl⟩
  rw [hW1] at HXB HH1 HO1 ⊢
  obtain ⟨XB, hXB⟩ : ∃ XB, w.heap.size = XB := ⟨_, rfl⟩
  have HXE : Hid (XB = w.heap.size) := hXB.symm
  rw [hXB] at HXB ⊢
  clear hW1 hXB q0
  go_loopw [25] (fun iv wr => ∃ (j : Nat) (vi' : List UInt8 → Value), j ≤ fl.length ∧ iv = .int .i64 j ∧ Hid (NAtR wr N mf mb vi' pi Fi ((fl.take j).reverse ++ fs) bs) ∧ Hid (∀ k, rFoot N mf mb vi' Fi ((fl.take j).reverse ++ fs) bs k → rFoot N mf mb vi Fi fs bs k ∨ w.heap.size ≤ k) ∧ Hid (Off (fun k => k = mf) w wr) ∧ Hid (Blk wr XB #[.int .u32 (xp : Nat), .int .i64 xl] 37)) (fun iv _ => fl.length - (intOf iv).toNat)
  case atStart => exact ⟨0, vi, Nat.zero_le _, rfl, HH1.out, fun k hk => .inl hk, HO1.out, HXB.out⟩
  case round =>
    clear HH1 HO1 HXB
    obtain ⟨j, vi', hj, rfl, HN, HFT, HO, HXB⟩ := hrel
    by_cases hlt : j < fl.length
    · have hlt' : (j : Int) < (fl.length : Int) := by omega
      have hj0 : (0 : Int) ≤ (j : Int) := by omega
      obtain ⟨_, _, hve, hcell⟩ := HV.out wr HO.out
      obtain ⟨rfl, rfl⟩ : pa = _ ∧ ca = _ := by simpa using hve
      obtain ⟨b, o, v, rfl, hr⟩ := hcell j hlt
      have HTK := hideN (List.take_succ_eq_append_getElem hlt)
      have hmem := List.getElem_mem hlt
      have HNJ := hideN (HNM.out _ hmem)
      have HIJ := hideN (HIDS.out _ hmem)
      have HGJ : Hid (∀ g ∈ (fl.take j).reverse ++ fs, g.1 ≠ fl[j].1) := fun g hg => by
        rcases List.mem_append.1 hg with hg | hg
        · have hg' := List.mem_reverse.1 hg
          obtain ⟨i, hi, rfl⟩ := List.getElem_of_mem hg'
          rw [List.length_take] at hi
          rw [List.getElem_take]
          exact (List.pairwise_iff_getElem.1 HAP.out) i j (by omega) hlt (by omega)
        · exact HNEW.out _ hmem g hg
      obtain ⟨⟨r1, rl, rp, ids⟩, hxj⟩ : ∃ x, fl[j] = x := ⟨_, rfl⟩
      rw [hxj] at hr HTK HNJ HIJ HGJ
      simp only at HNJ HIJ HGJ
      obtain ⟨c0, c1, c2, c3⟩ := And.intro hr.c0 (And.intro hr.c1 (And.intro hr.c2 hr.c3))
      simp only at c0 c1 c2 c3
      have hids := hr.ids
      simp only at hids
      have HIW := hideN hids
      obtain ⟨pv, cv, hvv, _⟩ := hids
      subst hvv
      obtain ⟨idl, hidl⟩ : ∃ idl, ids.length = idl := ⟨_, rfl⟩
      have HIDL := hideN hidl
      rw [hidl] at c3 HIW
      obtain ⟨X, hX⟩ : ∃ X : ByteArray, (⟨r1.toArray⟩ : ByteArray) = X := ⟨_, rfl⟩
      have HXX := hideN hX
      have hXs : X.size ≤ 50000 := by
        rw [← hX]
        show r1.toArray.size ≤ 50000
        rw [List.size_toArray]
        exact HNJ.out
      rw [hX] at c0
      have HXS := hideN hXs
      clear hcell hve hmem hxj hr hidl hX hXs
      have hal := (Below.refl wr.heap.size wr).alloc (Nat.le_refl _) (.cells #[.string X, .int .i64 rl, .int .u32 rp, .slice pv idl cv] 87)
      have hrb := Blk.new wr #[.string X, .int .i64 rl, .int .u32 rp, .slice pv idl cv] 87
      have HN2 := hideN (HN.out.below hal)
      have HO2 : Hid (Off (fun k => k = mf) w _) := hideN (HO.out.trans (Off.of_below (F := fun k => k = mf) hal) (fun _ _ h => h))
      have HX2 := hideN (HXB.out.next hal)
      have HI2 := hideN (HIW.out.below hal)
      have HSZ : Hid (w.heap.size ≤ wr.heap.size ∧ XB < wr.heap.size ∧ mf < wr.heap.size ∧ mb < wr.heap.size ∧ N < wr.heap.size) := ⟨HO.out.size, HXB.out.lt, HN.out.files.lt, HN.out.bins.lt, HN.out.blk.lt⟩
      have HLT : Hid (∀ k, rFoot N mf mb vi' Fi ((fl.take j).reverse ++ fs) bs k → k < wr.heap.size) := HN.out.lt
      have k0 := hrb.cell (i := 0) rfl
      have k1 := hrb.cell (i := 1) rfl
      have k2 := hrb.cell (i := 2) rfl
      have k3 := hrb.cell (i := 3) rfl
      have HRB := hideN hrb
      clear hal hrb HN HO HXB HIW
      go_wp2_with fail
      obtain ⟨W2, hW2⟩ : ∃ W2, wr.alloc (.cells #[.string X, .int .i64 rl, .int .u32 rp, .slice pv idl cv] 87) = W2 := ⟨_, rfl⟩
      have HS2 : Hid (W2.heap.size = wr.heap.size + 1) := by show _ = _; rw [← hW2]; simp
      rw [hW2] at HN2 HO2 HX2 HI2 HRB k0 k1 k2 k3 ⊢
      obtain ⟨RB, hRB⟩ : ∃ RB, wr.heap.size = RB := ⟨_, rfl⟩
      rw [hRB] at HSZ HLT HRB HS2 k0 k1 k2 k3 ⊢
      clear hW2 hRB c0 c1 c2 c3
      refine (copyOf_any X rl rp (.slice pv idl cv) ids W2 HI2.out HIJ.out).mono ?_
      rintro e w3 ⟨v3, rfl, hi3, hb3⟩
      have HI3 := hideN hi3
      obtain ⟨p3, c3, hv3, _⟩ := hi3
      rw [HIDL.out] at hv3
      subst hv3
      have hr3 := HRB.out.next hb3
      have HN3 := hideN (HN2.out.below hb3)
      have HO3 : Hid (Off (fun k => k = mf) w w3) := HO2.out.trans (Off.of_below (F := fun k => k = mf) hb3) (fun _ _ h => h)
      have HX3 := hideN (HX2.out.next hb3)
      have HS3 : Hid (RB < W2.heap.size ∧ W2.heap.size ≤ w3.heap.size) := ⟨by have := HS2.out; omega, hb3.size⟩
      have y0 := hr3.cell (i := 0) rfl
      have y1 := hr3.cell (i := 1) rfl
      have y2 := hr3.cell (i := 2) rfl
      have y3 := hr3.cell (i := 3) rfl
      have z0 := hr3.frozen 0
      have z1 := hr3.frozen 1
      have z2 := hr3.frozen 2
      have z3 := hr3.frozen 3
      have hr4 := (((hr3.set 0 (.string X)).set 1 (.int .i64 rl)).set 2 (.int .u32 rp)).set 3 (.slice p3 idl c3)
      have hO4 := ((((Off.of_below (F := fun k => k = RB) (Below.refl w3.heap.size w3)).setCell (p := ⟨RB, 0, none⟩) (.inl rfl) (.string X)).setCell (p := ⟨RB, 1, none⟩) (.inl rfl) (.int .i64 rl)).setCell (p := ⟨RB, 2, none⟩) (.inl rfl) (.int .u32 rp)).setCell (p := ⟨RB, 3, none⟩) (.inl rfl) (.slice p3 idl c3)
      have HN4 := hideN (HN3.out.off hO4 (fun k hk e => by have := HLT.out k hk; omega))
      have HO4 : Hid (Off (fun k => k = mf) w _) := hideN (HO3.out.trans hO4 (fun i hi e => by have := HSZ.out; omega))
      have HX4 := hideN (hO4.blk HX3.out (fun e => by have := HSZ.out; omega))
      have HI4 := hideN (HI3.out.off hO4 (fun k hk e => by have := HS3.out; omega))
      have HR4 := hideN hr4
      have x0 := hr4.cell (i := 0) rfl
      clear hb3 HN2 HO2 HX2 HI2 hr3 hr4 hO4 HN3 HO3 HX3 HI3 k0 k1 k2 k3 HRB
      go_wp2_with fail
      obtain ⟨W4, hW4⟩ : ∃ W4, ((((w3.setCell ⟨RB, 0, none⟩ (.string X)).setCell ⟨RB, 1, none⟩ (.int .i64 rl)).setCell ⟨RB, 2, none⟩ (.int .u32 rp)).setCell ⟨RB, 3, none⟩ (.slice p3 idl c3)) = W4 := ⟨_, rfl⟩
      have HS4 : Hid (W4.heap.size = w3.heap.size) := by show _ = _; rw [← hW4]; simp
      rw [hW4] at HN4 HO4 HX4 HI4 HR4 ⊢
      clear hW4 x0 y0 y1 y2 y3 z0 z1 z2 z3
      refine (cloneText_any X W4 HXS.out).mono ?_
      rintro e w5 ⟨rfl, hb5⟩
      have hr5 := HR4.out.next hb5
      have hr6 := hr5.set 0 (.string X)
      have hO6 : Off (fun k => k = RB) w5 (w5.setCell ⟨RB, 0, none⟩ (.string X)) := (Off.of_below (F := fun k => k = RB) (Below.refl w5.heap.size w5)).setCell (p := ⟨RB, 0, none⟩) (.inl rfl) (.string X)
      have HN6 := hideN ((HN4.out.below hb5).off hO6 (fun k hk e => by have := HLT.out k hk; omega))
      have HO6 : Hid (Off (fun k => k = mf) w _) := hideN ((HO4.out.trans (Off.of_below (F := fun k => k = mf) hb5) (fun _ _ h => h)).trans hO6 (fun i hi e => by have := HSZ.out; omega))
      have HX6 := hideN (hO6.blk (HX4.out.next hb5) (fun e => by have := HSZ.out; omega))
      have HI6 := hideN ((HI4.out.below hb5).off hO6 (fun k hk e => by have := HS3.out; omega))
      have HS5 : Hid (W4.heap.size ≤ w5.heap.size) := hb5.size
      have y0 := hr5.cell (i := 0) rfl
      have z0 := hr5.frozen 0
      have HR6 := hideN hr6
      have x0 := hr6.cell (i := 0) rfl
      have x1 := hr6.cell (i := 1) rfl
      have x2 := hr6.cell (i := 2) rfl
      have x3 := hr6.cell (i := 3) rfl
      have q0 := HN6.out.blk.cell (i := 0) rfl
      clear hb5 HN4 HO4 HX4 HI4 HR4 hr5 hr6 hO6
      go_wp2_with fail
      obtain ⟨W6, hW6⟩ : ∃ W6, w5.setCell ⟨RB, 0, none⟩ (.string X) = W6 := ⟨_, rfl⟩
      have HS6 : Hid (W6.heap.size = w5.heap.size) := by show _ = _; rw [← hW6]; simp
      rw [hW6] at HN6 HO6 HX6 HI6 HR6 x0 x1 x2 x3 q0 ⊢
      clear hW6 y0 z0
      have hrw : rwV (rwR (r1, rl, rp, ids) (.slice p3 idl c3)) = .agg #[.string X, .int .i64 rl, .int .u32 rp, .slice p3 idl c3] := by
        unfold rwR rwV
        simp only
        rw [HXX.out]
      have hwn : WfNm r1 := by show r1.length ≤ maxLen; have := HNJ.out; unfold maxLen; omega
      have hflen : ((((fl.take j).reverse ++ fs).map fun r => (r.1, rwR r (vi' r.1)))).length < maxLen := by
        rw [List.length_map, List.length_append, List.length_reverse, List.length_take]
        have h1 := HLEN.out
        have h2 := HSL.out
        unfold maxLen
        omega
      obtain ⟨w7, hst, hOf7, hg7⟩ := (ofS_drew HN6.out.files).store Tryd.underlying131 hwn (rwR (r1, rl, rp, ids) (.slice p3 idl c3)) hflen
      change (Instr.mapUpdate 131 (.map (some mf)) (.string ⟨r1.toArray⟩) (rwV (rwR (r1, rl, rp, ids) (.slice p3 idl c3)))).run Tryd.prog _ = _ at hst
      rw [HXX.out, hrw] at hst
      have HOF7 : Hid (strRcps.Of w7 mf ((r1, rwR (r1, rl, rp, ids) (.slice p3 idl c3)) :: ((fl.take j).reverse ++ fs).map fun r => (r.1, rwR r (vi' r.1)))) := hOf7 _ (by
        rw [List.filter_eq_self.2 (fun y hy => by
          obtain ⟨f, hfm, rfl⟩ := List.mem_map.1 hy
          simpa using HGJ.out f hfm)])
      have HO67 : Hid (Off (fun k => k = mf) W6 w7) := off_of_grown (grown_drew hg7) rfl
      clear hrw hwn hflen hOf7 hg7
      go_region
      all_goals
        go_wp2_with fail
        have hnat := NAtR.file (r := (r1, rl, rp, ids)) (v := .slice p3 idl c3) HN6.out HO67.out HOF7.out HGJ.out (HI6.out.at.off HO67.out (fun hne k hk e => by have h1 := HI6.out.own hne hk; have h2 := HS3.out; have h3 := HSZ.out; omega)) (fun hne k hk => by
          have h1 := HI6.out.own hne hk
          refine ⟨Nat.lt_of_lt_of_le h1.2 HO67.out.size, fun hf => ?_⟩
          have := HLT.out k hf
          have h2 := HS3.out
          omega)
        have hft : ∀ k, rFoot N mf mb (fun n => if n = r1 then .slice p3 idl c3 else vi' n) Fi ((r1, rl, rp, ids) :: ((fl.take j).reverse ++ fs)) bs k → rFoot N mf mb vi Fi fs bs k ∨ w.heap.size ≤ k := fun k hk => by
          rcases rFoot_file (r := (r1, rl, rp, ids)) HGJ.out hk with h | ⟨hne, h⟩
          · exact HFT.out k h
          · have h1 := HI6.out.own hne h
            have h2 := HS3.out
            have h3 := HSZ.out
            exact .inr (by omega)
        have htk : (r1, rl, rp, ids) :: ((fl.take j).reverse ++ fs) = (fl.take (j + 1)).reverse ++ fs := by rw [HTK.out, List.reverse_append]; rfl
        rw [htk] at hnat hft
        have HN7 := hideN hnat
        have HFT7 := hideN hft
        have HO7 : Hid (Off (fun k => k = mf) w w7) := HO6.out.trans HO67.out (fun _ _ h => h)
        have HX7 := hideN (HO67.out.blk HX6.out (fun e => by have h1 := HXE.out; have h2 := HH.out.files.lt; omega))
        clear hst hnat hft htk x0 x1 x2 x3 q0
        go_roundw
        case rel => exact ⟨j + 1, _, hlt, by go_num, HN7.out, HFT7.out, HO7.out, HX7.out⟩
        case measure => simp [intOf]; omega
    · have hge : (fl.length : Int) ≤ (j : Int) := by omega
      rw [List.take_of_length_le (by omega)] at HN HFT
      have q1 := HN.out.blk.cell (i := 1) rfl
      have e0 := HXB.out.cell (i := 0) rfl
      have e1 := HXB.out.cell (i := 1) rfl
      obtain ⟨w8, hst, hOf8, hg8⟩ := (ofB_drew HN.out.bins).store Tryd.underlying132 HX.out (some q) (by rw [List.length_map]; have := HBL.out; unfold maxLen; omega)
      change (Instr.mapUpdate 132 (.map (some mb)) (idV (xp : Nat) xl) (.pointer (some q))).run Tryd.prog _ = _ at hst
      have HOF8 : Hid (idBins.Of w8 mb (((xp, xl), some q) :: (bs.filter (fun b => !decide (b.1 = (xp, xl)))).map fun b => (b.1, some (pi b.1)))) := hOf8 _ (by
        rw [List.filter_map]
        exact List.Perm.refl _)
      have HO8 : Hid (Off (fun k => k = mb) wr w8) := off_of_grown (grown_drew hg8) rfl
      clear hOf8 hg8
      go_wp2_with fail
      go_region
      all_goals
        go_wp2_with fail
        refine bodyPost_end (v := .tuple #[]) (by simp [results, Tryd.results79, go_sem]) rfl ⟨rfl, vi', _, _, NAtR.rep HN.out HO8.out HOF8.out ((HQ.out.off HO.out (fun k hk e => HF8.out k hk (.inr (.inl e)))).off HO8.out (fun k hk e => HF8.out k hk (.inr (.inr (.inl e))))) (fun k hk hf => ?_), fun k hk => ?_, ?_⟩
        · rcases HFT.out k hf with h | h
          · exact HF8.out k hk h
          · have := HQ.out.lt k hk; omega
        · rcases rFoot_rep hk with h | h
          · rcases HFT.out k h with h | h
            · exact .inl h
            · exact .inr (.inr h)
          · exact .inr (.inl h)
        · exact HO.out.two HO8.out
end Go.Proofs.YtcbcjefefmbccaaDoor
namespace Go.Proofs.YtcbcjefefmbccaaDoor
open Go.RowKit Go.Maps

def RecPost (a : Nat → Addr) (nm : ByteArray) (w : World) (r : Option (List UInt8)) (e : Ending) (w' : World) : Prop :=
  (match r with
    | none => ∃ ev, e = .returned (.tuple #[rcpV ⟨#[]⟩ 0 0 (.slice none 0 0), ev]) ∧ ErrIn w.heap.size w' a ev (5, -1)
    | some s => ∃ v, e = .returned (.tuple #[rcpV nm (s.length : Int) ((pmore 2166136261 s : Nat) : Int) v, .nilIface]) ∧ IdsIn w.heap.size w' v (idsOf s)) ∧ Below w.heap.size w w'
set_option maxRecDepth 100000 in
set_option maxHeartbeats 2000000 in
theorem nodeRecipe_any (a : Nat → Addr) (nm : ByteArray) (p : Addr) (F : Nat → Prop) (st : NSt) (w : World) (hnm : nm.size ≤ 50000) (hlen : ∀ f ∈ st.files, (idsOf f.2).length ≤ 50000) (hE : ErrE [4] w a) (hP : PNode w p F st) :
    Calls Tryd.prog 48 #[.pointer (some p), .string nm] w (RecPost a nm w (nFile st.files nm.data.toList)) := by
  obtain ⟨N, mf, mb, vi, pi, Fi, rfl, h, _⟩ := hP
  have HEE : Hid (∀ W, Below w.heap.size w W → ErrE [4] W a) := fun W hb => hE.below hb (Nat.le_refl _)
  have hal := (Below.refl w.heap.size w).alloc (Nat.le_refl _) (.cells #[.string ⟨#[]⟩, .int .i64 0, .int .u32 0, .slice none 0 0] 87)
  have hbr := Blk.new w #[.string ⟨#[]⟩, .int .i64 0, .int .u32 0, .slice none 0 0] 87
  have h1 := h.below hal
  have q0 := h1.blk.cell (i := 0) rfl
  have HH := hideN h1
  have hnw : WfNm nm.data.toList := by show nm.data.toList.length ≤ maxLen; rw [Array.length_toList]; show nm.size ≤ maxLen; unfold maxLen; omega
  have hnmE : (⟨nm.data.toList.toArray⟩ : ByteArray) = nm := by simp
  cases hf : nFile st.files nm.data.toList with
  | none =>
    have l0 : (Instr.lookup 131 (.map (some mf)) (.string nm) true).run Tryd.prog (w.alloc (.cells #[.string ⟨#[]⟩, .int .i64 0, .int .u32 0, .slice none 0 0] 87)) = .ok (.tuple #[.agg #[.string ⟨#[]⟩, .int .i64 0, .int .u32 0, .slice none 0 0], .bool false]) (w.alloc (.cells #[.string ⟨#[]⟩, .int .i64 0, .int .u32 0, .slice none 0 0] 87)) := by
      have := h1.files.look_none Tryd.underlying131 (rcpZero _) hnw (fun y hy => by
        obtain ⟨f, hfm, rfl⟩ := List.mem_map.1 hy
        exact nFile_none hf f hfm)
      change (Instr.lookup _ _ (.string ⟨nm.data.toList.toArray⟩) true).run _ _ = _ at this
      rw [hnmE] at this
      exact this
    clear h h1 hf hnmE hE hlen
    go_enter Tryd.func48, Tryd.ntmps48
    have hal2 := (Below.refl (w.alloc (.cells #[.string ⟨#[]⟩, .int .i64 0, .int .u32 0, .slice none 0 0] 87)).heap.size (w.alloc (.cells #[.string ⟨#[]⟩, .int .i64 0, .int .u32 0, .slice none 0 0] 87))).alloc (Nat.le_refl _) (.cells #[.string ⟨#[]⟩, .int .i64 0, .int .u32 0, .slice none 0 0] 87)
    have HB2 : Hid (Below w.heap.size w _) := hideN (hal.trans (hal2.mono hal.size))
    have hbr2 := hbr.next hal2
    have g4 := (HEE.out _ HB2.out).glob 4 rfl
    change World.cell? _ ⟨4, 0, none⟩ = _ at g4
    have hgl : 4 < w.heap.size := lt_of_cell ((HEE.out w (Below.refl _ _)).glob 4 rfl)
    have hgl2 : 4 ≠ w.heap.size := by omega
    clear hal hal2 hbr
    go_wp2_with fail
    generalize ((w.alloc (.cells #[.string ⟨#[]⟩, .int .i64 0, .int .u32 0, .slice none 0 0] 87)).alloc (.cells #[.string ⟨#[]⟩, .int .i64 0, .int .u32 0, .slice none 0 0] 87)) = W2 at *
    have k0 := hbr2.cell (i := 0) rfl
    have k1 := hbr2.cell (i := 1) rfl
    have k2 := hbr2.cell (i := 2) rfl
    have k3 := hbr2.cell (i := 3) rfl
    have f0 := hbr2.frozen 0
    have f1 := hbr2.frozen 1
    have f2 := hbr2.frozen 2
    have f3 := hbr2.frozen 3
    go_region
    all_goals
      go_wp2_with fail
      have hRs := (((hbr2.set 0 (.string ⟨#[]⟩)).set 1 (.int .i64 0)).set 2 (.int .u32 0)).set 3 (.slice none 0 0)
      have s0 := hRs.cell (i := 0) rfl
      have s1 := hRs.cell (i := 1) rfl
      have s2 := hRs.cell (i := 2) rfl
      have s3 := hRs.cell (i := 3) rfl
      exact bodyPost_ret (v := .tuple #[.agg #[.string ⟨#[]⟩, .int .i64 0, .int .u32 0, .slice none 0 0], sentV a 4]) (by simp [results, Tryd.results48, go_sem, s0, s1, s2, s3]) rfl ⟨⟨_, rfl, .inr (.inl ⟨4, by decide, rfl, rfl⟩)⟩, ((((HB2.out.setCell (p := ⟨w.heap.size, 0, none⟩) (Nat.le_refl _) _).setCell (p := ⟨w.heap.size, 1, none⟩) (Nat.le_refl _) _).setCell (p := ⟨w.heap.size, 2, none⟩) (Nat.le_refl _) _).setCell (p := ⟨w.heap.size, 3, none⟩) (Nat.le_refl _) _).drew⟩
  | some s =>
    obtain ⟨pv0, cv0, hv0, _⟩ := h1.ids _ (nFile_some hf)
    have HL := hideN (hlen _ (nFile_some hf))
    have HI := hideN (h1.ids _ (nFile_some hf))
    simp only at hv0 HL HI
    have l0 : (Instr.lookup 131 (.map (some mf)) (.string nm) true).run Tryd.prog (w.alloc (.cells #[.string ⟨#[]⟩, .int .i64 0, .int .u32 0, .slice none 0 0] 87)) = .ok (.tuple #[.agg #[.string nm, .int .i64 (s.length : Int), .int .u32 ((pmore 2166136261 s : Nat) : Int), .slice pv0 (idsOf s).length cv0], .bool true]) (w.alloc (.cells #[.string ⟨#[]⟩, .int .i64 0, .int .u32 0, .slice none 0 0] 87)) := by
      have := h1.files.look_some Tryd.underlying131 (rcpZero _) (List.mem_map.2 ⟨_, nFile_some hf, rfl⟩)
      change (Instr.lookup _ _ (.string ⟨nm.data.toList.toArray⟩) true).run _ _ = .ok (.tuple #[rcpV ⟨nm.data.toList.toArray⟩ (s.length : Int) ((pmore 2166136261 s : Nat) : Int) (vi nm.data.toList), .bool true]) _ at this
      rw [hnmE, hv0] at this
      exact this
    rw [hv0] at HI
    obtain ⟨P, hPP⟩ : ∃ P, pmore 2166136261 s = P := ⟨_, rfl⟩
    obtain ⟨L, hLL⟩ : ∃ L, (s.length : Int) = L := ⟨_, rfl⟩
    obtain ⟨idl, hidl⟩ : ∃ idl, (idsOf s).length = idl := ⟨_, rfl⟩
    have HPP := hideN hPP
    have HLL := hideN hLL
    have HID := hideN hidl
    rw [hPP, hLL, hidl] at l0
    rw [hidl] at HI
    clear h h1 hf hnmE hE hlen hv0 hPP hLL hidl
    have hal2 := (Below.refl (w.alloc (.cells #[.string ⟨#[]⟩, .int .i64 0, .int .u32 0, .slice none 0 0] 87)).heap.size (w.alloc (.cells #[.string ⟨#[]⟩, .int .i64 0, .int .u32 0, .slice none 0 0] 87))).alloc (Nat.le_refl _) (.cells #[.string nm, .int .i64 L, .int .u32 (P : Nat), .slice pv0 idl cv0] 87)
    go_enter Tryd.func48, Tryd.ntmps48
    have hbr2 := hbr.next hal2
    have hr2 := Blk.new (w.alloc (.cells #[.string ⟨#[]⟩, .int .i64 0, .int .u32 0, .slice none 0 0] 87)) #[.string nm, .int .i64 L, .int .u32 (P : Nat), .slice pv0 idl cv0] 87
    have hs1 : (w.alloc (.cells #[.string ⟨#[]⟩, .int .i64 0, .int .u32 0, .slice none 0 0] 87)).heap.size = w.heap.size + 1 := by simp
    rw [hs1] at hr2
    have HB2 : Hid (Below w.heap.size w _) := hideN (hal.trans (hal2.mono hal.size))
    have HI2 := hideN (HI.out.below hal2)
    clear hal hal2 hbr HI hs1
    go_wp2_with fail
    generalize ((w.alloc (.cells #[.string ⟨#[]⟩, .int .i64 0, .int .u32 0, .slice none 0 0] 87)).alloc (.cells #[.string nm, .int .i64 L, .int .u32 (P : Nat), .slice pv0 idl cv0] 87)) = W2 at *
    have u0 := hr2.cell (i := 0) rfl
    have u1 := hr2.cell (i := 1) rfl
    have u2 := hr2.cell (i := 2) rfl
    have u3 := hr2.cell (i := 3) rfl
    go_wp2_with fail
    refine (copyOf_any nm L (P : Nat) (.slice pv0 idl cv0) (idsOf s) W2 HI2.out HL.out).mono ?_
    rintro e w3 ⟨v3, rfl, hi3, hb3⟩
    have HI3 := hideN hi3
    have HB3 : Hid (Below w.heap.size w w3) := HB2.out.trans (hb3.mono HB2.out.size)
    have hbr3 := hbr2.next hb3
    have hlt3 := hr2.lt
    obtain ⟨p3, c3, hv3, _⟩ := hi3
    rw [HID.out] at hv3
    subst hv3
    clear hb3 HI2 hbr2 hr2 u0 u1 u2 u3
    have k0 := hbr3.cell (i := 0) rfl
    have k1 := hbr3.cell (i := 1) rfl
    have k2 := hbr3.cell (i := 2) rfl
    have k3 := hbr3.cell (i := 3) rfl
    have f0 := hbr3.frozen 0
    have f1 := hbr3.frozen 1
    have f2 := hbr3.frozen 2
    have f3 := hbr3.frozen 3
    go_wp2_with fail
    have hRs := (((hbr3.set 0 (.string nm)).set 1 (.int .i64 L)).set 2 (.int .u32 (P : Nat))).set 3 (.slice p3 idl c3)
    have s0 := hRs.cell (i := 0) rfl
    have s1 := hRs.cell (i := 1) rfl
    have s2 := hRs.cell (i := 2) rfl
    have s3 := hRs.cell (i := 3) rfl
    have hO := ((((Off.of_below (F := fun k => k = w.heap.size) (Below.refl w3.heap.size w3)).setCell (p := ⟨w.heap.size, 0, none⟩) (.inl rfl) (.string nm)).setCell (p := ⟨w.heap.size, 1, none⟩) (.inl rfl) (.int .i64 L)).setCell (p := ⟨w.heap.size, 2, none⟩) (.inl rfl) (.int .u32 (P : Nat))).setCell (p := ⟨w.heap.size, 3, none⟩) (.inl rfl) (.slice p3 idl c3)
    have hi9 := (HI3.out.off hO (fun k hk e => by omega)).low (show w.heap.size ≤ W2.heap.size by omega)
    exact bodyPost_ret (v := .tuple #[.agg #[.string nm, .int .i64 L, .int .u32 (P : Nat), .slice p3 idl c3], .nilIface]) (by simp [results, Tryd.results48, go_sem, s0, s1, s2, s3]) rfl ⟨⟨.slice p3 idl c3, by rw [HLL.out, HPP.out], hi9⟩, HB3.out.trans (hO.below HB3.out.size (fun j hj e => by omega))⟩
end Go.Proofs.YtcbcjefefmbccaaDoor
namespace Go.Proofs.YtcbcjefefmbccaaDoor
open Go.RowKit Go.Maps

def nSize (l : List NBin) : Int := (l.map fun b => hSize b.2).sum
theorem nSize_cons (b : NBin) (l : List NBin) : nSize (b :: l) = hSize b.2 + nSize l := by simp [nSize]
theorem nSize_perm {a b : List NBin} (h : a.Perm b) : nSize a = nSize b := by
  induction h with
  | nil => rfl
  | cons x _ ih => rw [nSize_cons, nSize_cons, ih]
  | swap x y l => rw [nSize_cons, nSize_cons, nSize_cons, nSize_cons]; omega
  | trans _ _ h1 h2 => rw [h1, h2]
theorem nSize_bound : ∀ (l : List NBin), (∀ b ∈ l, BinOk 1000000 b.2) → 0 ≤ nSize l ∧ nSize l ≤ l.length * 16000
  | [], _ => by simp [nSize]
  | b :: r, h => by
    have h1 := nSize_bound r (fun c hc => h c (List.mem_cons_of_mem _ hc))
    have h2 := hSize_filter_bound (h b (List.mem_cons_self ..)) (fun _ => true)
    rw [List.filter_eq_self.2 (fun _ _ => rfl)] at h2
    rw [nSize_cons, List.length_cons]
    omega
set_option maxRecDepth 100000 in
set_option maxHeartbeats 4000000 in
theorem nodeSize_any (p : Addr) (F : Nat → Prop) (st : NSt) (w : World) (hok : ∀ b ∈ st.bins, BinOk 1000000 b.2) (hn : st.bins.length ≤ 1000) (hP : PNode w p F st) :
    Calls Tryd.prog 76 #[.pointer (some p)] w fun e w' => e = .returned (.int .i64 (nSize st.bins)) ∧ Below w.heap.size w w' := by
  obtain ⟨N, mf, mb, vi, pi, Fi, rfl, h, _⟩ := hP
  have q1 := h.blk.cell (i := 1) rfl
  have hM := h.bins
  have hap : st.bins.Pairwise (fun p q => p.1 ≠ q.1) := by
    have := hM.apart
    rw [List.pairwise_map] at this
    exact this
  have hbl := hM.lt
  have HH := hideN h
  have HOK : Hid (∀ b ∈ st.bins, BinOk 1000000 b.2) := hok
  have HNB : Hid (∀ q : NBin → Bool, 0 ≤ nSize (st.bins.filter q) ∧ nSize (st.bins.filter q) ≤ 16000000) := fun q => by
    have h1 := nSize_bound (st.bins.filter q) (fun b hb => hok b (List.mem_filter.1 hb).1)
    have h2 := List.length_filter_le q st.bins
    omega
  obtain ⟨L, hL⟩ : ∃ L, (st.bins.map fun b => (b.1, some (pi b.1))) = L := ⟨_, rfl⟩
  have HL : Hid ((st.bins.map fun b => (b.1, some (pi b.1))) = L) := hL
  rw [hL] at hM
  clear hok h hL
  go_enter Tryd.func76, Tryd.ntmps76
  go_wp2_with (first
    | (at_range; refine wp_range_kit idBins _ rfl _ 132 rfl 52 Tryd.underlying132 mb L rfl hM ?_; intro w0 hr0 hg0 hs0)
    | go_in)
  go_frame
  go_loopw [3] (fun n wr => ∃ (left : Nat × Int → Bool) (cnt : Nat), n = .int .i64 (nSize (st.bins.filter (fun b => !left b.1))) ∧ idBins.Rng wr mb w.heap.size L left cnt ∧ w.grownBy wr none) (fun _ wr => wr.rangeLeft mb w.heap.size)
  case atStart =>
    refine ⟨_, _, ?_, hr0, hg0⟩
    rw [List.filter_eq_nil_iff.2 (fun b hm => by
      have : b.1 ∈ L.map (·.1) := List.mem_map.2 ⟨(b.1, some (pi b.1)), by rw [← HL.out]; exact List.mem_map.2 ⟨b, hm, rfl⟩, rfl⟩
      simp only [Bool.not_eq_true', Bool.not_eq_false, decide_eq_true_eq]
      exact this)]
    rfl
  case round =>
    obtain ⟨left, cnt, rfl, hrg, hgw⟩ := hrel
    obtain ⟨n1, n2⟩ := HNB.out (fun b => !left b.1)
    obtain ⟨Z, hZ⟩ : ∃ Z, nSize (st.bins.filter (fun b => !left b.1)) = Z := ⟨_, rfl⟩
    have HZ : Hid (nSize (st.bins.filter (fun b => !left b.1)) = Z) := hZ
    rw [hZ] at n1 n2 ⊢
    clear hZ
    go_wp2_with (first
      | (at_next; refine wp_next_kit idBins _ rfl _ rfl mb w.heap.size L left cnt rfl hrg ?_ ?_)
      | go_in)
    · intro h0
      have HZ0 : Hid (nSize st.bins = Z) := by
        show _ = _
        rw [← HZ.out, List.filter_eq_self.2 (fun b hm => by
          have := h0 b.1.1 b.1.2 (some (pi b.1)) (by rw [← HL.out]; exact List.mem_map.2 ⟨b, hm, rfl⟩)
          simp [this])]
      clear h0
      go_wp2_with fail
      go_ret
      exact ⟨by rw [HZ0.out]; rfl, below_of_grown hgw⟩
    · intro xp xl c w1 cnt1 hm hlx hrg1 hlt hg1 hs1 hen
      rw [← HL.out] at hm
      obtain ⟨⟨y, bl⟩, hyb, hye⟩ := List.mem_map.1 hm
      obtain ⟨hy, rfl⟩ : y = (xp, xl) ∧ some (pi y) = c := by simpa using hye
      subst hy
      change (Instr.entry (.pointer (some ⟨w.heap.size, 0, none⟩))).run Tryd.prog w1 = .ok (.tuple #[idV (xp : Nat) xl, .pointer (some (pi (xp, xl)))]) w1 at hen
      have hfl := filter_flip hap (p := left) hyb hlx
      have HS : Hid (nSize (st.bins.filter (fun y => !(left y.1 && !decide (y.1 = (xp, xl))))) = hSize bl + Z) := by
        show _ = _
        rw [nSize_perm hfl, nSize_cons, HZ.out]
      obtain ⟨m1, m2⟩ := HNB.out (fun y => !(left y.1 && !decide (y.1 = (xp, xl))))
      rw [HS.out] at m1 m2
      have hw : IntKind.i64.wrap (Z + hSize bl) = Z + hSize bl := by rw [IntKind.wrap_i64]; omega
      have hgw1 := hgw.andThen hg1 (fun j hj => by cases hj; exact .inl (Nat.le_refl _))
      have HC := hideN (pSize_any (pi (xp, xl)) (Fi (xp, xl)) bl w1 (HOK.out _ hyb) ((HH.out.bin _ hyb).off (Off.of_below (F := fun _ => False) (below_of_grown hgw1)) (fun _ _ h => h)))
      generalize pi (xp, xl) = q at *
      generalize hSize bl = hb at *
      clear hfl hM hr0 hg0 hm hye hyb
      go_wp2_with fail
      refine HC.out.mono ?_
      rintro e w2 ⟨rfl, hb2⟩
      have hg2 := grown_of_below hb2
      have hrg2 := hrg1.kept hg2 (by simp) (by simp)
      have hgw2 := hgw1.andThen hg2 (fun j hj => by cases hj)
      go_wp2_with fail
      go_roundw
      case rel => exact ⟨_, cnt1, by rw [HS.out, Int.add_comm], hrg2, hgw2⟩
      case measure => rw [hrg2.left_eq, hrg.left_eq]; exact hlt
end Go.Proofs.YtcbcjefefmbccaaDoor
