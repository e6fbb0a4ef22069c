/-
  Own text. (scrub.count).checkBin by a contract, at anything (binE: the number of its error).
-/
import Derived.Test.YtcbcjefefmbccabGreatDoorS17
import Derived.Test.YtcbcjefefmbccabGreatDoorS27
namespace Go.Proofs.YtcbcjefefmbccabGreatDoor
open Go.RowKit Go.Maps

def pErr (U : Use → Option Int) (r : Nat × Int) (l : List Hd) (j : Nat) : Int :=
  if markE l j ≠ 0 then markE l j else match l[j]? with | some h => if (U (r, h.1)).getD 0 = h.2.1 then 0 else 11 | none => 0
def piecesErr (U : Use → Option Int) (r : Nat × Int) (l : List Hd) : Int := match firstErr (pErr U r l) 0 l.length with | none => 0 | some j => pErr U r l j
def ordBad (bs : List NBin) (k : Nat) (x : Nat × Int) : Bool := match k with | 0 => false | j + 1 => match bs[j]? with | none => false | some g => !lessB g.1 x
theorem ordBad_at {bs : List NBin} {k : Nat} {x : Nat × Int} (hk : k < bs.length) (h0 : 0 < k) : ordBad bs k x = !lessB (bs[k - 1]'(by omega)).1 x := by
  cases k with
  | zero => omega
  | succ j =>
    unfold ordBad
    simp only
    rw [List.getElem?_eq_getElem (show j < bs.length by omega)]
    rfl
def binE (F : Nat × Int → Option Int) (U : Use → Option Int) (bs : List NBin) (k : Nat) : Int :=
  match bs[k]? with
  | none => 0
  | some b => if ordBad bs k b.1 = true then 8 else if (F b.1).getD 0 = 0 then 3 else piecesErr U b.1 b.2
theorem binE_order {F : Nat × Int → Option Int} {U : Use → Option Int} {bs : List NBin} {k : Nat} (hk : k < bs.length) (h0 : 0 < k) (h : lessB (bs[k - 1]'(by omega)).1 bs[k].1 = false) : binE F U bs k = 8 := by
  unfold binE
  rw [List.getElem?_eq_getElem hk]
  simp only
  rw [if_pos (by rw [ordBad_at hk h0, h]; rfl)]
theorem binE_go {F : Nat × Int → Option Int} {U : Use → Option Int} {bs : List NBin} {k : Nat} (hk : k < bs.length) (h : ∀ h0 : 0 < k, lessB (bs[k - 1]'(by omega)).1 bs[k].1 = true) : binE F U bs k = if (F bs[k].1).getD 0 = 0 then 3 else piecesErr U bs[k].1 bs[k].2 := by
  unfold binE
  rw [List.getElem?_eq_getElem hk]
  simp only
  rw [if_neg]
  rcases Nat.eq_zero_or_pos k with h0 | h0
  · subst h0
    unfold ordBad
    simp
  · rw [ordBad_at hk h0, h h0]
    simp
theorem markE_sum {l : List Hd} {k : Nat} (hk : k < l.length) (h : l[k].1 ≠ idOfL l[k].2.2) : markE l k = 9 := by
  unfold markE
  rw [List.getElem?_eq_getElem hk]
  simp only
  rw [if_pos (fun e => h e.symm)]
theorem markE_order {l : List Hd} {k : Nat} (hk : k < l.length) (h0 : 0 < k) (h : l[k].1 = idOfL l[k].2.2) (hl : lessB (l[k - 1]'(by omega)).1 l[k].1 = false) : markE l k = 8 := by
  unfold markE
  rw [List.getElem?_eq_getElem hk]
  simp only
  rw [if_neg (fun e => e h.symm), if_neg (by omega), List.getElem?_eq_getElem (show k - 1 < l.length by omega)]
  simp only
  rw [hl]
  rfl
theorem markE_fine {l : List Hd} {k : Nat} (hk : k < l.length) (h : l[k].1 = idOfL l[k].2.2) (hl : ∀ h0 : 0 < k, lessB (l[k - 1]'(by omega)).1 l[k].1 = true) : markE l k = 0 := by
  unfold markE
  rw [List.getElem?_eq_getElem hk]
  simp only
  rw [if_neg (fun e => e h.symm)]
  by_cases h0 : k = 0
  · rw [if_pos h0]
  · rw [if_neg h0, List.getElem?_eq_getElem (show k - 1 < l.length by omega)]
    simp only
    rw [hl (by omega)]
    rfl
theorem pErr_mark {U : Use → Option Int} {r : Nat × Int} {l : List Hd} {k : Nat} (_ : k < l.length) {c : Int} (h : markE l k = c) (hc : c ≠ 0) : pErr U r l k = c := by
  unfold pErr
  rw [if_pos (by rw [h]; exact hc), h]
theorem pErr_ok {U : Use → Option Int} {r : Nat × Int} {l : List Hd} {k : Nat} (hk : k < l.length) (h : markE l k = 0) (hu : (U (r, l[k].1)).getD 0 = l[k].2.1) : pErr U r l k = 0 := by
  unfold pErr
  rw [if_neg (by rw [h]; simp), List.getElem?_eq_getElem hk]
  simp only
  rw [if_pos hu]
theorem pErr_used {U : Use → Option Int} {r : Nat × Int} {l : List Hd} {k : Nat} (hk : k < l.length) (h : markE l k = 0) (hu : (U (r, l[k].1)).getD 0 ≠ l[k].2.1) : pErr U r l k = 11 := by
  unfold pErr
  rw [if_neg (by rw [h]; simp), List.getElem?_eq_getElem hk]
  simp only
  rw [if_neg hu]
theorem piecesErr_at {U : Use → Option Int} {r : Nat × Int} {l : List Hd} {k : Nat} (hk : k < l.length) (h : ∀ i, i < k → pErr U r l i = 0) (hne : pErr U r l k ≠ 0) : piecesErr U r l = pErr U r l k := by
  unfold piecesErr
  rw [firstErr_at l.length 0 k (Nat.zero_le _) (by omega) (fun i _ hi => h i hi) hne]
theorem firstErr_all {err : Nat → Int} : ∀ (n k : Nat), (∀ i, k ≤ i → i < k + n → err i = 0) → firstErr err k n = none
  | 0, _, _ => rfl
  | n + 1, k, h => by
    rw [firstErr, if_neg (by rw [h k (Nat.le_refl _) (by omega)]; simp)]
    exact firstErr_all n (k + 1) (fun i h1 h2 => h i (by omega) (by omega))
theorem piecesErr_ok {U : Use → Option Int} {r : Nat × Int} {l : List Hd} (h : ∀ i, i < l.length → pErr U r l i = 0) : piecesErr U r l = 0 := by
  unfold piecesErr
  rw [firstErr_all l.length 0 (fun i _ hi => h i (by omega))]
set_option maxRecDepth 100000 in
set_option maxHeartbeats 16000000 in
theorem checkBinE_any (a : Nat → Addr) (vb : Value) (bs : List NBin) (at' : Nat) (w : World) (hat : at' < bs.length) (mf mu nF nU : Nat) (F : Nat × Int → Option Int) (U : Use → Option Int)
    (hv : LoadsAt w vb bs) (hbl : bs.length ≤ 100) (hll : ∀ b ∈ bs, b.2.length ≤ 1000) (hwf : ∀ b ∈ bs, WfID b.1 ∧ ∀ h ∈ b.2, WfID h.1)
    (hids : ∀ h ∈ bs[at'].2, h.2.2.length ≤ 1000) (hE : ErrE [2, 7, 8, 10] w a)
    (hF : idInts.Fn w mf nF F) (hU : useInts.Fn w mu nU U) :
    Calls Tryz.prog 64 #[.agg #[.map (some mf), .map (some mu)], vb, .int .i64 at'] w fun e w' => ∃ ev, e = .returned ev ∧ SentOr a ev (binE F U bs at') ∧ Below w.heap.size w w' := by
  obtain ⟨pa, ca, rfl, hcell⟩ := hv
  obtain ⟨b, o, vi, rfl, hL⟩ := hcell at' hat
  have HEE : Hid (∀ W, Below w.heap.size w W → ErrE [2, 7, 8, 10] W a) := fun W hb => hE.below hb (Nat.le_refl _)
  have HPR : Hid (∀ (h : 0 < at') W, Below w.heap.size w W → W.cell? ⟨b, o + (at' - 1) * 3, none⟩ = some (.int .u32 (bs[at' - 1].1.1 : Nat)) ∧ W.cell? ⟨b, o + (at' - 1) * 3 + 1, none⟩ = some (.int .i64 bs[at' - 1].1.2)) := fun h W hb => by
    obtain ⟨b', o', vi', hp, hL'⟩ := hcell (at' - 1) (by omega)
    obtain ⟨rfl, rfl⟩ : b = b' ∧ o = o' := by simpa using hp
    exact ⟨(hL'.below hb).c0, (hL'.below hb).c1⟩
  have HF : Hid (∀ W, Below w.heap.size w W → idInts.Fn W mf nF F) := fun W hb => hF.below hb
  have HU : Hid (∀ W, Below w.heap.size w W → useInts.Fn W mu nU U) := fun W hb => hU.below hb
  have hat' : (at' : Int) < (bs.length : Int) := by omega
  have hat0 : (0 : Int) ≤ (at' : Int) := by omega
  have hbl' : (bs.length : Int) ≤ 100 := by omega
  have HHD : Hid (∀ W, Below w.heap.size w W → HeldsAt W vi bs[at'].2) := fun W hb => (hL.below hb).helds
  have HW := hideN (hwf bs[at'] (List.getElem_mem hat))
  have HLL := hideN (hll bs[at'] (List.getElem_mem hat))
  have HIDS := hideN hids
  obtain ⟨ph, ch, hvi, _⟩ := hL.helds
  have c0 := hL.c0
  have c1 := hL.c1
  have c2 := hL.c2
  obtain ⟨⟨⟨rp, rl⟩, l⟩, hx⟩ : ∃ x, bs[at'] = x := ⟨_, rfl⟩
  have HXX := hideN hx
  rw [hx] at c0 c1 HHD HW HLL HIDS hvi
  simp only at c0 c1 HHD HW HLL HIDS hvi
  subst hvi
  have hll' : (l.length : Int) ≤ 1000 := by have := HLL.out; omega
  obtain ⟨RES0, hRES⟩ : ∃ RES0, binE F U bs at' = RES0 := ⟨_, rfl⟩
  have HRES0 := hideN hRES
  have HAT := hideN hat
  rw [hRES]
  clear hF hU hwf hids hE hL hcell hx hll hRES
  have hal1 := (Below.refl w.heap.size w).alloc (Nat.le_refl _) (.cells #[.map (some mf), .map (some mu)] 119)
  have hbc := Blk.new w #[.map (some mf), .map (some mu)] 119
  obtain ⟨W1, hW1⟩ : ∃ W1, w.alloc (.cells #[.map (some mf), .map (some mu)] 119) = W1 := ⟨_, rfl⟩
  rw [hW1] at hal1 hbc
  have hs1 : W1.heap.size = w.heap.size + 1 := by rw [← hW1]; simp
  have d0 := (hal1.cell (p := ⟨b, o + at' * 3, none⟩) (lt_of_cell c0)).trans c0
  have d1 := (hal1.cell (p := ⟨b, o + at' * 3 + 1, none⟩) (lt_of_cell c0)).trans c1
  have d2 := (hal1.cell (p := ⟨b, o + at' * 3 + 2, none⟩) (lt_of_cell c0)).trans c2
  have hal2 := (Below.refl W1.heap.size W1).alloc (Nat.le_refl _) (.cells #[.int .u32 (rp : Nat), .int .i64 rl, .slice ph l.length ch] 60)
  have hbr := Blk.new W1 #[.int .u32 (rp : Nat), .int .i64 rl, .slice ph l.length ch] 60
  rw [hs1] at hbr
  have HBC := hideN (hbc.next hal2)
  have HBR := hideN hbr
  have HB2 : Hid (Below w.heap.size w _) := hideN (hal1.trans (hal2.mono hal1.size))
  rw [← hW1] at d0 d1 d2
  rw [← hW1] at HBC HBR HB2
  clear hal1 hal2 hbc hbr hs1 c0 c1 c2 hW1
  go_enter Tryz.func64, Tryz.ntmps64
  go_wp2_with fail
  clear d0 d1 d2
  generalize ((w.alloc (.cells #[.map (some mf), .map (some mu)] 119)).alloc (.cells #[.int .u32 (rp : Nat), .int .i64 rl, .slice ph l.length ch] 60)) = W2 at *
  have HSZ : Hid (w.heap.size + 1 < W2.heap.size) := HBR.out.lt
  obtain ⟨CB, hCB⟩ : ∃ CB, w.heap.size = CB := ⟨_, rfl⟩
  obtain ⟨LB, hLB⟩ : ∃ LB, w.heap.size + 1 = LB := ⟨_, rfl⟩
  rw [hLB] at HBR HSZ ⊢
  rw [hCB] at HBC ⊢
  clear hLB hCB
  by_cases h0 : 0 < at'
  · have h0' : (0 : Int) < (at' : Int) := by omega
    obtain ⟨p0, p1⟩ := HPR.out h0 W2 HB2.out
    have HPW : Hid (∀ W, Below w.heap.size w W → W.cell? ⟨b, o + (at' - 1) * 3, none⟩ = some (.int .u32 (bs[at' - 1].1.1 : Nat)) ∧ W.cell? ⟨b, o + (at' - 1) * 3 + 1, none⟩ = some (.int .i64 bs[at' - 1].1.2)) := fun W hb => HPR.out h0 W hb
    obtain ⟨⟨⟨qp, ql⟩, l'⟩, hy⟩ : ∃ y, bs[at' - 1] = y := ⟨_, rfl⟩
    have HYQ := hideN hy
    have HH0 := hideN h0
    rw [hy] at p0 p1 HPW
    simp only at p0 p1 HPW
    obtain ⟨m, hkm⟩ : ∃ m, at' - 1 = m := ⟨_, rfl⟩
    rw [hkm] at p0 p1 HPW
    clear hy
    have hm0 : ((m : Int)) < (bs.length : Int) := by omega
    have hm2 : (0 : Int) ≤ (m : Int) := by omega
    have hm3 : IntKind.i64.wrap ((at' : Int) - 1) = (m : Int) := by rw [IntKind.wrap_i64]; omega
    have k0 := HBR.out.cell (i := 0) rfl
    have k1 := HBR.out.cell (i := 1) rfl
    obtain ⟨lb, hlb⟩ : ∃ lb, lessB (qp, ql) (rp, rl) = lb := ⟨_, rfl⟩
    have HLB := hideN hlb
    cases lb with
    | false =>
      have HLE : Hid ((if (qp : Int) = (rp : Int) then decide (ql < rl) else decide ((qp : Int) < (rp : Int))) = false) := hlb
      clear hlb
      go_region_held3 (fun w' => w'.cell? ⟨b, o + m * 3, none⟩ = some (.int .u32 (qp : Nat)) ∧ w'.cell? ⟨b, o + m * 3 + 1, none⟩ = some (.int .i64 ql) ∧ w'.cell? ⟨LB, 0, none⟩ = some (.int .u32 (rp : Nat)) ∧ w'.cell? ⟨LB, 1, none⟩ = some (.int .i64 rl)) (first | exact ⟨(HPW.out _ HBc.out).1, (HPW.out _ HBc.out).2, HBRc.out.cell (i := 0) rfl, HBRc.out.cell (i := 1) rfl⟩ | go_keep) (first
        | (go_at_call 87; refine (less_any qp ql rp rl _).mono ?_; rintro e Wc ⟨rfl, hbc⟩; rw [HLE.out]; have hBc : Below W2.heap.size W2 Wc := (Below.refl _ W2).drew.trans hbc; have HBCc := hideN (HBC.out.next hBc); have HBRc := hideN (HBR.out.next hBc); have HBc : Hid (Below w.heap.size w Wc) := HB2.out.trans (hBc.mono HB2.out.size); clear hbc hBc))
      clear p0 p1 k0 k1 hm0 hm2 hm3 HBC HBR HB2
      have HR : Hid (RES0 = 8) := by
        show _ = _
        rw [← HRES0.out]
        exact binE_order HAT.out HH0.out (by rw [HXX.out, HYQ.out]; exact HLB.out)
      have g7 := (HEE.out _ HBc.out).glob 7 rfl
      change World.cell? _ ⟨7, 0, none⟩ = _ at g7
      go_wp2_with fail
      go_ret
      exact ⟨_, rfl, .inr ⟨7, by decide, HR.out, rfl⟩, HBc.out⟩
    | true =>
      have HLE : Hid ((if (qp : Int) = (rp : Int) then decide (ql < rl) else decide ((qp : Int) < (rp : Int))) = true) := hlb
      clear hlb
      have HGO : Hid (binE F U bs at' = if (F (rp, rl)).getD 0 = 0 then 3 else piecesErr U (rp, rl) l) := by
        show _ = _
        rw [binE_go HAT.out (fun _ => by rw [HXX.out, HYQ.out]; exact HLB.out), HXX.out]
      go_region_held3 (fun w' => w'.cell? ⟨b, o + m * 3, none⟩ = some (.int .u32 (qp : Nat)) ∧ w'.cell? ⟨b, o + m * 3 + 1, none⟩ = some (.int .i64 ql) ∧ w'.cell? ⟨LB, 0, none⟩ = some (.int .u32 (rp : Nat)) ∧ w'.cell? ⟨LB, 1, none⟩ = some (.int .i64 rl)) (first | exact ⟨(HPW.out _ HBc.out).1, (HPW.out _ HBc.out).2, HBRc.out.cell (i := 0) rfl, HBRc.out.cell (i := 1) rfl⟩ | go_keep) (first
        | (go_at_call 87; refine (less_any qp ql rp rl _).mono ?_; rintro e Wc ⟨rfl, hbc⟩; rw [HLE.out]; have hBc : Below W2.heap.size W2 Wc := (Below.refl _ W2).drew.trans hbc; have HBCc := hideN (HBC.out.next hBc); have HBRc := hideN (HBR.out.next hBc); have HBc : Hid (Below w.heap.size w Wc) := HB2.out.trans (hBc.mono HB2.out.size); clear hbc hBc))
      clear p0 p1 k0 k1 hm0 hm2 hm3 HBC HBR HB2
      -- at Wc: HBCc HBRc HBc, HGO
      have e0 := HBCc.out.cell (i := 0) rfl
      have e1 := HBCc.out.cell (i := 1) rfl
      have k0 := HBRc.out.cell (i := 0) rfl
      have k1 := HBRc.out.cell (i := 1) rfl
      have k2 := HBRc.out.cell (i := 2) rfl
      have l0 := (HF.out _ HBc.out).look1 Tryz.underlying116 (intZero _) HW.out.1
      change (Instr.lookup 116 (.map (some mf)) (idV (rp : Nat) rl) false).run Tryz.prog _ = .ok (.int .i64 ((F (rp, rl)).getD 0)) _ at l0
      by_cases hpos : (F (rp, rl)).getD 0 = 0
      · rw [hpos] at l0
        have HR : Hid (RES0 = 3) := by
          show _ = _
          rw [← HRES0.out, HGO.out, if_pos hpos]
        have g2 := (HEE.out _ HBc.out).glob 2 rfl
        change World.cell? _ ⟨2, 0, none⟩ = _ at g2
        clear hpos
        go_wp2_with fail
        go_ret
        exact ⟨_, rfl, .inr ⟨2, by decide, HR.out, rfl⟩, HBc.out⟩
      obtain ⟨RES, hRES⟩ : ∃ RES, piecesErr U (rp, rl) l = RES := ⟨_, rfl⟩
      have HRES := hideN hRES
      have HRR : Hid (RES0 = RES) := by
        show _ = _
        rw [← HRES0.out, HGO.out, if_neg hpos, hRES]
      have hz : ((F (rp, rl)).getD 0 == 0) = false := beq_eq_false_iff_ne.2 hpos
      obtain ⟨n0, hn0⟩ : ∃ n0, (F (rp, rl)).getD 0 = n0 := ⟨_, rfl⟩
      rw [hn0] at l0 hz
      clear hn0 hpos hRES
      go_wp2_with fail
      clear e0 e1 k0 k1 k2 l0 hz
      go_loopw [39] (fun iv wr => ∃ (k : Nat), k ≤ l.length ∧ iv = .int .i64 k ∧ Hid (∀ i, i < k → pErr U (rp, rl) l i = 0) ∧ Hid (Blk wr CB #[.map (some mf), .map (some mu)] 119) ∧ Hid (Blk wr LB #[.int .u32 (rp : Nat), .int .i64 rl, .slice ph l.length ch] 60) ∧ Hid (Below w.heap.size w wr)) (fun iv _ => l.length - (intOf iv).toNat)
      case atStart => exact ⟨0, Nat.zero_le _, rfl, fun i hi => by omega, HBCc.out, HBRc.out, HBc.out⟩
      case round =>
        clear HBCc HBRc HBc
        obtain ⟨k, hk, rfl, HALL, HBC0, HBR0, HB0⟩ := hrel
        by_cases hlt : k < l.length
        · have hlt' : (k : Int) < (l.length : Int) := by omega
          have hk0 : (0 : Int) ≤ (k : Int) := by omega
          have HLT : Hid (k < l.length) := hlt
          obtain ⟨_, _, hve, hcell⟩ := HHD.out wr HB0.out
          obtain ⟨rfl, rfl⟩ : ph = _ ∧ ch = _ := by simpa using hve
          obtain ⟨b2, o2, rfl, _, d0, d1, d2, d3⟩ := hcell k hlt
          have HPV : Hid (∀ (h : 0 < k) W, Below w.heap.size w W → W.cell? ⟨b2, o2 + (k - 1) * 4, none⟩ = some (.int .u32 ((l[k - 1]'(by omega)).1.1 : Nat)) ∧ W.cell? ⟨b2, o2 + (k - 1) * 4 + 1, none⟩ = some (.int .i64 (l[k - 1]'(by omega)).1.2)) := fun h W hb => by
            obtain ⟨_, _, hve', hcell'⟩ := HHD.out W hb
            obtain ⟨b', o', hp', _, z0, z1, _⟩ := hcell' (k - 1) (by omega)
            simp only [Value.slice.injEq] at hve'
            rw [← hve'.1] at hp'
            simp only [Option.some.injEq, Addr.mk.injEq] at hp'
            obtain ⟨rfl, rfl, _⟩ := hp'
            exact ⟨z0, z1⟩
          have HIX := hideN (HIDS.out (l[k]'hlt) (List.getElem_mem hlt))
          have HXW := hideN (HW.out.2 (l[k]'hlt) (List.getElem_mem hlt))
          have HYKx : Hid (∃ y, l[k]'hlt = y) := ⟨_, rfl⟩
          obtain ⟨⟨⟨xp, xl⟩, u, t⟩, hy⟩ : ∃ y, l[k]'hlt = y := ⟨_, rfl⟩
          have HYK : Hid (l[k]'hlt = ((xp, xl), u, t)) := hy
          rw [hy] at d0 d1 d2 d3 HIX HXW
          simp only at d0 d1 d2 d3 HIX HXW
          obtain ⟨TX, hT⟩ : ∃ TX : ByteArray, (⟨t.toArray⟩ : ByteArray) = TX := ⟨_, rfl⟩
          rw [hT] at d3
          have HTT : Hid (TX.data.toList = t) := by show _ = _; rw [← hT]
          have HTZ : Hid (TX.size = t.length) := by
            show _ = _
            have : TX.data.toList.length = TX.size := by rw [Array.length_toList]; rfl
            rw [HTT.out] at this
            exact this.symm
          have HTM : Hid (TX.size ≤ maxLen) := by
            show _ ≤ _
            have h1 := HTZ.out
            have h2 := HIX.out
            unfold maxLen; omega
          clear hT hy hcell hve HYKx
          have hal := (Below.refl wr.heap.size wr).alloc (Nat.le_refl _) (.cells #[.int .u32 (xp : Nat), .int .i64 xl, .int .i64 u, .string TX] 78)
          have HHB := hideN (Blk.new wr #[.int .u32 (xp : Nat), .int .i64 xl, .int .i64 u, .string TX] 78)
          have HBC1 := hideN (HBC0.out.next hal)
          have HBR1 := hideN (HBR0.out.next hal)
          have HB1 : Hid (Below w.heap.size w _) := hideN (HB0.out.trans (hal.mono HB0.out.size))
          clear hal HBC0 HBR0 HB0
          go_wp2_with fail
          clear d0 d1 d2 d3
          generalize wr.alloc (.cells #[.int .u32 (xp : Nat), .int .i64 xl, .int .i64 u, .string TX] 78) = V1 at *
          generalize wr.heap.size = HB9 at *
          have HCE : Hid (∀ W', Blk W' HB9 #[.int .u32 (xp : Nat), .int .i64 xl, .int .i64 u, .string TX] 78 → W'.cell? ⟨HB9, 0, none⟩ = some (.int .u32 (xp : Nat)) ∧ W'.cell? ⟨HB9, 1, none⟩ = some (.int .i64 xl) ∧ W'.cell? ⟨HB9, 3, none⟩ = some (.string TX)) := fun W' h => ⟨h.cell (i := 0) rfl, h.cell (i := 1) rfl, h.cell (i := 3) rfl⟩
          obtain ⟨y0, y1, y3⟩ := HCE.out V1 HHB.out
          by_cases hpx : pmore 2166136261 TX.data.toList = xp
          rotate_left
          · obtain ⟨P, hP⟩ : ∃ P, pmore 2166136261 TX.data.toList = P := ⟨_, rfl⟩
            have HP1 := hideN hP
            obtain ⟨S, hS⟩ : ∃ S, (TX.size : Int) = S := ⟨_, rfl⟩
            have HP2 := hideN hS
            have hpe : ((P : Int) == (xp : Int)) = false := by rw [beq_eq_false_iff_ne]; rw [hP] at hpx; omega
            have HNE : Hid ((xp, xl) ≠ idOfL t) := fun e => hpx (by rw [HTT.out]; exact (congrArg Prod.fst e).symm)
            clear hP hS hpx
            go_region_held3 (fun w' => w'.cell? ⟨HB9, 0, none⟩ = some (.int .u32 (xp : Nat)) ∧ w'.cell? ⟨HB9, 1, none⟩ = some (.int .i64 xl) ∧ w'.cell? ⟨HB9, 3, none⟩ = some (.string TX)) (first | exact HCE.out _ HHB2.out | go_keep) (first
              | (go_at_call 125; refine (id_any TX _ HTM.out).mono ?_; rintro e v2 ⟨rfl, hb2⟩; rw [HP1.out, HP2.out]; have hB2 : Below V1.heap.size V1 v2 := (Below.refl _ V1).drew.trans hb2; have HHB2 := hideN (HHB.out.next hB2); have HBC2 := hideN (HBC1.out.next hB2); have HBR2 := hideN (HBR1.out.next hB2); have HB2' : Hid (Below w.heap.size w v2) := HB1.out.trans (hB2.mono HB1.out.size); clear hb2 hB2))
            clear y0 y1 y3 HHB HBC1 HBR1 HB1
            have g8 := (HEE.out _ HB2'.out).glob 8 rfl
            change World.cell? _ ⟨8, 0, none⟩ = _ at g8
            have HR : Hid (RES = 9) := by
              show _ = _
              rw [← HRES.out]
              have h9 : pErr U (rp, rl) l k = 9 := pErr_mark HLT.out (markE_sum HLT.out (by rw [HYK.out]; exact HNE.out)) (by decide)
              rw [piecesErr_at HLT.out HALL.out (by rw [h9]; decide), h9]
            go_wp2_with fail
            go_ret
            exact ⟨_, rfl, .inr ⟨8, by decide, HRR.out.trans HR.out, rfl⟩, HB2'.out⟩
          by_cases hsx : (TX.size : Int) = xl
          rotate_left
          · have HP1 : Hid (pmore 2166136261 TX.data.toList = xp) := hpx
            obtain ⟨S, hS⟩ : ∃ S, (TX.size : Int) = S := ⟨_, rfl⟩
            have HP2 := hideN hS
            have hse : (S == xl) = false := by rw [beq_eq_false_iff_ne]; rw [hS] at hsx; exact hsx
            have HNE : Hid ((xp, xl) ≠ idOfL t) := fun e => hsx (by have h1 := congrArg Prod.snd e; have h2 := HTZ.out; simp only [idOfL] at h1; omega)
            clear hS hsx hpx
            go_region_held3 (fun w' => w'.cell? ⟨HB9, 0, none⟩ = some (.int .u32 (xp : Nat)) ∧ w'.cell? ⟨HB9, 1, none⟩ = some (.int .i64 xl) ∧ w'.cell? ⟨HB9, 3, none⟩ = some (.string TX)) (first | exact HCE.out _ HHB2.out | go_keep) (first
              | (go_at_call 125; refine (id_any TX _ HTM.out).mono ?_; rintro e v2 ⟨rfl, hb2⟩; rw [HP1.out, HP2.out]; have hB2 : Below V1.heap.size V1 v2 := (Below.refl _ V1).drew.trans hb2; have HHB2 := hideN (HHB.out.next hB2); have HBC2 := hideN (HBC1.out.next hB2); have HBR2 := hideN (HBR1.out.next hB2); have HB2' : Hid (Below w.heap.size w v2) := HB1.out.trans (hB2.mono HB1.out.size); clear hb2 hB2))
            clear y0 y1 y3 HHB HBC1 HBR1 HB1
            have g8 := (HEE.out _ HB2'.out).glob 8 rfl
            change World.cell? _ ⟨8, 0, none⟩ = _ at g8
            have HR : Hid (RES = 9) := by
              show _ = _
              rw [← HRES.out]
              have h9 : pErr U (rp, rl) l k = 9 := pErr_mark HLT.out (markE_sum HLT.out (by rw [HYK.out]; exact HNE.out)) (by decide)
              rw [piecesErr_at HLT.out HALL.out (by rw [h9]; decide), h9]
            go_wp2_with fail
            go_ret
            exact ⟨_, rfl, .inr ⟨8, by decide, HRR.out.trans HR.out, rfl⟩, HB2'.out⟩
          have HP1 : Hid (pmore 2166136261 TX.data.toList = xp) := hpx
          have HP2 : Hid ((TX.size : Int) = xl) := hsx
          have HIDK : Hid ((xp, xl) = idOfL t) := by
            have h2 := HTZ.out
            exact Prod.ext (by show xp = pmore 2166136261 t; rw [← HTT.out]; exact hpx.symm) (by show xl = (t.length : Int); omega)
          clear hpx hsx
          go_region_held3 (fun w' => w'.cell? ⟨HB9, 0, none⟩ = some (.int .u32 (xp : Nat)) ∧ w'.cell? ⟨HB9, 1, none⟩ = some (.int .i64 xl) ∧ w'.cell? ⟨HB9, 3, none⟩ = some (.string TX)) (first | exact HCE.out _ HHB2.out | go_keep) (first
            | (go_at_call 125; refine (id_any TX _ HTM.out).mono ?_; rintro e v2 ⟨rfl, hb2⟩; rw [HP1.out, HP2.out]; have hB2 : Below V1.heap.size V1 v2 := (Below.refl _ V1).drew.trans hb2; have HHB2 := hideN (HHB.out.next hB2); have HBC2 := hideN (HBC1.out.next hB2); have HBR2 := hideN (HBR1.out.next hB2); have HB2' : Hid (Below w.heap.size w v2) := HB1.out.trans (hB2.mono HB1.out.size); clear hb2 hB2))
          clear y0 y1 y3 HHB HBC1 HBR1 HB1
          by_cases hkp : 0 < k
          · have hkp' : (0 : Int) < (k : Int) := by omega
            obtain ⟨p0, p1⟩ := HPV.out hkp v2 HB2'.out
            have HPW : Hid (∀ W, Below w.heap.size w W → W.cell? ⟨b2, o2 + (k - 1) * 4, none⟩ = some (.int .u32 ((l[k - 1]'(by omega)).1.1 : Nat)) ∧ W.cell? ⟨b2, o2 + (k - 1) * 4 + 1, none⟩ = some (.int .i64 (l[k - 1]'(by omega)).1.2)) := fun W hb => HPV.out hkp W hb
            have HKB : Hid (k - 1 < l.length) := by show _ < _; omega
            obtain ⟨⟨⟨yp, yl⟩, u', t'⟩, hy⟩ : ∃ y, l[k - 1]'(by omega) = y := ⟨_, rfl⟩
            have HYP : Hid (l[k - 1]'HKB.out = ((yp, yl), u', t')) := hy
            rw [hy] at p0 p1 HPW
            simp only at p0 p1 HPW
            have HKP : Hid (0 < k) := hkp
            obtain ⟨m, hkm⟩ : ∃ m, k - 1 = m := ⟨_, rfl⟩
            rw [hkm] at p0 p1 HPW
            clear hy HPV
            have hm0 : ((m : Int)) < (l.length : Int) := by omega
            have hm2 : (0 : Int) ≤ (m : Int) := by omega
            have hm3 : IntKind.i64.wrap ((k : Int) - 1) = (m : Int) := by rw [IntKind.wrap_i64]; omega
            have k2 := HBR2.out.cell (i := 2) rfl
            have m0 := HHB2.out.cell (i := 0) rfl
            have m1 := HHB2.out.cell (i := 1) rfl
            go_wp2_with fail
            obtain ⟨lb, hlb⟩ : ∃ lb, lessB (yp, yl) (xp, xl) = lb := ⟨_, rfl⟩
            have HLB := hideN hlb
            cases lb with
            | false =>
              have HLE : Hid ((if (yp : Int) = (xp : Int) then decide (yl < xl) else decide ((yp : Int) < (xp : Int))) = false) := hlb
              clear hlb
              go_region_held3 (fun w' => w'.cell? ⟨LB, 2, none⟩ = some (.slice (some ⟨b2, o2, none⟩) l.length ch) ∧ w'.cell? ⟨b2, o2 + m * 4, none⟩ = some (.int .u32 (yp : Nat)) ∧ w'.cell? ⟨b2, o2 + m * 4 + 1, none⟩ = some (.int .i64 yl) ∧ w'.cell? ⟨HB9, 0, none⟩ = some (.int .u32 (xp : Nat)) ∧ w'.cell? ⟨HB9, 1, none⟩ = some (.int .i64 xl)) (first | exact ⟨HBR3.out.cell (i := 2) rfl, (HPW.out _ HB3.out).1, (HPW.out _ HB3.out).2, HHB3.out.cell (i := 0) rfl, HHB3.out.cell (i := 1) rfl⟩ | go_keep) (first
                | (go_at_call 87; refine (less_any yp yl xp xl _).mono ?_; rintro e w3 ⟨rfl, hb3⟩; rw [HLE.out]; have hB3 : Below v2.heap.size v2 w3 := (Below.refl _ v2).drew.trans hb3; have HHB3 := hideN (HHB2.out.next hB3); have HBC3 := hideN (HBC2.out.next hB3); have HBR3 := hideN (HBR2.out.next hB3); have HB3 : Hid (Below w.heap.size w w3) := HB2'.out.trans (hB3.mono HB2'.out.size); clear hb3 hB3))
              clear p0 p1 k2 m0 m1 hm0 hm2 hm3 HHB2 HBC2 HBR2 HB2'
              have HR : Hid (RES = 8) := by
                show _ = _
                rw [← HRES.out]
                have h8 : pErr U (rp, rl) l k = 8 := pErr_mark HLT.out (markE_order HLT.out HKP.out (by rw [HYK.out]; exact HIDK.out) (by rw [HYK.out, HYP.out]; exact HLB.out)) (by decide)
                rw [piecesErr_at HLT.out HALL.out (by rw [h8]; decide), h8]
              have g7 := (HEE.out _ HB3.out).glob 7 rfl
              change World.cell? _ ⟨7, 0, none⟩ = _ at g7
              go_wp2_with fail
              go_ret
              exact ⟨_, rfl, .inr ⟨7, by decide, HRR.out.trans HR.out, rfl⟩, HB3.out⟩
            | true =>
              have HLE : Hid ((if (yp : Int) = (xp : Int) then decide (yl < xl) else decide ((yp : Int) < (xp : Int))) = true) := hlb
              clear hlb
              have HMK : Hid (markE l k = 0) := markE_fine HLT.out (by rw [HYK.out]; exact HIDK.out) (fun _ => by rw [HYK.out, HYP.out]; exact HLB.out)
              go_region_held3 (fun w' => w'.cell? ⟨LB, 2, none⟩ = some (.slice (some ⟨b2, o2, none⟩) l.length ch) ∧ w'.cell? ⟨b2, o2 + m * 4, none⟩ = some (.int .u32 (yp : Nat)) ∧ w'.cell? ⟨b2, o2 + m * 4 + 1, none⟩ = some (.int .i64 yl) ∧ w'.cell? ⟨HB9, 0, none⟩ = some (.int .u32 (xp : Nat)) ∧ w'.cell? ⟨HB9, 1, none⟩ = some (.int .i64 xl)) (first | exact ⟨HBR3.out.cell (i := 2) rfl, (HPW.out _ HB3.out).1, (HPW.out _ HB3.out).2, HHB3.out.cell (i := 0) rfl, HHB3.out.cell (i := 1) rfl⟩ | go_keep) (first
                | (go_at_call 87; refine (less_any yp yl xp xl _).mono ?_; rintro e w3 ⟨rfl, hb3⟩; rw [HLE.out]; have hB3 : Below v2.heap.size v2 w3 := (Below.refl _ v2).drew.trans hb3; have HHB3 := hideN (HHB2.out.next hB3); have HBC3 := hideN (HBC2.out.next hB3); have HBR3 := hideN (HBR2.out.next hB3); have HB3 : Hid (Below w.heap.size w w3) := HB2'.out.trans (hB3.mono HB2'.out.size); clear hb3 hB3))
              clear p0 p1 k2 m0 m1 hm0 hm2 hm3 HHB2 HBC2 HBR2 HB2'
              -- at W3: HBC3 HBR3 HHB3 HB3, HMK
              have e1 := HBC3.out.cell (i := 1) rfl
              have k0 := HBR3.out.cell (i := 0) rfl
              have k1 := HBR3.out.cell (i := 1) rfl
              have m0 := HHB3.out.cell (i := 0) rfl
              have m1 := HHB3.out.cell (i := 1) rfl
              have m2 := HHB3.out.cell (i := 2) rfl
              have hBd : Below w.heap.size w w3.drew := HB3.out.trans ((Below.refl _ w3).drew.mono HB3.out.size)
              have lu := (HU.out _ hBd).look1 Tryz.underlying117 (intZero _) (x := ((rp, rl), (xp, xl))) ⟨HW.out.1, HXW.out⟩
              change (Instr.lookup 117 (.map (some mu)) (.agg #[.int .u32 (rp : Nat), .int .i64 rl, .int .u32 (xp : Nat), .int .i64 xl]) false).run Tryz.prog _ = .ok (.int .i64 ((U ((rp, rl), (xp, xl))).getD 0)) _ at lu
              obtain ⟨nu, hnu⟩ : ∃ nu, (U ((rp, rl), (xp, xl))).getD 0 = nu := ⟨_, rfl⟩
              have HNU := hideN hnu
              rw [hnu] at lu
              have HBD := hideN hBd
              have HBC5 : Hid (Blk w3.drew CB #[.map (some mf), .map (some mu)] 119) := HBC3.out
              have HBR5 : Hid (Blk w3.drew LB #[.int .u32 (rp : Nat), .int .i64 rl, .slice (some ⟨b2, o2, none⟩) l.length ch] 60) := HBR3.out
              clear hnu hBd
              by_cases hq : nu = u
              · subst hq
                have HALL2 : Hid (∀ i, i < k + 1 → pErr U (rp, rl) l i = 0) := fun i hi => by
                  rcases Nat.lt_or_ge i k with h | h
                  · exact HALL.out i h
                  · obtain rfl : i = k := by omega
                    exact pErr_ok HLT.out HMK.out (by rw [HYK.out]; exact HNU.out)
                go_wp2_with fail
                go_region
                all_goals
                  go_wp2_with fail
                  go_roundw
                  case rel => exact ⟨k + 1, HLT.out, by go_num, HALL2.out, HBC5.out, HBR5.out, HBD.out⟩
                  case measure => simp [intOf]; omega
              · have hqn : (nu == u) = false := beq_eq_false_iff_ne.2 hq
                have HR : Hid (RES = 11) := by
                  show _ = _
                  rw [← HRES.out]
                  have h11 : pErr U (rp, rl) l k = 11 := pErr_used HLT.out HMK.out (by rw [HYK.out]; simp only; rw [HNU.out]; exact hq)
                  rw [piecesErr_at HLT.out HALL.out (by rw [h11]; decide), h11]
                have g10 := (HEE.out _ HBD.out).glob 10 rfl
                change World.cell? _ ⟨10, 0, none⟩ = _ at g10
                clear hq
                go_wp2_with fail
                go_region
                all_goals
                  go_wp2_with fail
                  go_ret
                  exact ⟨_, rfl, .inr ⟨10, by decide, HRR.out.trans HR.out, rfl⟩, HBD.out⟩
          · have hk1 : k = 0 := by omega
            subst hk1
            have HMK : Hid (markE l 0 = 0) := markE_fine HLT.out (by rw [HYK.out]; exact HIDK.out) (fun h => absurd h (by decide))
            clear HPV
            go_wp2_with fail
            go_quiet (fail)
            have hdr := below_of_grown (grown_drewN v2 nq)
            have HHB3 := hideN (HHB2.out.next hdr)
            have HBC3 := hideN (HBC2.out.next hdr)
            have HBR3 := hideN (HBR2.out.next hdr)
            have HB3 : Hid (Below w.heap.size w _) := hideN (HB2'.out.trans (hdr.mono HB2'.out.size))
            clear hdr HHB2 HBC2 HBR2 HB2'
            generalize v2.drewN nq = w3 at *
            -- at W3: HBC3 HBR3 HHB3 HB3, HMK
            have e1 := HBC3.out.cell (i := 1) rfl
            have k0 := HBR3.out.cell (i := 0) rfl
            have k1 := HBR3.out.cell (i := 1) rfl
            have m0 := HHB3.out.cell (i := 0) rfl
            have m1 := HHB3.out.cell (i := 1) rfl
            have m2 := HHB3.out.cell (i := 2) rfl
            have hBd : Below w.heap.size w w3.drew := HB3.out.trans ((Below.refl _ w3).drew.mono HB3.out.size)
            have lu := (HU.out _ hBd).look1 Tryz.underlying117 (intZero _) (x := ((rp, rl), (xp, xl))) ⟨HW.out.1, HXW.out⟩
            change (Instr.lookup 117 (.map (some mu)) (.agg #[.int .u32 (rp : Nat), .int .i64 rl, .int .u32 (xp : Nat), .int .i64 xl]) false).run Tryz.prog _ = .ok (.int .i64 ((U ((rp, rl), (xp, xl))).getD 0)) _ at lu
            obtain ⟨nu, hnu⟩ : ∃ nu, (U ((rp, rl), (xp, xl))).getD 0 = nu := ⟨_, rfl⟩
            have HNU := hideN hnu
            rw [hnu] at lu
            have HBD := hideN hBd
            have HBC5 : Hid (Blk w3.drew CB #[.map (some mf), .map (some mu)] 119) := HBC3.out
            have HBR5 : Hid (Blk w3.drew LB #[.int .u32 (rp : Nat), .int .i64 rl, .slice (some ⟨b2, o2, none⟩) l.length ch] 60) := HBR3.out
            clear hnu hBd
            by_cases hq : nu = u
            · subst hq
              have HALL2 : Hid (∀ i, i < 0 + 1 → pErr U (rp, rl) l i = 0) := fun i hi => by
                rcases Nat.lt_or_ge i 0 with h | h
                · exact HALL.out i h
                · obtain rfl : i = 0 := by omega
                  exact pErr_ok HLT.out HMK.out (by rw [HYK.out]; exact HNU.out)
              go_wp2_with fail
              go_region
              all_goals
                go_wp2_with fail
                go_roundw
                case rel => exact ⟨0 + 1, HLT.out, by go_num, HALL2.out, HBC5.out, HBR5.out, HBD.out⟩
                case measure => simp [intOf]; omega
            · have hqn : (nu == u) = false := beq_eq_false_iff_ne.2 hq
              have HR : Hid (RES = 11) := by
                show _ = _
                rw [← HRES.out]
                have h11 : pErr U (rp, rl) l 0 = 11 := pErr_used HLT.out HMK.out (by rw [HYK.out]; simp only; rw [HNU.out]; exact hq)
                rw [piecesErr_at HLT.out HALL.out (by rw [h11]; decide), h11]
              have g10 := (HEE.out _ HBD.out).glob 10 rfl
              change World.cell? _ ⟨10, 0, none⟩ = _ at g10
              clear hq
              go_wp2_with fail
              go_region
              all_goals
                go_wp2_with fail
                go_ret
                exact ⟨_, rfl, .inr ⟨10, by decide, HRR.out.trans HR.out, rfl⟩, HBD.out⟩
        · have hge : (l.length : Int) ≤ (k : Int) := by omega
          have HR : Hid (RES = 0) := by
            show _ = _
            rw [← HRES.out]
            exact piecesErr_ok (fun i hi => HALL.out i (by omega))
          go_wp2_with fail
          go_ret
          exact ⟨_, rfl, .inl ⟨HRR.out.trans HR.out, rfl⟩, HB0.out⟩
  · have h0' : ¬ (0 : Int) < (at' : Int) := by omega
    have HGO : Hid (binE F U bs at' = if (F (rp, rl)).getD 0 = 0 then 3 else piecesErr U (rp, rl) l) := by
      show _ = _
      rw [binE_go HAT.out (fun h => absurd h h0), HXX.out]
    go_quiet (fail)
    have hdr := below_of_grown (grown_drewN W2 nq)
    have HBCc := hideN (HBC.out.next hdr)
    have HBRc := hideN (HBR.out.next hdr)
    have HBc : Hid (Below w.heap.size w _) := hideN (HB2.out.trans (hdr.mono HB2.out.size))
    clear hdr HBC HBR HB2
    generalize W2.drewN nq = Wc at *
    -- at Wc: HBCc HBRc HBc, HGO
    have e0 := HBCc.out.cell (i := 0) rfl
    have e1 := HBCc.out.cell (i := 1) rfl
    have k0 := HBRc.out.cell (i := 0) rfl
    have k1 := HBRc.out.cell (i := 1) rfl
    have k2 := HBRc.out.cell (i := 2) rfl
    have l0 := (HF.out _ HBc.out).look1 Tryz.underlying116 (intZero _) HW.out.1
    change (Instr.lookup 116 (.map (some mf)) (idV (rp : Nat) rl) false).run Tryz.prog _ = .ok (.int .i64 ((F (rp, rl)).getD 0)) _ at l0
    by_cases hpos : (F (rp, rl)).getD 0 = 0
    · rw [hpos] at l0
      have HR : Hid (RES0 = 3) := by
        show _ = _
        rw [← HRES0.out, HGO.out, if_pos hpos]
      have g2 := (HEE.out _ HBc.out).glob 2 rfl
      change World.cell? _ ⟨2, 0, none⟩ = _ at g2
      clear hpos
      go_wp2_with fail
      go_ret
      exact ⟨_, rfl, .inr ⟨2, by decide, HR.out, rfl⟩, HBc.out⟩
    obtain ⟨RES, hRES⟩ : ∃ RES, piecesErr U (rp, rl) l = RES := ⟨_, rfl⟩
    have HRES := hideN hRES
    have HRR : Hid (RES0 = RES) := by
      show _ = _
      rw [← HRES0.out, HGO.out, if_neg hpos, hRES]
    have hz : ((F (rp, rl)).getD 0 == 0) = false := beq_eq_false_iff_ne.2 hpos
    obtain ⟨n0, hn0⟩ : ∃ n0, (F (rp, rl)).getD 0 = n0 := ⟨_, rfl⟩
    rw [hn0] at l0 hz
    clear hn0 hpos hRES
    go_wp2_with fail
    clear e0 e1 k0 k1 k2 l0 hz
    go_loopw [39] (fun iv wr => ∃ (k : Nat), k ≤ l.length ∧ iv = .int .i64 k ∧ Hid (∀ i, i < k → pErr U (rp, rl) l i = 0) ∧ Hid (Blk wr CB #[.map (some mf), .map (some mu)] 119) ∧ Hid (Blk wr LB #[.int .u32 (rp : Nat), .int .i64 rl, .slice ph l.length ch] 60) ∧ Hid (Below w.heap.size w wr)) (fun iv _ => l.length - (intOf iv).toNat)
    case atStart => exact ⟨0, Nat.zero_le _, rfl, fun i hi => by omega, HBCc.out, HBRc.out, HBc.out⟩
    case round =>
      clear HBCc HBRc HBc
      obtain ⟨k, hk, rfl, HALL, HBC0, HBR0, HB0⟩ := hrel
      by_cases hlt : k < l.length
      · have hlt' : (k : Int) < (l.length : Int) := by omega
        have hk0 : (0 : Int) ≤ (k : Int) := by omega
        have HLT : Hid (k < l.length) := hlt
        obtain ⟨_, _, hve, hcell⟩ := HHD.out wr HB0.out
        obtain ⟨rfl, rfl⟩ : ph = _ ∧ ch = _ := by simpa using hve
        obtain ⟨b2, o2, rfl, _, d0, d1, d2, d3⟩ := hcell k hlt
        have HPV : Hid (∀ (h : 0 < k) W, Below w.heap.size w W → W.cell? ⟨b2, o2 + (k - 1) * 4, none⟩ = some (.int .u32 ((l[k - 1]'(by omega)).1.1 : Nat)) ∧ W.cell? ⟨b2, o2 + (k - 1) * 4 + 1, none⟩ = some (.int .i64 (l[k - 1]'(by omega)).1.2)) := fun h W hb => by
          obtain ⟨_, _, hve', hcell'⟩ := HHD.out W hb
          obtain ⟨b', o', hp', _, z0, z1, _⟩ := hcell' (k - 1) (by omega)
          simp only [Value.slice.injEq] at hve'
          rw [← hve'.1] at hp'
          simp only [Option.some.injEq, Addr.mk.injEq] at hp'
          obtain ⟨rfl, rfl, _⟩ := hp'
          exact ⟨z0, z1⟩
        have HIX := hideN (HIDS.out (l[k]'hlt) (List.getElem_mem hlt))
        have HXW := hideN (HW.out.2 (l[k]'hlt) (List.getElem_mem hlt))
        have HYKx : Hid (∃ y, l[k]'hlt = y) := ⟨_, rfl⟩
        obtain ⟨⟨⟨xp, xl⟩, u, t⟩, hy⟩ : ∃ y, l[k]'hlt = y := ⟨_, rfl⟩
        have HYK : Hid (l[k]'hlt = ((xp, xl), u, t)) := hy
        rw [hy] at d0 d1 d2 d3 HIX HXW
        simp only at d0 d1 d2 d3 HIX HXW
        obtain ⟨TX, hT⟩ : ∃ TX : ByteArray, (⟨t.toArray⟩ : ByteArray) = TX := ⟨_, rfl⟩
        rw [hT] at d3
        have HTT : Hid (TX.data.toList = t) := by show _ = _; rw [← hT]
        have HTZ : Hid (TX.size = t.length) := by
          show _ = _
          have : TX.data.toList.length = TX.size := by rw [Array.length_toList]; rfl
          rw [HTT.out] at this
          exact this.symm
        have HTM : Hid (TX.size ≤ maxLen) := by
          show _ ≤ _
          have h1 := HTZ.out
          have h2 := HIX.out
          unfold maxLen; omega
        clear hT hy hcell hve HYKx
        have hal := (Below.refl wr.heap.size wr).alloc (Nat.le_refl _) (.cells #[.int .u32 (xp : Nat), .int .i64 xl, .int .i64 u, .string TX] 78)
        have HHB := hideN (Blk.new wr #[.int .u32 (xp : Nat), .int .i64 xl, .int .i64 u, .string TX] 78)
        have HBC1 := hideN (HBC0.out.next hal)
        have HBR1 := hideN (HBR0.out.next hal)
        have HB1 : Hid (Below w.heap.size w _) := hideN (HB0.out.trans (hal.mono HB0.out.size))
        clear hal HBC0 HBR0 HB0
        go_wp2_with fail
        clear d0 d1 d2 d3
        generalize wr.alloc (.cells #[.int .u32 (xp : Nat), .int .i64 xl, .int .i64 u, .string TX] 78) = V1 at *
        generalize wr.heap.size = HB9 at *
        have HCE : Hid (∀ W', Blk W' HB9 #[.int .u32 (xp : Nat), .int .i64 xl, .int .i64 u, .string TX] 78 → W'.cell? ⟨HB9, 0, none⟩ = some (.int .u32 (xp : Nat)) ∧ W'.cell? ⟨HB9, 1, none⟩ = some (.int .i64 xl) ∧ W'.cell? ⟨HB9, 3, none⟩ = some (.string TX)) := fun W' h => ⟨h.cell (i := 0) rfl, h.cell (i := 1) rfl, h.cell (i := 3) rfl⟩
        obtain ⟨y0, y1, y3⟩ := HCE.out V1 HHB.out
        by_cases hpx : pmore 2166136261 TX.data.toList = xp
        rotate_left
        · obtain ⟨P, hP⟩ : ∃ P, pmore 2166136261 TX.data.toList = P := ⟨_, rfl⟩
          have HP1 := hideN hP
          obtain ⟨S, hS⟩ : ∃ S, (TX.size : Int) = S := ⟨_, rfl⟩
          have HP2 := hideN hS
          have hpe : ((P : Int) == (xp : Int)) = false := by rw [beq_eq_false_iff_ne]; rw [hP] at hpx; omega
          have HNE : Hid ((xp, xl) ≠ idOfL t) := fun e => hpx (by rw [HTT.out]; exact (congrArg Prod.fst e).symm)
          clear hP hS hpx
          go_region_held3 (fun w' => w'.cell? ⟨HB9, 0, none⟩ = some (.int .u32 (xp : Nat)) ∧ w'.cell? ⟨HB9, 1, none⟩ = some (.int .i64 xl) ∧ w'.cell? ⟨HB9, 3, none⟩ = some (.string TX)) (first | exact HCE.out _ HHB2.out | go_keep) (first
            | (go_at_call 125; refine (id_any TX _ HTM.out).mono ?_; rintro e v2 ⟨rfl, hb2⟩; rw [HP1.out, HP2.out]; have hB2 : Below V1.heap.size V1 v2 := (Below.refl _ V1).drew.trans hb2; have HHB2 := hideN (HHB.out.next hB2); have HBC2 := hideN (HBC1.out.next hB2); have HBR2 := hideN (HBR1.out.next hB2); have HB2' : Hid (Below w.heap.size w v2) := HB1.out.trans (hB2.mono HB1.out.size); clear hb2 hB2))
          clear y0 y1 y3 HHB HBC1 HBR1 HB1
          have g8 := (HEE.out _ HB2'.out).glob 8 rfl
          change World.cell? _ ⟨8, 0, none⟩ = _ at g8
          have HR : Hid (RES = 9) := by
            show _ = _
            rw [← HRES.out]
            have h9 : pErr U (rp, rl) l k = 9 := pErr_mark HLT.out (markE_sum HLT.out (by rw [HYK.out]; exact HNE.out)) (by decide)
            rw [piecesErr_at HLT.out HALL.out (by rw [h9]; decide), h9]
          go_wp2_with fail
          go_ret
          exact ⟨_, rfl, .inr ⟨8, by decide, HRR.out.trans HR.out, rfl⟩, HB2'.out⟩
        by_cases hsx : (TX.size : Int) = xl
        rotate_left
        · have HP1 : Hid (pmore 2166136261 TX.data.toList = xp) := hpx
          obtain ⟨S, hS⟩ : ∃ S, (TX.size : Int) = S := ⟨_, rfl⟩
          have HP2 := hideN hS
          have hse : (S == xl) = false := by rw [beq_eq_false_iff_ne]; rw [hS] at hsx; exact hsx
          have HNE : Hid ((xp, xl) ≠ idOfL t) := fun e => hsx (by have h1 := congrArg Prod.snd e; have h2 := HTZ.out; simp only [idOfL] at h1; omega)
          clear hS hsx hpx
          go_region_held3 (fun w' => w'.cell? ⟨HB9, 0, none⟩ = some (.int .u32 (xp : Nat)) ∧ w'.cell? ⟨HB9, 1, none⟩ = some (.int .i64 xl) ∧ w'.cell? ⟨HB9, 3, none⟩ = some (.string TX)) (first | exact HCE.out _ HHB2.out | go_keep) (first
            | (go_at_call 125; refine (id_any TX _ HTM.out).mono ?_; rintro e v2 ⟨rfl, hb2⟩; rw [HP1.out, HP2.out]; have hB2 : Below V1.heap.size V1 v2 := (Below.refl _ V1).drew.trans hb2; have HHB2 := hideN (HHB.out.next hB2); have HBC2 := hideN (HBC1.out.next hB2); have HBR2 := hideN (HBR1.out.next hB2); have HB2' : Hid (Below w.heap.size w v2) := HB1.out.trans (hB2.mono HB1.out.size); clear hb2 hB2))
          clear y0 y1 y3 HHB HBC1 HBR1 HB1
          have g8 := (HEE.out _ HB2'.out).glob 8 rfl
          change World.cell? _ ⟨8, 0, none⟩ = _ at g8
          have HR : Hid (RES = 9) := by
            show _ = _
            rw [← HRES.out]
            have h9 : pErr U (rp, rl) l k = 9 := pErr_mark HLT.out (markE_sum HLT.out (by rw [HYK.out]; exact HNE.out)) (by decide)
            rw [piecesErr_at HLT.out HALL.out (by rw [h9]; decide), h9]
          go_wp2_with fail
          go_ret
          exact ⟨_, rfl, .inr ⟨8, by decide, HRR.out.trans HR.out, rfl⟩, HB2'.out⟩
        have HP1 : Hid (pmore 2166136261 TX.data.toList = xp) := hpx
        have HP2 : Hid ((TX.size : Int) = xl) := hsx
        have HIDK : Hid ((xp, xl) = idOfL t) := by
          have h2 := HTZ.out
          exact Prod.ext (by show xp = pmore 2166136261 t; rw [← HTT.out]; exact hpx.symm) (by show xl = (t.length : Int); omega)
        clear hpx hsx
        go_region_held3 (fun w' => w'.cell? ⟨HB9, 0, none⟩ = some (.int .u32 (xp : Nat)) ∧ w'.cell? ⟨HB9, 1, none⟩ = some (.int .i64 xl) ∧ w'.cell? ⟨HB9, 3, none⟩ = some (.string TX)) (first | exact HCE.out _ HHB2.out | go_keep) (first
          | (go_at_call 125; refine (id_any TX _ HTM.out).mono ?_; rintro e v2 ⟨rfl, hb2⟩; rw [HP1.out, HP2.out]; have hB2 : Below V1.heap.size V1 v2 := (Below.refl _ V1).drew.trans hb2; have HHB2 := hideN (HHB.out.next hB2); have HBC2 := hideN (HBC1.out.next hB2); have HBR2 := hideN (HBR1.out.next hB2); have HB2' : Hid (Below w.heap.size w v2) := HB1.out.trans (hB2.mono HB1.out.size); clear hb2 hB2))
        clear y0 y1 y3 HHB HBC1 HBR1 HB1
        by_cases hkp : 0 < k
        · have hkp' : (0 : Int) < (k : Int) := by omega
          obtain ⟨p0, p1⟩ := HPV.out hkp v2 HB2'.out
          have HPW : Hid (∀ W, Below w.heap.size w W → W.cell? ⟨b2, o2 + (k - 1) * 4, none⟩ = some (.int .u32 ((l[k - 1]'(by omega)).1.1 : Nat)) ∧ W.cell? ⟨b2, o2 + (k - 1) * 4 + 1, none⟩ = some (.int .i64 (l[k - 1]'(by omega)).1.2)) := fun W hb => HPV.out hkp W hb
          have HKB : Hid (k - 1 < l.length) := by show _ < _; omega
          obtain ⟨⟨⟨yp, yl⟩, u', t'⟩, hy⟩ : ∃ y, l[k - 1]'(by omega) = y := ⟨_, rfl⟩
          have HYP : Hid (l[k - 1]'HKB.out = ((yp, yl), u', t')) := hy
          rw [hy] at p0 p1 HPW
          simp only at p0 p1 HPW
          have HKP : Hid (0 < k) := hkp
          obtain ⟨m, hkm⟩ : ∃ m, k - 1 = m := ⟨_, rfl⟩
          rw [hkm] at p0 p1 HPW
          clear hy HPV
          have hm0 : ((m : Int)) < (l.length : Int) := by omega
          have hm2 : (0 : Int) ≤ (m : Int) := by omega
          have hm3 : IntKind.i64.wrap ((k : Int) - 1) = (m : Int) := by rw [IntKind.wrap_i64]; omega
          have k2 := HBR2.out.cell (i := 2) rfl
          have m0 := HHB2.out.cell (i := 0) rfl
          have m1 := HHB2.out.cell (i := 1) rfl
          go_wp2_with fail
          obtain ⟨lb, hlb⟩ : ∃ lb, lessB (yp, yl) (xp, xl) = lb := ⟨_, rfl⟩
          have HLB := hideN hlb
          cases lb with
          | false =>
            have HLE : Hid ((if (yp : Int) = (xp : Int) then decide (yl < xl) else decide ((yp : Int) < (xp : Int))) = false) := hlb
            clear hlb
            go_region_held3 (fun w' => w'.cell? ⟨LB, 2, none⟩ = some (.slice (some ⟨b2, o2, none⟩) l.length ch) ∧ w'.cell? ⟨b2, o2 + m * 4, none⟩ = some (.int .u32 (yp : Nat)) ∧ w'.cell? ⟨b2, o2 + m * 4 + 1, none⟩ = some (.int .i64 yl) ∧ w'.cell? ⟨HB9, 0, none⟩ = some (.int .u32 (xp : Nat)) ∧ w'.cell? ⟨HB9, 1, none⟩ = some (.int .i64 xl)) (first | exact ⟨HBR3.out.cell (i := 2) rfl, (HPW.out _ HB3.out).1, (HPW.out _ HB3.out).2, HHB3.out.cell (i := 0) rfl, HHB3.out.cell (i := 1) rfl⟩ | go_keep) (first
              | (go_at_call 87; refine (less_any yp yl xp xl _).mono ?_; rintro e w3 ⟨rfl, hb3⟩; rw [HLE.out]; have hB3 : Below v2.heap.size v2 w3 := (Below.refl _ v2).drew.trans hb3; have HHB3 := hideN (HHB2.out.next hB3); have HBC3 := hideN (HBC2.out.next hB3); have HBR3 := hideN (HBR2.out.next hB3); have HB3 : Hid (Below w.heap.size w w3) := HB2'.out.trans (hB3.mono HB2'.out.size); clear hb3 hB3))
            clear p0 p1 k2 m0 m1 hm0 hm2 hm3 HHB2 HBC2 HBR2 HB2'
            have HR : Hid (RES = 8) := by
              show _ = _
              rw [← HRES.out]
              have h8 : pErr U (rp, rl) l k = 8 := pErr_mark HLT.out (markE_order HLT.out HKP.out (by rw [HYK.out]; exact HIDK.out) (by rw [HYK.out, HYP.out]; exact HLB.out)) (by decide)
              rw [piecesErr_at HLT.out HALL.out (by rw [h8]; decide), h8]
            have g7 := (HEE.out _ HB3.out).glob 7 rfl
            change World.cell? _ ⟨7, 0, none⟩ = _ at g7
            go_wp2_with fail
            go_ret
            exact ⟨_, rfl, .inr ⟨7, by decide, HRR.out.trans HR.out, rfl⟩, HB3.out⟩
          | true =>
            have HLE : Hid ((if (yp : Int) = (xp : Int) then decide (yl < xl) else decide ((yp : Int) < (xp : Int))) = true) := hlb
            clear hlb
            have HMK : Hid (markE l k = 0) := markE_fine HLT.out (by rw [HYK.out]; exact HIDK.out) (fun _ => by rw [HYK.out, HYP.out]; exact HLB.out)
            go_region_held3 (fun w' => w'.cell? ⟨LB, 2, none⟩ = some (.slice (some ⟨b2, o2, none⟩) l.length ch) ∧ w'.cell? ⟨b2, o2 + m * 4, none⟩ = some (.int .u32 (yp : Nat)) ∧ w'.cell? ⟨b2, o2 + m * 4 + 1, none⟩ = some (.int .i64 yl) ∧ w'.cell? ⟨HB9, 0, none⟩ = some (.int .u32 (xp : Nat)) ∧ w'.cell? ⟨HB9, 1, none⟩ = some (.int .i64 xl)) (first | exact ⟨HBR3.out.cell (i := 2) rfl, (HPW.out _ HB3.out).1, (HPW.out _ HB3.out).2, HHB3.out.cell (i := 0) rfl, HHB3.out.cell (i := 1) rfl⟩ | go_keep) (first
              | (go_at_call 87; refine (less_any yp yl xp xl _).mono ?_; rintro e w3 ⟨rfl, hb3⟩; rw [HLE.out]; have hB3 : Below v2.heap.size v2 w3 := (Below.refl _ v2).drew.trans hb3; have HHB3 := hideN (HHB2.out.next hB3); have HBC3 := hideN (HBC2.out.next hB3); have HBR3 := hideN (HBR2.out.next hB3); have HB3 : Hid (Below w.heap.size w w3) := HB2'.out.trans (hB3.mono HB2'.out.size); clear hb3 hB3))
            clear p0 p1 k2 m0 m1 hm0 hm2 hm3 HHB2 HBC2 HBR2 HB2'
            -- at W3: HBC3 HBR3 HHB3 HB3, HMK
            have e1 := HBC3.out.cell (i := 1) rfl
            have k0 := HBR3.out.cell (i := 0) rfl
            have k1 := HBR3.out.cell (i := 1) rfl
            have m0 := HHB3.out.cell (i := 0) rfl
            have m1 := HHB3.out.cell (i := 1) rfl
            have m2 := HHB3.out.cell (i := 2) rfl
            have hBd : Below w.heap.size w w3.drew := HB3.out.trans ((Below.refl _ w3).drew.mono HB3.out.size)
            have lu := (HU.out _ hBd).look1 Tryz.underlying117 (intZero _) (x := ((rp, rl), (xp, xl))) ⟨HW.out.1, HXW.out⟩
            change (Instr.lookup 117 (.map (some mu)) (.agg #[.int .u32 (rp : Nat), .int .i64 rl, .int .u32 (xp : Nat), .int .i64 xl]) false).run Tryz.prog _ = .ok (.int .i64 ((U ((rp, rl), (xp, xl))).getD 0)) _ at lu
            obtain ⟨nu, hnu⟩ : ∃ nu, (U ((rp, rl), (xp, xl))).getD 0 = nu := ⟨_, rfl⟩
            have HNU := hideN hnu
            rw [hnu] at lu
            have HBD := hideN hBd
            have HBC5 : Hid (Blk w3.drew CB #[.map (some mf), .map (some mu)] 119) := HBC3.out
            have HBR5 : Hid (Blk w3.drew LB #[.int .u32 (rp : Nat), .int .i64 rl, .slice (some ⟨b2, o2, none⟩) l.length ch] 60) := HBR3.out
            clear hnu hBd
            by_cases hq : nu = u
            · subst hq
              have HALL2 : Hid (∀ i, i < k + 1 → pErr U (rp, rl) l i = 0) := fun i hi => by
                rcases Nat.lt_or_ge i k with h | h
                · exact HALL.out i h
                · obtain rfl : i = k := by omega
                  exact pErr_ok HLT.out HMK.out (by rw [HYK.out]; exact HNU.out)
              go_wp2_with fail
              go_region
              all_goals
                go_wp2_with fail
                go_roundw
                case rel => exact ⟨k + 1, HLT.out, by go_num, HALL2.out, HBC5.out, HBR5.out, HBD.out⟩
                case measure => simp [intOf]; omega
            · have hqn : (nu == u) = false := beq_eq_false_iff_ne.2 hq
              have HR : Hid (RES = 11) := by
                show _ = _
                rw [← HRES.out]
                have h11 : pErr U (rp, rl) l k = 11 := pErr_used HLT.out HMK.out (by rw [HYK.out]; simp only; rw [HNU.out]; exact hq)
                rw [piecesErr_at HLT.out HALL.out (by rw [h11]; decide), h11]
              have g10 := (HEE.out _ HBD.out).glob 10 rfl
              change World.cell? _ ⟨10, 0, none⟩ = _ at g10
              clear hq
              go_wp2_with fail
              go_region
              all_goals
                go_wp2_with fail
                go_ret
                exact ⟨_, rfl, .inr ⟨10, by decide, HRR.out.trans HR.out, rfl⟩, HBD.out⟩
        · have hk1 : k = 0 := by omega
          subst hk1
          have HMK : Hid (markE l 0 = 0) := markE_fine HLT.out (by rw [HYK.out]; exact HIDK.out) (fun h => absurd h (by decide))
          clear HPV
          go_wp2_with fail
          go_quiet (fail)
          have hdr := below_of_grown (grown_drewN v2 nq)
          have HHB3 := hideN (HHB2.out.next hdr)
          have HBC3 := hideN (HBC2.out.next hdr)
          have HBR3 := hideN (HBR2.out.next hdr)
          have HB3 : Hid (Below w.heap.size w _) := hideN (HB2'.out.trans (hdr.mono HB2'.out.size))
          clear hdr HHB2 HBC2 HBR2 HB2'
          generalize v2.drewN nq = w3 at *
          -- at W3: HBC3 HBR3 HHB3 HB3, HMK
          have e1 := HBC3.out.cell (i := 1) rfl
          have k0 := HBR3.out.cell (i := 0) rfl
          have k1 := HBR3.out.cell (i := 1) rfl
          have m0 := HHB3.out.cell (i := 0) rfl
          have m1 := HHB3.out.cell (i := 1) rfl
          have m2 := HHB3.out.cell (i := 2) rfl
          have hBd : Below w.heap.size w w3.drew := HB3.out.trans ((Below.refl _ w3).drew.mono HB3.out.size)
          have lu := (HU.out _ hBd).look1 Tryz.underlying117 (intZero _) (x := ((rp, rl), (xp, xl))) ⟨HW.out.1, HXW.out⟩
          change (Instr.lookup 117 (.map (some mu)) (.agg #[.int .u32 (rp : Nat), .int .i64 rl, .int .u32 (xp : Nat), .int .i64 xl]) false).run Tryz.prog _ = .ok (.int .i64 ((U ((rp, rl), (xp, xl))).getD 0)) _ at lu
          obtain ⟨nu, hnu⟩ : ∃ nu, (U ((rp, rl), (xp, xl))).getD 0 = nu := ⟨_, rfl⟩
          have HNU := hideN hnu
          rw [hnu] at lu
          have HBD := hideN hBd
          have HBC5 : Hid (Blk w3.drew CB #[.map (some mf), .map (some mu)] 119) := HBC3.out
          have HBR5 : Hid (Blk w3.drew LB #[.int .u32 (rp : Nat), .int .i64 rl, .slice (some ⟨b2, o2, none⟩) l.length ch] 60) := HBR3.out
          clear hnu hBd
          by_cases hq : nu = u
          · subst hq
            have HALL2 : Hid (∀ i, i < 0 + 1 → pErr U (rp, rl) l i = 0) := fun i hi => by
              rcases Nat.lt_or_ge i 0 with h | h
              · exact HALL.out i h
              · obtain rfl : i = 0 := by omega
                exact pErr_ok HLT.out HMK.out (by rw [HYK.out]; exact HNU.out)
            go_wp2_with fail
            go_region
            all_goals
              go_wp2_with fail
              go_roundw
              case rel => exact ⟨0 + 1, HLT.out, by go_num, HALL2.out, HBC5.out, HBR5.out, HBD.out⟩
              case measure => simp [intOf]; omega
          · have hqn : (nu == u) = false := beq_eq_false_iff_ne.2 hq
            have HR : Hid (RES = 11) := by
              show _ = _
              rw [← HRES.out]
              have h11 : pErr U (rp, rl) l 0 = 11 := pErr_used HLT.out HMK.out (by rw [HYK.out]; simp only; rw [HNU.out]; exact hq)
              rw [piecesErr_at HLT.out HALL.out (by rw [h11]; decide), h11]
            have g10 := (HEE.out _ HBD.out).glob 10 rfl
            change World.cell? _ ⟨10, 0, none⟩ = _ at g10
            clear hq
            go_wp2_with fail
            go_region
            all_goals
              go_wp2_with fail
              go_ret
              exact ⟨_, rfl, .inr ⟨10, by decide, HRR.out.trans HR.out, rfl⟩, HBD.out⟩
      · have hge : (l.length : Int) ≤ (k : Int) := by omega
        have HR : Hid (RES = 0) := by
          show _ = _
          rw [← HRES.out]
          exact piecesErr_ok (fun i hi => HALL.out i (by omega))
        go_wp2_with fail
        go_ret
        exact ⟨_, rfl, .inl ⟨HRR.out.trans HR.out, rfl⟩, HB0.out⟩
end Go.Proofs.YtcbcjefefmbccabGreatDoor
