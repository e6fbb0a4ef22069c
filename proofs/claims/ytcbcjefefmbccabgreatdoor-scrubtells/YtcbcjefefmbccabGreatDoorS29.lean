/-
  Own text. scrub.Check by a contract, at anything: the first error of the files, then of the bins.
  Own text. The document's fileError by a contract: the number of a file's error is the program's.
-/
import Derived.Test.YtcbcjefefmbccabGreatDoorS17
import Derived.Test.YtcbcjefefmbccabGreatDoorS28
import Derived.Test.YtcbcjefefmbccabGreatDoorS19
import Derived.Test.YtcbcjefefmbccabGreatDoorS11
import Derived.Test.YtcbcjefefmbccabGreatDoorS03
import Derived.Test.YtcbcjefefmbccabGreatDoorS05
namespace Go.Proofs.YtcbcjefefmbccabGreatDoor
open Go.RowKit Go.Maps

def nameBad (fs : List Rcp) (k : Nat) (x : List UInt8) : Bool := match k with | 0 => false | j + 1 => match fs[j]? with | none => false | some g => !decide (g.1 < x)
def fileE (fs : List Rcp) (bs : List NBin) (k : Nat) : Int :=
  match fs[k]? with
  | none => 0
  | some r => if (recFault r.1 r.2.1 r.2.2.2).1 ≠ 0 then (recFault r.1 r.2.1 r.2.2.2).1 else if nameBad fs k r.1 = true then 8 else addErr (zeroF bs) (zeroU bs) r
theorem nameBad_at {fs : List Rcp} {k : Nat} {x : List UInt8} (hk : k < fs.length) (h0 : 0 < k) : nameBad fs k x = !decide ((fs[k - 1]'(by omega)).1 < x) := by
  cases k with
  | zero => omega
  | succ j =>
    unfold nameBad
    simp only
    rw [List.getElem?_eq_getElem (show j < fs.length by omega)]
    rfl
theorem cU_leN (N : Nat) : ∀ (l : List Rcp) {f : Use → Option Int} {B : Int}, (∀ r ∈ l, r.2.2.2.length ≤ N) → (∀ y c, f y = some c → 0 ≤ c ∧ c ≤ B) → ∀ y c, cU f l y = some c → 0 ≤ c ∧ c ≤ B + N * l.length
  | [], f, B, _, h, y, c, hy => by
    have := h y c hy
    simp only [List.length_nil]
    omega
  | r :: l, f, B, hl, h, y, c, hy => by
    have h1 := bumpAll_le (rcpRep r) r.2.2.2 h
    have h2 := cU_leN N l (f := bumpAll f (rcpRep r) r.2.2.2) (fun x hx => hl x (List.mem_cons_of_mem _ hx)) h1 y c hy
    have h3 := hl r (List.mem_cons_self ..)
    have h4 : (N : Int) * ((l.length + 1 : Nat) : Int) = N * l.length + N := by push_cast; rw [Int.mul_add, Int.mul_one]
    rw [List.length_cons, h4]
    omega
set_option maxRecDepth 100000 in
set_option maxHeartbeats 4000000 in
theorem checkFileE_any (a : Nat → Addr) (vf : Value) (fs : List Rcp) (bs : List NBin) (k : Nat) (w0 W : World) (hk : k < fs.length) (CB FX BX mf mu : Nat) (vb : Value) (hfm : fs.length ≤ 30) (hv : RcpsAt w0 vf fs) (hnm : ∀ r ∈ fs, r.1.length ≤ 50000) (hids : ∀ r ∈ fs, r.2.2.2.length ≤ 1000) (hwf : ∀ r ∈ fs, (∀ i ∈ r.2.2.2, WfID i) ∧ WfID (rcpRep r)) (hE : ErrW w0 a) (hI : CkI w0 bs fs vf vb CB FX BX mf mu k W) :
    Calls Tryz.prog 62 #[.agg #[.map (some mf), .map (some mu)], vf, .int .i64 k] W fun e w' => ∃ ev, e = .returned ev ∧ SentOr a ev (fileE fs bs k) ∧ Off (fun j => j = mf ∨ j = mu) W w' ∧
      (fileE fs bs k = 0 → idInts.Fn w' mf (100 + k + 1) (bump (cF (zeroF bs) (fs.take k)) (rcpRep fs[k])) ∧ useInts.Fn w' mu (100000 + 250 * k + 250) (bumpAll (cU (zeroU bs) (fs.take k)) (rcpRep fs[k]) fs[k].2.2.2)) := by
  have hmem := List.getElem_mem hk
  have hfe : fileE fs bs k = if (recFault fs[k].1 fs[k].2.1 fs[k].2.2.2).1 ≠ 0 then (recFault fs[k].1 fs[k].2.1 fs[k].2.2.2).1 else if nameBad fs k fs[k].1 = true then 8 else addErr (zeroF bs) (zeroU bs) fs[k] := by
    unfold fileE
    rw [List.getElem?_eq_getElem hk]
  rcases recFault_code fs[k].1 fs[k].2.1 fs[k].2.2.2 with hg | hc
  · have hc0 : ¬ (recFault fs[k].1 fs[k].2.1 fs[k].2.2.2).1 ≠ 0 := by rw [hg]; simp
    rw [if_neg hc0] at hfe
    have hlen : fs[k].2.2.2.length ≤ 250 := (recFault_zero hg).2.2.1
    by_cases hb : nameBad fs k fs[k].1 = true
    · rw [if_pos hb] at hfe
      have h0 : 0 < k := by
        rcases Nat.eq_zero_or_pos k with h | h
        · subst h
          exact absurd hb (by unfold nameBad; simp)
        · exact h
      have hnl : ¬ (fs[k - 1]'(by omega)).1 < fs[k].1 := by
        rw [nameBad_at hk h0] at hb
        simpa using hb
      refine (checkFile_bad a vf fs k w0 W hk mf mu hv hI.below (by omega) hnm hids hE 8 (by decide) (.inr ⟨hg, ⟨h0, hnl⟩, rfl⟩)).mono ?_
      rintro e w' ⟨ev, he, hs, hbw⟩
      exact ⟨ev, he, by rw [hfe]; exact hs, Off.of_below hbw, fun h => by rw [hfe] at h; exact absurd h (by decide)⟩
    · rw [if_neg hb] at hfe
      have hord : ∀ h : 0 < k, (fs[k - 1]'(by omega)).1 < fs[k].1 := fun h0 => by
        rw [nameBad_at hk h0] at hb
        simpa using hb
      refine (checkFile_add a vf fs k w0 W hk mf mu (100 + k) (100000 + 250 * k) (cF (zeroF bs) (fs.take k)) (cU (zeroU bs) (fs.take k)) (1000 * 30) hv hI.below ⟨hI.new.1, hI.new.2.1⟩ hfm hg hord hnm (hwf _ hmem).1 (hwf _ hmem).2 (hE.on (by decide)) hI.new.2.2 (by omega) (by omega) ⟨by omega, by omega⟩
        (fun y c hy => by have := cF_le (fs.take k) (zeroF_le bs) y c hy; rw [List.length_take] at this; omega)
        (fun y c hy => by have := cU_leN 1000 (fs.take k) (fun r hr => hids r (List.mem_of_mem_take hr)) (zeroU_le bs) y c hy; rw [List.length_take] at this; omega)
        hI.f hI.u).mono ?_
      unfold AddPost
      rw [addErr_static (fun y => cF_some _ _ y) (fun y => cU_some _ _ y)]
      rintro e w' ⟨ev, he, hs, ho, hfu⟩
      refine ⟨ev, he, by rw [hfe]; exact hs, ho, fun h => ?_⟩
      rw [hfe] at h
      obtain ⟨h1, h2⟩ := hfu h
      exact ⟨h1, h2.mono (by omega)⟩
  · have hc0 : (recFault fs[k].1 fs[k].2.1 fs[k].2.2.2).1 ≠ 0 := by omega
    rw [if_pos hc0] at hfe
    refine (checkFile_bad a vf fs k w0 W hk mf mu hv hI.below (by omega) hnm hids hE _ hc0 (.inl ⟨(recFault fs[k].1 fs[k].2.1 fs[k].2.2.2).2, rfl⟩)).mono ?_
    rintro e w' ⟨ev, he, hs, hbw⟩
    exact ⟨ev, he, by rw [hfe]; exact hs, Off.of_below hbw, fun h => by rw [hfe] at h; exact absurd h hc0⟩
set_option maxRecDepth 100000 in
set_option maxHeartbeats 4000000 in
theorem check1E_any (a : Nat → Addr) (vf vb : Value) (fs : List Rcp) (bs : List NBin) (w0 W : World) (CB FX BX mf mu k : Nat) (hk : k < fs.length) (hfm : fs.length ≤ 30) (hnm : ∀ r ∈ fs, r.1.length ≤ 50000) (hids : ∀ r ∈ fs, r.2.2.2.length ≤ 1000) (hwf : ∀ r ∈ fs, (∀ i ∈ r.2.2.2, WfID i) ∧ WfID (rcpRep r)) (hv : RcpsAt w0 vf fs) (hE : ErrW w0 a) (hI : CkI w0 bs fs vf vb CB FX BX mf mu k W) :
    Calls Tryz.prog 61 (#[.int .i64 k] ++ #[.pointer (some ⟨CB, 0, none⟩), .pointer (some ⟨FX, 0, none⟩)]) W fun e w' => ∃ ev, e = .returned ev ∧ SentOr a ev (fileE fs bs k) ∧ W.heap.size ≤ w'.heap.size ∧ (fileE fs bs k = 0 → CkI w0 bs fs vf vb CB FX BX mf mu (k + 1) w') ∧ Below w0.heap.size w0 w' := by
  have HCF := hideN (checkFileE_any a vf fs bs k w0 W hk CB FX BX mf mu vb hfm hv hnm hids hwf hE hI)
  obtain ⟨AE, hAE⟩ : ∃ AE, fileE fs bs k = AE := ⟨_, rfl⟩
  rw [hAE] at HCF ⊢
  clear hAE
  have HI := hideN hI
  have HTK := hideN (List.take_succ_eq_append_getElem hk)
  have c0 := hI.cb.cell (i := 0) rfl
  have c1 := hI.cb.cell (i := 1) rfl
  have f0 := hI.fx.cell (i := 0) rfl
  obtain ⟨pa, ca, rfl, _⟩ := hv
  clear hI hE hnm hids hwf
  simp only [List.append_toArray, List.cons_append, List.nil_append]
  go_enter Tryz.func61, Tryz.ntmps61
  go_wp2_with fail
  refine HCF.out.mono ?_
  rintro e w2 ⟨ev, rfl, hev, ho, hfu⟩
  have HEV := hideN hev
  have HBW : Hid (Below w0.heap.size w0 w2) := HI.out.below.trans (ho.below HI.out.below.size (fun j hj e => by have := HI.out.new; rcases e with e | e <;> omega))
  have HSZ := hideN ho.size
  have HN : Hid (AE = 0 → CkI w0 bs fs (.slice pa fs.length ca) vb CB FX BX mf mu (k + 1) w2) := fun h0 => by
    have h := HI.out
    obtain ⟨hf, hu⟩ := hfu h0
    refine ⟨h.below.trans (ho.below h.below.size (fun j hj e => by have := h.new; rcases e with e | e <;> omega)), ho.blk h.cb (by rintro (e | e); exact h.apart.1.1 e; exact h.apart.1.2 e), ho.blk h.fx (by rintro (e | e); exact h.apart.2.1.1 e; exact h.apart.2.1.2 e), ho.blk h.bx (by rintro (e | e); exact h.apart.2.2.1 e; exact h.apart.2.2.2 e), ?_, ?_, h.new, h.apart⟩
    · rw [HTK.out, cF_snoc]
      exact hf
    · rw [HTK.out, cU_snoc]
      exact hu.mono (by omega)
  clear hev hfu ho HCF
  go_wp2_with fail
  go_ret
  exact ⟨_, rfl, HEV.out, HSZ.out, HN.out, HBW.out⟩
set_option maxRecDepth 100000 in
set_option maxHeartbeats 4000000 in
theorem check2E_any (a : Nat → Addr) (vf vb : Value) (fs : List Rcp) (bs : List NBin) (w0 W : World) (CB FX BX mf mu k : Nat) (hk : k < bs.length) (hbm : bs.length ≤ 100) (hbl : ∀ b ∈ bs, b.2.length ≤ 1000) (hbw : ∀ b ∈ bs, WfID b.1 ∧ ∀ h ∈ b.2, WfID h.1) (htx : ∀ b ∈ bs, ∀ h ∈ b.2, h.2.2.length ≤ 1000) (hv : LoadsAt w0 vb bs) (hE : ErrW w0 a) (hI : CkI w0 bs fs vf vb CB FX BX mf mu fs.length W) :
    Calls Tryz.prog 63 (#[.int .i64 k] ++ #[.pointer (some ⟨CB, 0, none⟩), .pointer (some ⟨BX, 0, none⟩)]) W fun e w' => ∃ ev, e = .returned ev ∧ SentOr a ev (binE (cF (zeroF bs) fs) (cU (zeroU bs) fs) bs k) ∧ W.heap.size ≤ w'.heap.size ∧ CkI w0 bs fs vf vb CB FX BX mf mu fs.length w' := by
  have hff := hI.f
  have huu := hI.u
  rw [List.take_length] at hff huu
  have HCB := hideN (checkBinE_any a vb bs k W hk mf mu _ _ _ _ (hv.below hI.below) hbm hbl hbw (htx _ (List.getElem_mem hk)) ((hE.below hI.below (Nat.le_refl _)).on (by decide)) hff huu)
  have HI := hideN hI
  have c0 := hI.cb.cell (i := 0) rfl
  have c1 := hI.cb.cell (i := 1) rfl
  have f0 := hI.bx.cell (i := 0) rfl
  obtain ⟨pa, ca, rfl, _⟩ := hv
  obtain ⟨UE, hUE⟩ : ∃ UE, binE (cF (zeroF bs) fs) (cU (zeroU bs) fs) bs k = UE := ⟨_, rfl⟩
  rw [hUE] at HCB ⊢
  clear hI hE hff huu hUE hbl hbw htx
  simp only [List.append_toArray, List.cons_append, List.nil_append]
  go_enter Tryz.func63, Tryz.ntmps63
  go_wp2_with fail
  refine HCB.out.mono ?_
  rintro e w2 ⟨ev, rfl, hev, hb⟩
  have HEV := hideN hev
  have HN := hideN (HI.out.next hb)
  have HS := hideN hb.size
  clear hev hb HCB
  go_wp2_with fail
  go_ret
  exact ⟨_, rfl, HEV.out, HS.out, HN.out⟩
/- What Check answers. -/
def checkE (fs : List Rcp) (bs : List NBin) : Int × Int := checkAns (fileE fs bs) (binE (cF (zeroF bs) fs) (cU (zeroU bs) fs) bs) fs.length bs.length
theorem scrubCheckE_any (a : Nat → Addr) (vf vb : Value) (fs : List Rcp) (bs : List NBin) (w : World) (hfm : fs.length ≤ 30) (hnm : ∀ r ∈ fs, r.1.length ≤ 50000) (hids : ∀ r ∈ fs, r.2.2.2.length ≤ 1000) (hwf : ∀ r ∈ fs, (∀ i ∈ r.2.2.2, WfID i) ∧ WfID (rcpRep r)) (hbm : bs.length ≤ 100) (hbl : ∀ b ∈ bs, b.2.length ≤ 1000) (hbw : ∀ b ∈ bs, WfID b.1 ∧ ∀ h ∈ b.2, WfID h.1) (htx : ∀ b ∈ bs, ∀ h ∈ b.2, h.2.2.length ≤ 1000) (hf : RcpsAt w vf fs) (hb : LoadsAt w vb bs) (hE : ErrW w a) :
    Calls Tryz.prog 24 #[vf, vb] w fun e w' => ∃ ev, e = .returned ev ∧ ErrIn w.heap.size w' a ev (checkE fs bs) ∧ Below w.heap.size w w' :=
  scrubCheck_gen a vf vb fs bs w (fileE fs bs) (binE (cF (zeroF bs) fs) (cU (zeroU bs) fs) bs) hfm hbm hbl hbw hf hb
    (fun CB FX BX mf mu k W hk hI => check1E_any a vf vb fs bs w W CB FX BX mf mu k hk hfm hnm hids hwf hf hE hI)
    (fun _ CB FX BX mf mu k W hk hI => check2E_any a vf vb fs bs w W CB FX BX mf mu k hk hbm hbl hbw htx hb hE hI)
end Go.Proofs.YtcbcjefefmbccabGreatDoor
namespace Go.Proofs.YtcbcjefefmbccabGreatDoor
open Go.RowKit Go.Maps

def inHd (l : List Hd) (i : Nat × Int) : Bool := l.any (fun h => decide (h.1 = i))
theorem inHd_snoc (l : List Hd) (h : Hd) (i : Nat × Int) : inHd (l ++ [h]) i = (inHd l i || decide (h.1 = i)) := by unfold inHd; rw [List.any_append]; simp
theorem addErr_bin {bs : List NBin} {r : Rcp} {l : List Hd} (h : nBin bs (rcpRep r) = some l) : addErr (zeroF bs) (zeroU bs) r = if r.2.2.2.all (inHd l) = true then 0 else 5 := by
  have hf : (zeroF bs (rcpRep r)).isSome = true := by rw [zeroF_isSome, h]; rfl
  have hu : ∀ i, (zeroU bs (rcpRep r, i)).isSome = inHd l i := fun i => by
    unfold zeroU inHd
    simp only
    rw [h]
    simp only
    split
    · rename_i e; rw [e]; rfl
    · rename_i e; simp only [Option.isSome_none]; exact (Bool.eq_false_iff.2 e).symm
  unfold addErr
  have e1 : (r.2.2.2.all fun i => (zeroU bs (rcpRep r, i)).isSome) = r.2.2.2.all (inHd l) := by congr 1; funext i; exact hu i
  rw [e1]
  simp only [hf, true_and]
theorem kFind_bin_at {bs : List NBin} {x : Nat × Int} {k : Nat} (h : kFind bs x = some k) : ∃ hk : k < bs.length, nBin bs x = some bs[k].2 := by
  obtain ⟨hk, _⟩ := kFind_some h
  exact ⟨hk, by rw [nBin_kFind, h]; simp [hk]⟩
theorem fault_code (c p : Int) (w : World) : (Instr.field 64 (.agg #[.int .i64 c, .int .i64 p]) 0).run Tryz.prog w = .ok (.int .i64 c) w := by kernel_rfl
set_option maxRecDepth 100000 in
set_option maxHeartbeats 8000000 in
theorem fileError_any (vf vb : Value) (fs : List Rcp) (bs : List NBin) (k : Nat) (w : World) (hk : k < fs.length) (hfm : fs.length ≤ 31) (hbm : bs.length ≤ 100) (hbl : ∀ b ∈ bs, b.2.length ≤ 1000) (hnm : ∀ r ∈ fs, r.1.length ≤ 50000) (hids : ∀ r ∈ fs, r.2.2.2.length ≤ 1000) (hf : RcpsAt w vf fs) (hb : LoadsAt w vb bs) :
    Calls Tryz.prog 66 #[vf, .int .i64 k, vb] w fun e w' => e = .returned (.int .i64 (fileE fs bs k)) ∧ Below w.heap.size w w' := by
  have HBS := hideN hb
  obtain ⟨pf, cf, rfl, hcell⟩ := hf
  obtain ⟨pb, cb, rfl, hbcell⟩ := hb
  obtain ⟨b, o, vi, rfl, hR⟩ := hcell k hk
  have HPR : Hid (∀ (h : 0 < k) W, Below w.heap.size w W → W.cell? ⟨b, o + (k - 1) * 4, none⟩ = some (.string ⟨fs[k - 1].1.toArray⟩)) := fun h W hb => by
    obtain ⟨b', o', vi', hp, hR'⟩ := hcell (k - 1) (by omega)
    obtain ⟨rfl, rfl⟩ : b = b' ∧ o = o' := by simpa using hp
    exact (hR'.below hb).c0
  have hk' : (k : Int) < (fs.length : Int) := by omega
  have hk0 : (0 : Int) ≤ (k : Int) := by omega
  have hfl' : (fs.length : Int) ≤ 31 := by omega
  have hbl' : (bs.length : Int) ≤ 100 := by omega
  have HNM := hideN (hnm fs[k] (List.getElem_mem hk))
  have HLEN := hideN (hids fs[k] (List.getElem_mem hk))
  have HBL := hideN hbl
  have HBM := hideN hbm
  have hfe : fileE fs bs k = if (recFault fs[k].1 fs[k].2.1 fs[k].2.2.2).1 ≠ 0 then (recFault fs[k].1 fs[k].2.1 fs[k].2.2.2).1 else if nameBad fs k fs[k].1 = true then 8 else addErr (zeroF bs) (zeroU bs) fs[k] := by
    unfold fileE
    rw [List.getElem?_eq_getElem hk]
  have HRA : Hid (∀ W, Below w.heap.size w W → RcpAt W b (o + k * 4) vi fs[k]) := fun W hb => hR.below hb
  obtain ⟨pv, cv, hvi, _⟩ := hR.ids
  obtain ⟨RES, hRES⟩ : ∃ RES, fileE fs bs k = RES := ⟨_, rfl⟩
  rw [hRES] at hfe ⊢
  have HNB := hideN (fun h0 : 0 < k => nameBad_at (fs := fs) (x := fs[k].1) hk h0)
  have HN0 : Hid (k = 0 → nameBad fs k fs[k].1 = false) := fun h => by subst h; rfl
  obtain ⟨⟨rn, rl, rp, ri⟩, hx⟩ : ∃ x, fs[k] = x := ⟨_, rfl⟩
  rw [hx] at HNM HLEN HRA hvi hfe HNB HN0
  simp only at HNM HLEN hvi hfe HNB HN0
  have HFE := hideN hfe
  subst hvi
  obtain ⟨NM, hNM⟩ : ∃ NM : ByteArray, (⟨rn.toArray⟩ : ByteArray) = NM := ⟨_, rfl⟩
  obtain rfl : rn = NM.data.toList := by rw [← hNM]
  have HNMM := hideN hNM
  have HNMZ : Hid (NM.size ≤ 50000) := by
    show NM.size ≤ 50000
    have := HNM.out
    rw [Array.length_toList] at this
    exact this
  have HC : Hid (∀ W, Below w.heap.size w W → W.cell? ⟨b, o + k * 4, none⟩ = some (.string NM) ∧ W.cell? ⟨b, o + k * 4 + 1, none⟩ = some (.int .i64 rl) ∧ W.cell? ⟨b, o + k * 4 + 2, none⟩ = some (.int .u32 rp) ∧ W.cell? ⟨b, o + k * 4 + 3, none⟩ = some (.slice pv ri.length cv) ∧ IdsAt W (.slice pv ri.length cv) ri) := fun W hb => by
    have h := HRA.out W hb
    refine ⟨?_, h.c1, h.c2, h.c3, h.ids⟩
    rw [← HNMM.out]
    exact h.c0
  obtain ⟨c0, c1, c2, c3, _⟩ := HC.out w (Below.refl _ _)
  have HML : Hid (ri.length ≤ maxLen ∧ NM.size ≤ maxLen) := ⟨by have := HLEN.out; unfold maxLen; omega, by have := HNMZ.out; unfold maxLen; omega⟩
  clear hfe hRES hbl hnm hids hcell hbcell hR hx hNM HNM hfm hbm HRA
  go_enter Tryz.func66, Tryz.ntmps66
  go_wp2_with fail
  refine (recipeFault_any NM HML.out.2 rl rp (.slice pv ri.length cv) ri w (HC.out w (Below.refl _ _)).2.2.2.2 HML.out.1).mono ?_
  rintro e w1 ⟨rfl, hb1⟩
  have HB1 := hideN hb1
  obtain ⟨⟨fc, fp⟩, hfc⟩ : ∃ f, recFault NM.data.toList rl ri = f := ⟨_, rfl⟩
  have HCODE := hideN (recFault_code NM.data.toList rl ri)
  rw [hfc] at HFE HCODE ⊢
  simp only at HFE HCODE ⊢
  clear hfc hb1 c0 c1 c2 c3
  have hfd := fault_code
  rcases HCODE.out with hz | hpos
  · obtain ⟨rfl, rfl⟩ : fc = 0 ∧ fp = -1 := by simpa using hz
    clear hz
    have HFE2 : Hid (RES = if nameBad fs k NM.data.toList = true then 8 else addErr (zeroF bs) (zeroU bs) (NM.data.toList, rl, rp, ri)) := by show _ = _; rw [HFE.out, if_neg (by simp)]
    clear HFE HCODE
    obtain ⟨c0, c1, c2, c3, _⟩ := HC.out w1 HB1.out
    have HREST : Hid (nameBad fs k NM.data.toList = false → RES = match nBin bs (repOf ri) with | some l => if ri.all (inHd l) = true then 0 else 5 | none => 5) := fun h => by
      rw [HFE2.out, h, if_neg (by simp)]
      cases hn : nBin bs (repOf ri) with
      | none => exact addErr_noF (by have := zeroF_isSome bs (repOf ri); rw [hn] at this; exact Option.not_isSome_iff_eq_none.1 (by rw [this]; simp))
      | some l => exact addErr_bin (r := (NM.data.toList, rl, rp, ri)) hn
    by_cases h0 : 0 < k
    · have h0' : (0 : Int) < (k : Int) := by omega
      have hpr := HPR.out h0 w1 HB1.out
      have hnb := HNB.out h0
      obtain ⟨PN, hPN⟩ : ∃ PN : ByteArray, (⟨fs[k - 1].1.toArray⟩ : ByteArray) = PN := ⟨_, rfl⟩
      have hPD : fs[k - 1].1 = PN.data.toList := by rw [← hPN]
      rw [hPN] at hpr
      rw [hPD] at hnb
      obtain ⟨m, hm'⟩ : ∃ m, k - 1 = m := ⟨_, rfl⟩
      have hwm : IntKind.i64.wrap ((k : Int) - 1) = (m : Int) := by rw [IntKind.wrap_i64]; omega
      have hml : (m : Int) < (fs.length : Int) := by omega
      have hm0 : (0 : Int) ≤ (m : Int) := by omega
      rw [hm'] at hpr
      have HNBB := hideN hnb
      clear hPN hPD hnb
      by_cases hlt : PN.data.toList < NM.data.toList
      · have HNG : Hid (nameBad fs k NM.data.toList = false) := by show _ = _; rw [HNBB.out, decide_eq_true hlt]; rfl
        have hbl : Op.bytesLess NM.toList PN.toList = false := by
          rw [Go.Proofs.bytesLess_eq, ByteArray.toList_eq, ByteArray.toList_eq]
          exact decide_eq_false (fun h => List.lt_irrefl _ (List.lt_trans h hlt))
        have hbe : (NM.toList == PN.toList) = false := by
          rw [ByteArray.toList_eq, ByteArray.toList_eq, beq_eq_false_iff_ne]
          intro e
          rw [e] at hlt
          exact List.lt_irrefl _ hlt
        clear hlt
        go_wp2_with fail
        go_quiet (fail)
        have HBc : Hid (Below w.heap.size w (w1.drewN nq)) := HB1.out.trans ((below_of_grown (grown_drewN w1 nq)).mono HB1.out.size)
        clear c0 c1 c2 c3 hpr hbl hbe hwm hml hm0
        generalize w1.drewN nq = wc at *
        obtain ⟨d0, d1, d2, d3, hid⟩ := HC.out wc HBc.out
        have HID := hideN hid
        clear hid
        go_wp2_with fail
        refine (refRepOf_any NM rl rp (.slice pv ri.length cv) ri wc HID.out HML.out.1).mono ?_
        rintro e wd ⟨rfl, hbd⟩
        have HBd : Hid (Below w.heap.size w wd) := HBc.out.trans (hbd.mono HBc.out.size)
        clear hbd d0 d1 d2 d3 HID
        have HFB := hideN (findBin_any (.slice pb bs.length cb) bs (repOf ri) wd (by omega) (HBS.out.below HBd.out))
        go_wp2_with fail
        cases hkf : kFind bs (repOf ri) with
        | none =>
          have hz : kFindI bs (repOf ri) = -1 := by unfold kFindI; rw [hkf]
          have HR : Hid (RES = 5) := by
            show _ = _
            rw [HREST.out HNG.out, nBin_kFind, hkf]
            rfl
          rw [hz] at HFB
          refine HFB.out.mono ?_
          rintro e we ⟨rfl, hbe⟩
          have HBe : Hid (Below w.heap.size w we) := HBd.out.trans (hbe.mono HBd.out.size)
          clear hbe hz
          go_wp2_with fail
          go_ret
          exact ⟨by rw [HR.out]; rfl, HBe.out⟩
        | some q =>
          obtain ⟨hq, hnb⟩ := kFind_bin_at hkf
          have hz : kFindI bs (repOf ri) = (q : Int) := by unfold kFindI; rw [hkf]
          rw [hz] at HFB
          have hre := HREST.out HNG.out
          rw [hnb] at hre
          simp only at hre
          obtain ⟨_, _, hve, hbcell⟩ := HBS.out
          obtain ⟨rfl, rfl⟩ : pb = _ ∧ cb = _ := by simpa using hve
          obtain ⟨b3, o3, vl, rfl, hL⟩ := hbcell q hq
          have HLB : Hid (∀ W, Below w.heap.size w W → LoadAt W b3 (o3 + q * 3) vl bs[q]) := fun W hb => hL.below hb
          have hql := HBL.out bs[q] (List.getElem_mem hq)
          have hq' : (q : Int) < (bs.length : Int) := by omega
          have hq0 : (0 : Int) ≤ (q : Int) := by omega
          obtain ⟨ph, ch, hvl, _⟩ := hL.helds
          obtain ⟨⟨⟨bp, bl⟩, l⟩, hx⟩ : ∃ x, bs[q] = x := ⟨_, rfl⟩
          rw [hx] at hre HLB hql hvl
          simp only at hre hql hvl
          subst hvl
          have HRE := hideN hre
          have hql' : (l.length : Int) ≤ 1000 := by omega
          have hri' : (ri.length : Int) ≤ 1000 := by have := HLEN.out; omega
          clear hve hbcell hL hx hre hz hnb
          refine HFB.out.mono ?_
          rintro e we ⟨rfl, hbe⟩
          have HBe : Hid (Below w.heap.size w we) := HBd.out.trans (hbe.mono HBd.out.size)
          clear hbe
          go_wp2_with fail
          go_loopw [9] (fun iv wr => ∃ p : Nat, p ≤ ri.length ∧ iv = .int .i64 p ∧ Hid (∀ i (h : i < ri.length), i < p → inHd l (ri[i]'h) = true) ∧ Hid (Below w.heap.size w wr)) (fun iv _ => ri.length - (intOf iv).toNat)
          case atStart => exact ⟨0, Nat.zero_le _, rfl, fun i _ h => by omega, HBe.out⟩
          case round =>
            clear HBe
            obtain ⟨p, hp, rfl, HIN, HBr⟩ := hrel
            obtain ⟨_, _, _, c3r, hidr⟩ := HC.out wr HBr.out
            by_cases hpl : p < ri.length
            · have hpl' : (p : Int) < (ri.length : Int) := by omega
              have hp0 : (0 : Int) ≤ (p : Int) := by omega
              have HPL : Hid (p < ri.length) := hpl
              have HNX : Hid (inHd l (ri[p]'hpl) = true → ∀ i (h : i < ri.length), i < p + 1 → inHd l (ri[i]'h) = true) := fun hin i h hi => by
                rcases Nat.lt_or_ge i p with h' | h'
                · exact HIN.out i h h'
                · obtain rfl : i = p := by omega
                  exact hin
              have HBAD : Hid (inHd l (ri[p]'hpl) = false → RES = 5) := fun hout => by
                rw [HRE.out, if_neg]
                intro hall
                have := List.all_eq_true.1 hall _ (List.getElem_mem hpl)
                rw [hout] at this
                cases this
              obtain ⟨⟨xp, xl⟩, hxx⟩ : ∃ x, ri[p]'hpl = x := ⟨_, rfl⟩
              have HXX : Hid (ri[p]'hpl = (xp, xl)) := hxx
              rw [hxx] at HNX HBAD
              clear hxx hidr
              go_wp2_with fail
              clear c3r
              obtain ⟨wo, hwo⟩ : ∃ wo, wo = wr := ⟨_, rfl⟩
              subst hwo
              go_loopw [10, 11] (fun tv iv wq => ∃ j : Nat, j ≤ l.length ∧ iv = .int .i64 j ∧ tv = .bool (inHd (l.take j) (xp, xl)) ∧ Hid (Below w.heap.size w wq)) (fun _ iv _ => l.length - (intOf iv).toNat)
              case atStart => exact ⟨0, Nat.zero_le _, rfl, rfl, HBr.out⟩
              case round =>
                obtain ⟨j, hj, rfl, rfl, HBq⟩ := hrel
                have hLq := HLB.out wr HBq.out
                have e2 := hLq.c2
                try simp only at e2
                by_cases hjl : j < l.length
                · have hjl' : (j : Int) < (l.length : Int) := by omega
                  have hj0 : (0 : Int) ≤ (j : Int) := by omega
                  have HTJ : Hid (inHd (l.take (j + 1)) (xp, xl) = (inHd (l.take j) (xp, xl) || decide ((l[j]'hjl).1 = (xp, xl)))) := by
                    show _ = _
                    rw [List.take_succ_eq_append_getElem hjl, inHd_snoc]
                  obtain ⟨_, _, hve, hhc⟩ := hLq.helds
                  obtain ⟨rfl, rfl⟩ : ph = _ ∧ ch = _ := by simpa using hve
                  obtain ⟨b4, o4, rfl, _, y0, y1, _, _⟩ := hhc j hjl
                  obtain ⟨_, _, _, c3q, hidq⟩ := HC.out wr HBq.out
                  obtain ⟨_, _, hve2, hic⟩ := hidq
                  obtain ⟨rfl, rfl⟩ : pv = _ ∧ cv = _ := by simpa using hve2
                  obtain ⟨b5, o5, rfl, _, z0, z1⟩ := hic p HPL.out
                  rw [HXX.out] at z0 z1
                  try simp only at z0 z1
                  obtain ⟨⟨⟨gp, gl⟩, gu, gt⟩, hg⟩ : ∃ g, l[j]'hjl = g := ⟨_, rfl⟩
                  rw [hg] at y0 y1 HTJ
                  try simp only at y0 y1 HTJ
                  obtain ⟨tb, htb⟩ : ∃ tb, inHd (l.take j) (xp, xl) = tb := ⟨_, rfl⟩
                  rw [htb] at HTJ ⊢
                  clear htb hg hve hhc hve2 hic hLq
                  cases tb with
                  | true =>
                    have HT2 : Hid (inHd (l.take (j + 1)) (xp, xl) = true) := by show _ = _; rw [HTJ.out]; rfl
                    go_wp2_with fail
                    go_quiet (fail)
                    have HBn : Hid (Below w.heap.size w (wr.drewN nq)) := HBq.out.trans ((below_of_grown (grown_drewN wr nq)).mono HBq.out.size)
                    clear y0 y1 z0 z1 c3q e2
                    go_wp2_with fail
                    go_roundw
                    case rel => exact ⟨j + 1, hjl, by go_num, by rw [HT2.out], HBn.out⟩
                    case measure => simp [intOf]; omega
                  | false =>
                    by_cases e1 : (gp : Int) = (xp : Int)
                    · by_cases e3 : gl = xl
                      · subst e3
                        obtain rfl : gp = xp := by omega
                        have HT2 : Hid (inHd (l.take (j + 1)) (gp, gl) = true) := by show _ = _; rw [HTJ.out]; simp
                        go_wp2_with fail
                        go_quiet (fail)
                        have HBn : Hid (Below w.heap.size w (wr.drewN nq)) := HBq.out.trans ((below_of_grown (grown_drewN wr nq)).mono HBq.out.size)
                        clear y0 y1 z0 z1 c3q e2
                        go_wp2_with fail
                        go_roundw
                        case rel => exact ⟨j + 1, hjl, by go_num, by rw [HT2.out], HBn.out⟩
                        case measure => simp [intOf]; omega
                      · obtain rfl : gp = xp := by omega
                        have HT2 : Hid (inHd (l.take (j + 1)) (gp, xl) = false) := by show _ = _; rw [HTJ.out]; simp [e3]
                        have e3' : (gl == xl) = false := beq_eq_false_iff_ne.2 e3
                        go_wp2_with fail
                        go_quiet (fail)
                        have HBn : Hid (Below w.heap.size w (wr.drewN nq)) := HBq.out.trans ((below_of_grown (grown_drewN wr nq)).mono HBq.out.size)
                        clear y0 y1 z0 z1 c3q e2
                        go_wp2_with fail
                        go_roundw
                        case rel => exact ⟨j + 1, hjl, by go_num, by rw [HT2.out], HBn.out⟩
                        case measure => simp [intOf]; omega
                    · have HT2 : Hid (inHd (l.take (j + 1)) (xp, xl) = false) := by show _ = _; rw [HTJ.out, Bool.false_or]; exact decide_eq_false (fun e => e1 (by rw [(Prod.mk.inj e).1]))
                      have e1' : ((gp : Int) == (xp : Int)) = false := beq_eq_false_iff_ne.2 e1
                      go_wp2_with fail
                      go_quiet (fail)
                      have HBn : Hid (Below w.heap.size w (wr.drewN nq)) := HBq.out.trans ((below_of_grown (grown_drewN wr nq)).mono HBq.out.size)
                      clear y0 y1 z0 z1 c3q e2
                      go_wp2_with fail
                      go_roundw
                      case rel => exact ⟨j + 1, hjl, by go_num, by rw [HT2.out], HBn.out⟩
                      case measure => simp [intOf]; omega
                · have hge : (l.length : Int) ≤ (j : Int) := by omega
                  rw [List.take_of_length_le (show l.length ≤ j by omega)]
                  obtain ⟨tb, htb⟩ : ∃ tb, inHd l (xp, xl) = tb := ⟨_, rfl⟩
                  have HTB := hideN htb
                  rw [htb]
                  clear htb
                  cases tb with
                  | true =>
                    have HIN2 := hideN (HNX.out HTB.out)
                    go_wp2_with fail
                    go_roundw
                    case rel => exact ⟨p + 1, HPL.out, by go_num, HIN2.out, HBq.out⟩
                    case measure => simp [intOf]; omega
                  | false =>
                    have HR := hideN (HBAD.out HTB.out)
                    go_wp2_with fail
                    go_ret
                    exact ⟨by rw [HR.out]; rfl, HBq.out⟩
            · have hge : (ri.length : Int) ≤ (p : Int) := by omega
              have HR : Hid (RES = 0) := by
                show _ = _
                rw [HRE.out, if_pos]
                refine List.all_eq_true.2 (fun x hx => ?_)
                obtain ⟨i, hi, rfl⟩ := List.getElem_of_mem hx
                exact HIN.out i hi (by omega)
              go_wp2_with fail
              go_ret
              exact ⟨by rw [HR.out]; rfl, HBr.out⟩
      · have HR : Hid (RES = 8) := by show _ = _; rw [HFE2.out, HNBB.out, decide_eq_false hlt]; rfl
        rcases List.le_iff_lt_or_eq.1 (List.not_lt.1 hlt) with hl2 | heq
        · have hbl : Op.bytesLess NM.toList PN.toList = true := by
            rw [Go.Proofs.bytesLess_eq, ByteArray.toList_eq, ByteArray.toList_eq]
            exact decide_eq_true hl2
          clear hl2 hlt
          go_wp2_with fail
          go_quiet (fail)
          go_wp2_with fail
          go_ret
          exact ⟨by rw [HR.out]; rfl, HB1.out.trans ((below_of_grown (grown_drewN w1 nq)).mono HB1.out.size)⟩
        · have hbe : (NM.toList == PN.toList) = true := by
            rw [ByteArray.toList_eq, ByteArray.toList_eq, beq_iff_eq]
            exact heq
          have hbl : Op.bytesLess NM.toList PN.toList = false := by
            rw [Go.Proofs.bytesLess_eq, ByteArray.toList_eq, ByteArray.toList_eq, heq]
            exact decide_eq_false (List.lt_irrefl _)
          clear heq hlt
          go_wp2_with fail
          go_quiet (fail)
          go_wp2_with fail
          go_ret
          exact ⟨by rw [HR.out]; rfl, HB1.out.trans ((below_of_grown (grown_drewN w1 nq)).mono HB1.out.size)⟩
    · have h0' : ¬ (0 : Int) < (k : Int) := by omega
      have HNG := hideN (HN0.out (by omega))
      clear c0 c1 c2 c3
      obtain ⟨d0, d1, d2, d3, hid⟩ := HC.out w1 HB1.out
      have HID := hideN hid
      clear hid
      go_wp2_with fail
      refine (refRepOf_any NM rl rp (.slice pv ri.length cv) ri w1 HID.out HML.out.1).mono ?_
      rintro e wd ⟨rfl, hbd⟩
      have HBd : Hid (Below w.heap.size w wd) := HB1.out.trans (hbd.mono HB1.out.size)
      clear hbd d0 d1 d2 d3 HID
      have HFB := hideN (findBin_any (.slice pb bs.length cb) bs (repOf ri) wd (by omega) (HBS.out.below HBd.out))
      go_wp2_with fail
      cases hkf : kFind bs (repOf ri) with
      | none =>
        have hz : kFindI bs (repOf ri) = -1 := by unfold kFindI; rw [hkf]
        have HR : Hid (RES = 5) := by
          show _ = _
          rw [HREST.out HNG.out, nBin_kFind, hkf]
          rfl
        rw [hz] at HFB
        refine HFB.out.mono ?_
        rintro e we ⟨rfl, hbe⟩
        have HBe : Hid (Below w.heap.size w we) := HBd.out.trans (hbe.mono HBd.out.size)
        clear hbe hz
        go_wp2_with fail
        go_ret
        exact ⟨by rw [HR.out]; rfl, HBe.out⟩
      | some q =>
        obtain ⟨hq, hnb⟩ := kFind_bin_at hkf
        have hz : kFindI bs (repOf ri) = (q : Int) := by unfold kFindI; rw [hkf]
        rw [hz] at HFB
        have hre := HREST.out HNG.out
        rw [hnb] at hre
        simp only at hre
        obtain ⟨_, _, hve, hbcell⟩ := HBS.out
        obtain ⟨rfl, rfl⟩ : pb = _ ∧ cb = _ := by simpa using hve
        obtain ⟨b3, o3, vl, rfl, hL⟩ := hbcell q hq
        have HLB : Hid (∀ W, Below w.heap.size w W → LoadAt W b3 (o3 + q * 3) vl bs[q]) := fun W hb => hL.below hb
        have hql := HBL.out bs[q] (List.getElem_mem hq)
        have hq' : (q : Int) < (bs.length : Int) := by omega
        have hq0 : (0 : Int) ≤ (q : Int) := by omega
        obtain ⟨ph, ch, hvl, _⟩ := hL.helds
        obtain ⟨⟨⟨bp, bl⟩, l⟩, hx⟩ : ∃ x, bs[q] = x := ⟨_, rfl⟩
        rw [hx] at hre HLB hql hvl
        simp only at hre hql hvl
        subst hvl
        have HRE := hideN hre
        have hql' : (l.length : Int) ≤ 1000 := by omega
        have hri' : (ri.length : Int) ≤ 1000 := by have := HLEN.out; omega
        clear hve hbcell hL hx hre hz hnb
        refine HFB.out.mono ?_
        rintro e we ⟨rfl, hbe⟩
        have HBe : Hid (Below w.heap.size w we) := HBd.out.trans (hbe.mono HBd.out.size)
        clear hbe
        go_wp2_with fail
        go_loopw [9] (fun iv wr => ∃ p : Nat, p ≤ ri.length ∧ iv = .int .i64 p ∧ Hid (∀ i (h : i < ri.length), i < p → inHd l (ri[i]'h) = true) ∧ Hid (Below w.heap.size w wr)) (fun iv _ => ri.length - (intOf iv).toNat)
        case atStart => exact ⟨0, Nat.zero_le _, rfl, fun i _ h => by omega, HBe.out⟩
        case round =>
          clear HBe
          obtain ⟨p, hp, rfl, HIN, HBr⟩ := hrel
          obtain ⟨_, _, _, c3r, hidr⟩ := HC.out wr HBr.out
          by_cases hpl : p < ri.length
          · have hpl' : (p : Int) < (ri.length : Int) := by omega
            have hp0 : (0 : Int) ≤ (p : Int) := by omega
            have HPL : Hid (p < ri.length) := hpl
            have HNX : Hid (inHd l (ri[p]'hpl) = true → ∀ i (h : i < ri.length), i < p + 1 → inHd l (ri[i]'h) = true) := fun hin i h hi => by
              rcases Nat.lt_or_ge i p with h' | h'
              · exact HIN.out i h h'
              · obtain rfl : i = p := by omega
                exact hin
            have HBAD : Hid (inHd l (ri[p]'hpl) = false → RES = 5) := fun hout => by
              rw [HRE.out, if_neg]
              intro hall
              have := List.all_eq_true.1 hall _ (List.getElem_mem hpl)
              rw [hout] at this
              cases this
            obtain ⟨⟨xp, xl⟩, hxx⟩ : ∃ x, ri[p]'hpl = x := ⟨_, rfl⟩
            have HXX : Hid (ri[p]'hpl = (xp, xl)) := hxx
            rw [hxx] at HNX HBAD
            clear hxx hidr
            go_wp2_with fail
            clear c3r
            obtain ⟨wo, hwo⟩ : ∃ wo, wo = wr := ⟨_, rfl⟩
            subst hwo
            go_loopw [10, 11] (fun tv iv wq => ∃ j : Nat, j ≤ l.length ∧ iv = .int .i64 j ∧ tv = .bool (inHd (l.take j) (xp, xl)) ∧ Hid (Below w.heap.size w wq)) (fun _ iv _ => l.length - (intOf iv).toNat)
            case atStart => exact ⟨0, Nat.zero_le _, rfl, rfl, HBr.out⟩
            case round =>
              obtain ⟨j, hj, rfl, rfl, HBq⟩ := hrel
              have hLq := HLB.out wr HBq.out
              have e2 := hLq.c2
              try simp only at e2
              by_cases hjl : j < l.length
              · have hjl' : (j : Int) < (l.length : Int) := by omega
                have hj0 : (0 : Int) ≤ (j : Int) := by omega
                have HTJ : Hid (inHd (l.take (j + 1)) (xp, xl) = (inHd (l.take j) (xp, xl) || decide ((l[j]'hjl).1 = (xp, xl)))) := by
                  show _ = _
                  rw [List.take_succ_eq_append_getElem hjl, inHd_snoc]
                obtain ⟨_, _, hve, hhc⟩ := hLq.helds
                obtain ⟨rfl, rfl⟩ : ph = _ ∧ ch = _ := by simpa using hve
                obtain ⟨b4, o4, rfl, _, y0, y1, _, _⟩ := hhc j hjl
                obtain ⟨_, _, _, c3q, hidq⟩ := HC.out wr HBq.out
                obtain ⟨_, _, hve2, hic⟩ := hidq
                obtain ⟨rfl, rfl⟩ : pv = _ ∧ cv = _ := by simpa using hve2
                obtain ⟨b5, o5, rfl, _, z0, z1⟩ := hic p HPL.out
                rw [HXX.out] at z0 z1
                try simp only at z0 z1
                obtain ⟨⟨⟨gp, gl⟩, gu, gt⟩, hg⟩ : ∃ g, l[j]'hjl = g := ⟨_, rfl⟩
                rw [hg] at y0 y1 HTJ
                try simp only at y0 y1 HTJ
                obtain ⟨tb, htb⟩ : ∃ tb, inHd (l.take j) (xp, xl) = tb := ⟨_, rfl⟩
                rw [htb] at HTJ ⊢
                clear htb hg hve hhc hve2 hic hLq
                cases tb with
                | true =>
                  have HT2 : Hid (inHd (l.take (j + 1)) (xp, xl) = true) := by show _ = _; rw [HTJ.out]; rfl
                  go_wp2_with fail
                  go_quiet (fail)
                  have HBn : Hid (Below w.heap.size w (wr.drewN nq)) := HBq.out.trans ((below_of_grown (grown_drewN wr nq)).mono HBq.out.size)
                  clear y0 y1 z0 z1 c3q e2
                  go_wp2_with fail
                  go_roundw
                  case rel => exact ⟨j + 1, hjl, by go_num, by rw [HT2.out], HBn.out⟩
                  case measure => simp [intOf]; omega
                | false =>
                  by_cases e1 : (gp : Int) = (xp : Int)
                  · by_cases e3 : gl = xl
                    · subst e3
                      obtain rfl : gp = xp := by omega
                      have HT2 : Hid (inHd (l.take (j + 1)) (gp, gl) = true) := by show _ = _; rw [HTJ.out]; simp
                      go_wp2_with fail
                      go_quiet (fail)
                      have HBn : Hid (Below w.heap.size w (wr.drewN nq)) := HBq.out.trans ((below_of_grown (grown_drewN wr nq)).mono HBq.out.size)
                      clear y0 y1 z0 z1 c3q e2
                      go_wp2_with fail
                      go_roundw
                      case rel => exact ⟨j + 1, hjl, by go_num, by rw [HT2.out], HBn.out⟩
                      case measure => simp [intOf]; omega
                    · obtain rfl : gp = xp := by omega
                      have HT2 : Hid (inHd (l.take (j + 1)) (gp, xl) = false) := by show _ = _; rw [HTJ.out]; simp [e3]
                      have e3' : (gl == xl) = false := beq_eq_false_iff_ne.2 e3
                      go_wp2_with fail
                      go_quiet (fail)
                      have HBn : Hid (Below w.heap.size w (wr.drewN nq)) := HBq.out.trans ((below_of_grown (grown_drewN wr nq)).mono HBq.out.size)
                      clear y0 y1 z0 z1 c3q e2
                      go_wp2_with fail
                      go_roundw
                      case rel => exact ⟨j + 1, hjl, by go_num, by rw [HT2.out], HBn.out⟩
                      case measure => simp [intOf]; omega
                  · have HT2 : Hid (inHd (l.take (j + 1)) (xp, xl) = false) := by show _ = _; rw [HTJ.out, Bool.false_or]; exact decide_eq_false (fun e => e1 (by rw [(Prod.mk.inj e).1]))
                    have e1' : ((gp : Int) == (xp : Int)) = false := beq_eq_false_iff_ne.2 e1
                    go_wp2_with fail
                    go_quiet (fail)
                    have HBn : Hid (Below w.heap.size w (wr.drewN nq)) := HBq.out.trans ((below_of_grown (grown_drewN wr nq)).mono HBq.out.size)
                    clear y0 y1 z0 z1 c3q e2
                    go_wp2_with fail
                    go_roundw
                    case rel => exact ⟨j + 1, hjl, by go_num, by rw [HT2.out], HBn.out⟩
                    case measure => simp [intOf]; omega
              · have hge : (l.length : Int) ≤ (j : Int) := by omega
                rw [List.take_of_length_le (show l.length ≤ j by omega)]
                obtain ⟨tb, htb⟩ : ∃ tb, inHd l (xp, xl) = tb := ⟨_, rfl⟩
                have HTB := hideN htb
                rw [htb]
                clear htb
                cases tb with
                | true =>
                  have HIN2 := hideN (HNX.out HTB.out)
                  go_wp2_with fail
                  go_roundw
                  case rel => exact ⟨p + 1, HPL.out, by go_num, HIN2.out, HBq.out⟩
                  case measure => simp [intOf]; omega
                | false =>
                  have HR := hideN (HBAD.out HTB.out)
                  go_wp2_with fail
                  go_ret
                  exact ⟨by rw [HR.out]; rfl, HBq.out⟩
          · have hge : (ri.length : Int) ≤ (p : Int) := by omega
            have HR : Hid (RES = 0) := by
              show _ = _
              rw [HRE.out, if_pos]
              refine List.all_eq_true.2 (fun x hx => ?_)
              obtain ⟨i, hi, rfl⟩ := List.getElem_of_mem hx
              exact HIN.out i hi (by omega)
            go_wp2_with fail
            go_ret
            exact ⟨by rw [HR.out]; rfl, HBr.out⟩
  · have hne : fc ≠ 0 := by omega
    have HR : Hid (RES = fc) := by show _ = _; rw [HFE.out, if_pos hne]
    go_wp2_with fail
    go_ret
    exact ⟨by rw [HR.out]; rfl, HB1.out⟩
end Go.Proofs.YtcbcjefefmbccabGreatDoor
