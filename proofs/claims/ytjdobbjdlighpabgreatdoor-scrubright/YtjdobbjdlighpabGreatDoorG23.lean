/-
  Own text. scrub.Check by a contract, at files and bins that are right but for uses of pieces: no error, or ErrUsed at the first bin with another number of uses.
  Own text. OwnRecipe by a contract: the same recipe, its IDs in new memory.
  Own text. slices.Clone of IDs by a contract.
  Own text. A node in memory behind a file that was put: what lay stays, the file and its bin are new.
-/
import Derived.Test.YtjdobbjdlighpabGreatDoorG11
import Derived.Test.YtjdobbjdlighpabGreatDoorG21
import Derived.Test.YtjdobbjdlighpabGreatDoorG22
import Derived.Test.YtjdobbjdlighpabGreatDoorG10
import Derived.Test.YtjdobbjdlighpabGreatDoorG03
import Derived.Deep.QuietTactic
namespace Go.Proofs.YtjdobbjdlighpabGreatDoor
open Go.RowKit Go.Maps

def cF (f : Nat × Int → Option Int) : List Rcp → Nat × Int → Option Int
  | [] => f
  | r :: l => cF (bump f (rcpRep r)) l
def cU (f : Use → Option Int) : List Rcp → Use → Option Int
  | [] => f
  | r :: l => cU (bumpAll f (rcpRep r) r.2.2.2) l
theorem cF_snoc (r : Rcp) : ∀ (l : List Rcp) (f : Nat × Int → Option Int), cF f (l ++ [r]) = bump (cF f l) (rcpRep r)
  | [], _ => rfl
  | x :: l, f => cF_snoc r l (bump f (rcpRep x))
theorem cU_snoc (r : Rcp) : ∀ (l : List Rcp) (f : Use → Option Int), cU f (l ++ [r]) = bumpAll (cU f l) (rcpRep r) r.2.2.2
  | [], _ => rfl
  | x :: l, f => cU_snoc r l (bumpAll f (rcpRep x) x.2.2.2)
theorem cF_some : ∀ (l : List Rcp) (f : Nat × Int → Option Int) (y : Nat × Int), (cF f l y).isSome = (f y).isSome
  | [], _, _ => rfl
  | x :: l, f, y => by rw [cF, cF_some l, bump_some]
theorem cU_some : ∀ (l : List Rcp) (f : Use → Option Int) (y : Use), (cU f l y).isSome = (f y).isSome
  | [], _, _ => rfl
  | x :: l, f, y => by rw [cU, cU_some l, bumpAll_some]
theorem cF_le : ∀ (l : List Rcp) {f : Nat × Int → Option Int} {B : Int}, (∀ y c, f y = some c → 0 ≤ c ∧ c ≤ B) → ∀ y c, cF f l y = some c → 0 ≤ c ∧ c ≤ B + l.length
  | [], f, B, h, y, c, hy => by
    have := h y c hy
    simp only [List.length_nil]
    omega
  | x :: l, f, B, h, y, c, hy => by
    have := cF_le l (bump_le (x := rcpRep x) h) y c hy
    simp only [List.length_cons]
    omega
theorem cU_le : ∀ (l : List Rcp) {f : Use → Option Int} {B : Int}, (∀ r ∈ l, r.2.2.2.length ≤ 250) → (∀ y c, f y = some c → 0 ≤ c ∧ c ≤ B) → ∀ y c, cU f l y = some c → 0 ≤ c ∧ c ≤ B + 250 * l.length
  | [], f, B, _, h, y, c, hy => by
    have := h y c hy
    simp only [List.length_nil]
    omega
  | x :: l, f, B, hl, h, y, c, hy => by
    have h1 := cU_le l (fun r hr => hl r (List.mem_cons_of_mem _ hr)) (bumpAll_le (rcpRep x) x.2.2.2 h) y c hy
    have h2 := hl x (List.mem_cons_self ..)
    simp only [List.length_cons]
    omega
theorem addErr_static {F F' : Nat × Int → Option Int} {U U' : Use → Option Int} (hF : ∀ y, (F' y).isSome = (F y).isSome) (hU : ∀ y, (U' y).isSome = (U y).isSome) (r : Rcp) : addErr F' U' r = addErr F U r := by
  unfold addErr
  rw [hF]
  simp only [hU]
theorem zeroF_le (bs : List NBin) : ∀ y c, zeroF bs y = some c → 0 ≤ c ∧ c ≤ 0 := fun y c h => by
  unfold zeroF at h
  split at h
  · cases h; omega
  · cases h
theorem zeroU_le (bs : List NBin) : ∀ y c, zeroU bs y = some c → 0 ≤ c ∧ c ≤ 0 := fun y c h => by
  unfold zeroU at h
  split at h
  · cases h
  · split at h
    · cases h; omega
    · cases h
structure FilesIn (fs : List Rcp) : Prop where
  fmany : fs.length ≤ 30
  good : ∀ r ∈ fs, recFault r.1 r.2.1 r.2.2.2 = (0, -1)
  flen : ∀ r ∈ fs, r.2.2.2.length ≤ 250
  forder : ∀ i (h : i < fs.length) (h0 : 0 < i), (fs[i - 1]'(by omega)).1 < fs[i].1
  fname : ∀ r ∈ fs, r.1.length ≤ 50000
  fwf : ∀ r ∈ fs, (∀ i ∈ r.2.2.2, WfID i) ∧ WfID (rcpRep r)
structure RightIn (fs : List Rcp) (bs : List NBin) : Prop extends FilesIn fs where
  fadd : ∀ r ∈ fs, addErr (zeroF bs) (zeroU bs) r = 0
  bmany : bs.length ≤ 100
  blen : ∀ b ∈ bs, b.2.length ≤ 1000
  bwf : ∀ b ∈ bs, WfID b.1 ∧ ∀ h ∈ b.2, WfID h.1
  border : ∀ i (h : i < bs.length) (h0 : 0 < i), lessB (bs[i - 1]'(by omega)).1 bs[i].1 = true
  bpos : ∀ b ∈ bs, (cF (zeroF bs) fs b.1).getD 0 ≠ 0
  bids : ∀ b ∈ bs, ∀ h ∈ b.2, h.1 = idOfL h.2.2 ∧ h.2.2.length ≤ 1000
  brise : ∀ b ∈ bs, Rise b.2
/- What stands while files are counted. -/
structure CkI (w0 : World) (bs : List NBin) (fs : List Rcp) (vf vb : Value) (CB FX BX mf mu : Nat) (k : Nat) (W : World) : Prop where
  below : Below w0.heap.size w0 W
  cb : Blk W CB #[.map (some mf), .map (some mu)] 119
  fx : Blk W FX #[vf] 31
  bx : Blk W BX #[vb] 54
  f : idInts.Fn W mf (100 + k) (cF (zeroF bs) (fs.take k))
  u : useInts.Fn W mu (100000 + 250 * k) (cU (zeroU bs) (fs.take k))
  new : w0.heap.size ≤ mf ∧ w0.heap.size ≤ mu ∧ mf ≠ mu
  apart : (CB ≠ mf ∧ CB ≠ mu) ∧ (FX ≠ mf ∧ FX ≠ mu) ∧ (BX ≠ mf ∧ BX ≠ mu)
theorem CkI.next {w0 : World} {bs : List NBin} {fs : List Rcp} {vf vb : Value} {CB FX BX mf mu k : Nat} {W W' : World} (h : CkI w0 bs fs vf vb CB FX BX mf mu k W) (hb : Below W.heap.size W W') : CkI w0 bs fs vf vb CB FX BX mf mu k W' :=
  ⟨h.below.trans (hb.mono h.below.size), h.cb.next hb, h.fx.next hb, h.bx.next hb, h.f.below hb, h.u.below hb, h.new, h.apart⟩
set_option maxRecDepth 100000 in
set_option maxHeartbeats 4000000 in
theorem check1_add (a : Nat → Addr) (vf vb : Value) (fs : List Rcp) (bs : List NBin) (w0 W : World) (CB FX BX mf mu k : Nat) (hk : k < fs.length) (hR : FilesIn fs) (hv : RcpsAt w0 vf fs) (hE : ErrE [1, 2, 3, 4, 6, 8] w0 a) (hI : CkI w0 bs fs vf vb CB FX BX mf mu k W) :
    Calls Tryz.prog 61 (#[.int .i64 k] ++ #[.pointer (some ⟨CB, 0, none⟩), .pointer (some ⟨FX, 0, none⟩)]) W fun e w' => ∃ ev, e = .returned ev ∧ SentOr a ev (addErr (zeroF bs) (zeroU bs) fs[k]) ∧ W.heap.size ≤ w'.heap.size ∧ (addErr (zeroF bs) (zeroU bs) fs[k] = 0 → CkI w0 bs fs vf vb CB FX BX mf mu (k + 1) w') ∧ Below w0.heap.size w0 w' := by
  have hfm := hR.fmany
  have hlen := hR.flen fs[k] (List.getElem_mem hk)
  have HCF := hideN (checkFile_add a vf fs k w0 W hk mf mu (100 + k) (100000 + 250 * k) (cF (zeroF bs) (fs.take k)) (cU (zeroU bs) (fs.take k)) (250 * k) hv hI.below ⟨hI.new.1, hI.new.2.1⟩ hfm (hR.good _ (List.getElem_mem hk)) (fun h => hR.forder k hk h) hR.fname (hR.fwf _ (List.getElem_mem hk)).1 (hR.fwf _ (List.getElem_mem hk)).2 hE hI.new.2.2 (by omega) (by omega) ⟨by omega, by omega⟩
    (fun y c hy => by have := cF_le (fs.take k) (zeroF_le bs) y c hy; rw [List.length_take] at this; omega)
    (fun y c hy => by have := cU_le (fs.take k) (fun r hr => hR.flen r (List.mem_of_mem_take hr)) (zeroU_le bs) y c hy; rw [List.length_take] at this; omega)
    hI.f hI.u)
  unfold AddPost at HCF
  rw [addErr_static (fun y => cF_some _ _ y) (fun y => cU_some _ _ y)] at HCF
  obtain ⟨AE, hAE⟩ : ∃ AE, addErr (zeroF bs) (zeroU bs) fs[k] = AE := ⟨_, rfl⟩
  rw [hAE] at HCF ⊢
  clear hAE
  have HI := hideN hI
  have HTK := hideN (List.take_succ_eq_append_getElem hk)
  have HLEN := hideN hlen
  have c0 := hI.cb.cell (i := 0) rfl
  have c1 := hI.cb.cell (i := 1) rfl
  have f0 := hI.fx.cell (i := 0) rfl
  obtain ⟨pa, ca, rfl, _⟩ := hv
  clear hI hR hE hlen
  simp only [List.append_toArray, List.cons_append, List.nil_append]
  go_enter Tryz.func61, Tryz.ntmps61
  go_wp2_with fail
  refine HCF.out.mono ?_
  rintro e w2 ⟨ev, rfl, hev, ho, hfu⟩
  have HEV := hideN hev
  have HBW : Hid (Below w0.heap.size w0 w2) := HI.out.below.trans (ho.below HI.out.below.size (fun j hj e => by have := HI.out.new; rcases e with e | e <;> omega))
  have HSZ := hideN ho.size
  have HN : Hid (AE = 0 → CkI w0 bs fs (.slice pa fs.length ca) vb CB FX BX mf mu (k + 1) w2) := fun h0 => by
    have h := HI.out
    obtain ⟨hf, hu⟩ := hfu h0
    refine ⟨h.below.trans (ho.below h.below.size (fun j hj e => by have := h.new; rcases e with e | e <;> omega)), ho.blk h.cb (by rintro (e | e); exact h.apart.1.1 e; exact h.apart.1.2 e), ho.blk h.fx (by rintro (e | e); exact h.apart.2.1.1 e; exact h.apart.2.1.2 e), ho.blk h.bx (by rintro (e | e); exact h.apart.2.2.1 e; exact h.apart.2.2.2 e), ?_, ?_, h.new, h.apart⟩
    · rw [HTK.out, cF_snoc]
      exact hf
    · rw [HTK.out, cU_snoc]
      exact hu.mono (by have := HLEN.out; omega)
  clear hev hfu ho HCF
  go_wp2_with fail
  go_ret
  exact ⟨_, rfl, HEV.out, HSZ.out, HN.out, HBW.out⟩
set_option maxRecDepth 100000 in
set_option maxHeartbeats 4000000 in
theorem check2_any (a : Nat → Addr) (vf vb : Value) (fs : List Rcp) (bs : List NBin) (w0 W : World) (CB FX BX mf mu k : Nat) (hk : k < bs.length) (hR : RightIn fs bs) (hv : LoadsAt w0 vb bs) (hE : ErrE [10] w0 a) (hI : CkI w0 bs fs vf vb CB FX BX mf mu fs.length W) :
    Calls Tryz.prog 63 (#[.int .i64 k] ++ #[.pointer (some ⟨CB, 0, none⟩), .pointer (some ⟨BX, 0, none⟩)]) W fun e w' => ∃ ev, e = .returned ev ∧ ((usesErr (cU (zeroU bs) fs) bs[k] = 0 ∧ ev = .nilIface) ∨ (usesErr (cU (zeroU bs) fs) bs[k] = 11 ∧ ev = sentV a 10)) ∧ W.heap.size ≤ w'.heap.size ∧ CkI w0 bs fs vf vb CB FX BX mf mu fs.length w' := by
  have hI0 := hI
  have hff := hI.f
  have huu := hI.u
  rw [List.take_length] at hff huu
  have HCB := hideN (checkBin_any a vb bs k W hk mf mu _ _ _ _ (hv.below hI.below) hR.bmany hR.blen hR.bwf (fun h => hR.border k hk h) (hR.bpos _ (List.getElem_mem hk)) (hR.bids _ (List.getElem_mem hk)) (hR.brise _ (List.getElem_mem hk)) (hE.below hI.below (Nat.le_refl _)) hff huu)
  have HI := hideN hI
  have c0 := hI.cb.cell (i := 0) rfl
  have c1 := hI.cb.cell (i := 1) rfl
  have f0 := hI.bx.cell (i := 0) rfl
  obtain ⟨pa, ca, rfl, _⟩ := hv
  obtain ⟨UE, hUE⟩ : ∃ UE, usesErr (cU (zeroU bs) fs) bs[k] = UE := ⟨_, rfl⟩
  rw [hUE] at HCB ⊢
  unfold BinsPost at HCB
  clear hI hI0 hR hE hff huu hUE
  simp only [List.append_toArray, List.cons_append, List.nil_append]
  go_enter Tryz.func63, Tryz.ntmps63
  go_wp2_with fail
  refine HCB.out.mono ?_
  rintro e w2 ⟨ev, rfl, hev, hb⟩
  have HEV := hideN hev
  have HN := hideN (HI.out.next hb)
  have HS := hideN hb.size
  clear hev hb HCB
  go_wp2_with fail
  go_ret
  exact ⟨_, rfl, HEV.out, HS.out, HN.out⟩
def binErrs (fs : List Rcp) (bs : List NBin) (k : Nat) : Int := if h : k < bs.length then usesErr (cU (zeroU bs) fs) bs[k] else 0
theorem firstErr_zero : ∀ (n k : Nat), firstErr (fun _ => 0) k n = none
  | 0, _ => rfl
  | n + 1, k => by
    rw [firstErr, if_neg (by simp)]
    exact firstErr_zero n (k + 1)
theorem firstErr_some {err : Nat → Int} : ∀ {n k : Nat} {j : Nat}, firstErr err k n = some j → err j ≠ 0
  | 0, _, _, h => by cases h
  | n + 1, k, j, h => by
    rw [firstErr] at h
    split at h
    · rename_i hk
      obtain rfl := Option.some.inj h
      exact hk
    · exact firstErr_some h
def checkAns (fe be : Nat → Int) (nf nb : Nat) : Int × Int := match firstErr fe 0 nf with | none => firstAns be nb | some _ => firstAns fe nf
set_option maxRecDepth 100000 in
set_option maxHeartbeats 8000000 in
theorem scrubCheck_gen (a : Nat → Addr) (vf vb : Value) (fs : List Rcp) (bs : List NBin) (w : World) (fe be : Nat → Int) (hfm' : fs.length ≤ 30) (hbm' : bs.length ≤ 100) (hbl : ∀ b ∈ bs, b.2.length ≤ 1000) (hbw : ∀ b ∈ bs, WfID b.1 ∧ ∀ h ∈ b.2, WfID h.1) (hf : RcpsAt w vf fs) (hb : LoadsAt w vb bs)
    (h1 : ∀ CB FX BX mf mu k W, k < fs.length → CkI w bs fs vf vb CB FX BX mf mu k W → Calls Tryz.prog 61 (#[.int .i64 k] ++ #[.pointer (some ⟨CB, 0, none⟩), .pointer (some ⟨FX, 0, none⟩)]) W fun e w' => ∃ ev, e = .returned ev ∧ SentOr a ev (fe k) ∧ W.heap.size ≤ w'.heap.size ∧ (fe k = 0 → CkI w bs fs vf vb CB FX BX mf mu (k + 1) w') ∧ Below w.heap.size w w')
    (h2 : firstErr fe 0 fs.length = none → ∀ CB FX BX mf mu k W, k < bs.length → CkI w bs fs vf vb CB FX BX mf mu fs.length W → Calls Tryz.prog 63 (#[.int .i64 k] ++ #[.pointer (some ⟨CB, 0, none⟩), .pointer (some ⟨BX, 0, none⟩)]) W fun e w' => ∃ ev, e = .returned ev ∧ SentOr a ev (be k) ∧ W.heap.size ≤ w'.heap.size ∧ CkI w bs fs vf vb CB FX BX mf mu fs.length w') :
    Calls Tryz.prog 24 #[vf, vb] w fun e w' => ∃ ev, e = .returned ev ∧ ErrIn w.heap.size w' a ev (checkAns fe be fs.length bs.length) ∧ Below w.heap.size w w' := by
  have HBS := hideN hb
  have H1 := hideN h1
  have H2 := hideN h2
  have HBW := hideN hbw
  have HBN := hideN hbl
  have hfm : (fs.length : Int) ≤ 30 := by omega
  have hbm : (bs.length : Int) ≤ 100 := by omega
  obtain ⟨pf, cf, hvf, _⟩ := hf
  obtain ⟨pb, cb, hvb, _⟩ := hb
  subst hvf hvb
  clear h1 h2 hbw hbl
  have hal1 := (Below.refl w.heap.size w).alloc (Nat.le_refl _) (.cells #[.slice pf fs.length cf] 31)
  have hb1 := Blk.new w #[.slice pf fs.length cf] 31
  obtain ⟨W1, hW1⟩ : ∃ W1, w.alloc (.cells #[.slice pf fs.length cf] 31) = W1 := ⟨_, rfl⟩
  rw [hW1] at hal1 hb1
  have hs1 : W1.heap.size = w.heap.size + 1 := by rw [← hW1]; simp
  have hal2 := (Below.refl W1.heap.size W1).alloc (Nat.le_refl _) (.cells #[.slice pb bs.length cb] 54)
  have hb2 := Blk.new W1 #[.slice pb bs.length cb] 54
  rw [hs1] at hb2
  have HF2 := hideN (hb1.next hal2)
  have HB2 := hideN hb2
  have HBL2 : Hid (Below w.heap.size w _) := hideN (hal1.trans (hal2.mono hal1.size))
  have f0 := HF2.out.cell (i := 0) rfl
  have b0 := HB2.out.cell (i := 0) rfl
  rw [← hW1] at f0 b0
  rw [← hW1] at HF2 HB2 HBL2
  clear hal1 hb1 hs1 hal2 hb2 hW1
  go_enter Tryz.func24, Tryz.ntmps24
  go_wp2_with fail
  generalize ((w.alloc (.cells #[.slice pf fs.length cf] 31)).alloc (.cells #[.slice pb bs.length cb] 54)) = W2 at *
  refine (zeros_any (.slice pb bs.length cb) bs W2 (HBS.out.below HBL2.out) HBW.out hbm' HBN.out).mono ?_
  rintro e w3 ⟨mf, mu, rfl, hF3, hU3, ⟨hn1, hn2, hn3⟩, hb3⟩
  have hal3 := (Below.refl w3.heap.size w3).alloc (Nat.le_refl _) (.cells #[.map (some mf), .map (some mu)] 119)
  have HC4 := hideN (Blk.new w3 #[.map (some mf), .map (some mu)] 119)
  have HB4 : Hid (Below w.heap.size w _) := hideN ((HBL2.out.trans (hb3.mono HBL2.out.size)).trans (hal3.mono (Nat.le_trans HBL2.out.size hb3.size)))
  have HI4 : Hid (CkI w bs fs (.slice pf fs.length cf) (.slice pb bs.length cb) w3.heap.size w.heap.size (w.heap.size + 1) mf mu 0 (w3.alloc (.cells #[.map (some mf), .map (some mu)] 119))) := by
    have h1 := HF2.out.lt
    have h2 := HB2.out.lt
    have h3 := hF3.lt
    have h4 := hU3.lt
    have h5 := HBL2.out.size
    exact ⟨HB4.out, HC4.out, (HF2.out.next hb3).next hal3, (HB2.out.next hb3).next hal3, hF3.below hal3, hU3.below hal3, ⟨by omega, by omega, hn1⟩, ⟨by omega, by omega⟩, ⟨by omega, by omega⟩, by omega, by omega⟩
  have f1 := HI4.out.fx.cell (i := 0) rfl
  have b1 := HI4.out.bx.cell (i := 0) rfl
  clear hF3 hU3 hn1 hn2 hn3 hb3 hal3 HC4 HF2 HB2 HBL2 f0 b0
  go_wp2_with fail
  clear f1 b1
  generalize w3.alloc (.cells #[.map (some mf), .map (some mu)] 119) = W4 at *
  generalize w3.heap.size = CB at *
  refine (first1_any a #[.pointer (some ⟨CB, 0, none⟩), .pointer (some ⟨w.heap.size, 0, none⟩)] fs.length fe (fun W => Below w.heap.size w W) (fun k W => CkI w bs fs (.slice pf fs.length cf) (.slice pb bs.length cb) CB w.heap.size (w.heap.size + 1) mf mu k W) W4 (by omega) HI4.out.below (fun W o h => h.alloc h.size o) (fun k W hk hs hI => (H1.out CB w.heap.size (w.heap.size + 1) mf mu k W hk hI).mono fun e w' ⟨ev, h1, h2, h3, h4, h5⟩ => ⟨ev, h1, h2, Nat.le_trans hs h3, h4, h5⟩) HI4.out).mono ?_
  rintro e w5 ⟨ev5, rfl, he5, hi5, hj5⟩
  cases hfe : firstErr fe 0 fs.length with
  | some k =>
    have hc := firstErr_some hfe
    have hans : checkAns fe be fs.length bs.length = firstAns fe fs.length := by unfold checkAns; rw [hfe]
    have HE5 : Hid (ErrIn w.heap.size w5 a ev5 (checkAns fe be fs.length bs.length)) := by
      rw [hans]
      rcases he5 with h | h | ⟨k1, pb1, po1, at1, h1, h2, h3, h4⟩
      · exact .inl h
      · exact .inr (.inl h)
      · exact .inr (.inr ⟨k1, pb1, po1, at1, h1, Nat.le_trans HI4.out.below.size h2, h3, h4⟩)
    have hne : ev5 ≠ .nilIface := by
      rintro rfl
      unfold firstAns at he5
      rw [hfe] at he5
      rcases he5 with ⟨_, h⟩ | ⟨k1, _, h, _⟩ | ⟨k1, pb1, po1, at1, _, _, h, _⟩
      · exact hc (congrArg Prod.fst h)
      · cases h
      · cases h
    have HJ5 := hideN hj5
    obtain ⟨T5, A5, rfl⟩ : ∃ T5 A5, ev5 = .iface T5 A5 := by
      rcases he5 with ⟨h, _⟩ | ⟨k1, _, h, _⟩ | ⟨k1, pb1, po1, at1, _, _, h, _⟩
      · exact absurd h hne
      · exact ⟨_, _, h⟩
      · exact ⟨_, _, h⟩
    clear he5 hi5 hj5 hne hans hc
    go_wp2_with fail
    go_ret
    exact ⟨_, rfl, HE5.out, HJ5.out⟩
  | none =>
    have hans : firstAns fe fs.length = (0, -1) := by unfold firstAns; rw [hfe]
    rw [hans] at he5
    obtain rfl := he5.nil
    have HI5 := hideN (hi5 hfe)
    have H2' := hideN (H2.out hfe)
    have hans2 : checkAns fe be fs.length bs.length = firstAns be bs.length := by unfold checkAns; rw [hfe]
    have HA2 := hideN hans2
    clear he5 hi5 hj5 hans HI4 HB4 hans2
    have b1 := HI5.out.bx.cell (i := 0) rfl
    have HSZ5 : Hid (w.heap.size ≤ w5.heap.size) := HI5.out.below.size
    go_wp2_with fail
    refine (first2_any a #[.pointer (some ⟨CB, 0, none⟩), .pointer (some ⟨w.heap.size + 1, 0, none⟩)] bs.length be (fun W => Below w.heap.size w W) (fun _ W => CkI w bs fs (.slice pf fs.length cf) (.slice pb bs.length cb) CB w.heap.size (w.heap.size + 1) mf mu fs.length W) w5 (by omega) HI5.out.below (fun W o h => h.alloc h.size o) (fun k W hk hs hI => (H2'.out CB w.heap.size (w.heap.size + 1) mf mu k W hk hI).mono fun e w' ⟨ev, h1, h2, h3, h4⟩ => ⟨ev, h1, h2, Nat.le_trans hs h3, fun _ => h4, h4.below⟩) HI5.out).mono ?_
    rintro e w6 ⟨ev6, rfl, he6, _, hj6⟩
    have HE6 : Hid (ErrIn w.heap.size w6 a ev6 (firstAns be bs.length)) := by
      rcases he6 with h | h | ⟨k1, pb1, po1, at1, h1, h2, h3, h4⟩
      · exact .inl h
      · exact .inr (.inl h)
      · exact .inr (.inr ⟨k1, pb1, po1, at1, h1, Nat.le_trans HSZ5.out h2, h3, h4⟩)
    have HJ6 := hideN hj6
    clear he6 hj6 b1
    go_wp2_with fail
    go_ret
    exact ⟨_, rfl, by rw [HA2.out]; exact HE6.out, HJ6.out⟩
def addErrs (fs : List Rcp) (bs : List NBin) (k : Nat) : Int := if h : k < fs.length then addErr (zeroF bs) (zeroU bs) fs[k] else 0
theorem scrubCheck_any (a : Nat → Addr) (vf vb : Value) (fs : List Rcp) (bs : List NBin) (w : World) (hR : RightIn fs bs) (hf : RcpsAt w vf fs) (hb : LoadsAt w vb bs) (hE : ErrE [1, 2, 3, 4, 6, 8, 10] w a) :
    Calls Tryz.prog 24 #[vf, vb] w fun e w' => ∃ ev, e = .returned ev ∧ ErrIn w.heap.size w' a ev (firstAns (binErrs fs bs) bs.length) ∧ Below w.heap.size w w' := by
  refine (scrubCheck_gen a vf vb fs bs w (fun _ => 0) (binErrs fs bs) hR.fmany hR.bmany hR.blen hR.bwf hf hb (fun CB FX BX mf mu k W hk hI => ?_) (fun _ CB FX BX mf mu k W hk hI => ?_)).mono ?_
  · refine (check1_add a vf vb fs bs w W CB FX BX mf mu k hk hR.toFilesIn hf (hE.sub (by decide)) hI).mono ?_
    rw [hR.fadd _ (List.getElem_mem hk)]
    exact fun e w' h => h
  · refine (check2_any a vf vb fs bs w W CB FX BX mf mu k hk hR hb (hE.sub (by decide)) hI).mono ?_
    rintro e w' ⟨ev, h1, h2, h3, h4⟩
    have hbe : binErrs fs bs k = usesErr (cU (zeroU bs) fs) bs[k] := by unfold binErrs; rw [dif_pos hk]
    refine ⟨ev, h1, ?_, h3, h4⟩
    rw [hbe]
    rcases h2 with ⟨h2, h5⟩ | ⟨h2, h5⟩
    · exact .inl ⟨h2, h5⟩
    · exact .inr ⟨10, by decide, by rw [h2]; rfl, h5⟩
  · rintro e w' ⟨ev, h1, h2, h3⟩
    have hans : checkAns (fun _ => 0) (binErrs fs bs) fs.length bs.length = firstAns (binErrs fs bs) bs.length := by unfold checkAns; rw [firstErr_zero]
    rw [hans] at h2
    exact ⟨ev, h1, h2, h3⟩
/- A file, and no bin at all. -/
theorem scrubCheck_none (a : Nat → Addr) (vf : Value) (r : Rcp) (w : World) (hR : FilesIn [r]) (hf : RcpsAt w vf [r]) (hE : ErrE [1, 2, 3, 4, 6, 8, 10] w a) :
    Calls Tryz.prog 24 #[vf, .slice none 0 0] w fun e w' => ∃ ev, e = .returned ev ∧ ErrIn w.heap.size w' a ev (5, 0) ∧ Below w.heap.size w w' := by
  have h5 : addErr (zeroF []) (zeroU []) r = 5 := addErr_noF rfl
  refine (scrubCheck_gen a vf (.slice none 0 0) [r] [] w (fun _ => 5) (fun _ => 0) hR.fmany (by decide) (fun b hb => by simp at hb) (fun b hb => by simp at hb) hf ⟨none, 0, rfl, fun i hi => by simp at hi⟩ (fun CB FX BX mf mu k W hk hI => ?_) (fun hn => by simp [firstErr] at hn)).mono ?_
  · have hk0 : k = 0 := by simp at hk; exact hk
    subst hk0
    refine (check1_add a vf (.slice none 0 0) [r] [] w W CB FX BX mf mu 0 hk hR hf (hE.sub (by decide)) hI).mono ?_
    rw [show [r][0] = r from rfl, h5]
    exact fun e w' h => h
  · rintro e w' ⟨ev, h1, h2, h3⟩
    exact ⟨ev, h1, h2, h3⟩
end Go.Proofs.YtjdobbjdlighpabGreatDoor
namespace Go.Proofs.YtjdobbjdlighpabGreatDoor
open Go.RowKit

theorem idCells_cells {W : World} {b o : Nat} {ids : List (Nat × Int)} (h : ∀ i (h : i < ids.length), W.cell? ⟨b, o + i * 2, none⟩ = some (.int .u32 (ids[i].1 : Nat)) ∧ W.cell? ⟨b, o + i * 2 + 1, none⟩ = some (.int .i64 ids[i].2)) :
    ∀ j u, (idCells ids)[j]? = some u → W.cell? ((⟨b, o, none⟩ : Addr).add j) = some u := by
  intro j u hj
  have hjl : j < (idCells ids).length := (List.getElem?_eq_some_iff.1 hj).1
  rw [idCells_length] at hjl
  have hi : j / 2 < ids.length := by omega
  have ha : (⟨b, o, none⟩ : Addr).add j = ⟨b, o + j, none⟩ := by unfold Addr.add; split <;> simp_all
  rw [ha]
  have e := idCells_at ids (j / 2) hi
  rcases Nat.mod_two_eq_zero_or_one j with h0 | h0
  · have hj2 : j / 2 * 2 = j := by omega
    rw [hj2] at e
    have h1 := (h (j / 2) hi).1
    rw [hj2] at h1
    rw [h1, ← hj, e.1]
  · have hj2 : j / 2 * 2 + 1 = j := by omega
    rw [hj2] at e
    have h1 := (h (j / 2) hi).2
    rw [Nat.add_assoc, hj2] at h1
    rw [h1, ← hj, e.2]
theorem idCells_one (ids : List (Nat × Int)) : ∀ u ∈ idCells ids, u.oneCell' = true := by
  induction ids with
  | nil => simp [idCells]
  | cons x r ih =>
    intro u hu
    simp only [idCells, List.mem_cons] at hu
    rcases hu with rfl | rfl | hu
    · rfl
    · rfl
    · exact ih u hu

/- A recipe in a box, and an empty one behind it. -/
structure OwnW (w W : World) (nm : ByteArray) (len p : Int) (v : Value) : Prop where
  below : Below w.heap.size w W
  size : w.heap.size + 1 < W.heap.size
  b0 : W.cell? ⟨w.heap.size, 0, none⟩ = some (.string nm)
  b1 : W.cell? ⟨w.heap.size, 1, none⟩ = some (.int .i64 len)
  b2 : W.cell? ⟨w.heap.size, 2, none⟩ = some (.int .u32 p)
  b3 : W.cell? ⟨w.heap.size, 3, none⟩ = some v
  r0 : W.cell? ⟨w.heap.size + 1, 0, none⟩ = some (.string ⟨#[]⟩)
  r1 : W.cell? ⟨w.heap.size + 1, 1, none⟩ = some (.int .i64 0)
  r2 : W.cell? ⟨w.heap.size + 1, 2, none⟩ = some (.int .u32 0)
  r3 : W.cell? ⟨w.heap.size + 1, 3, none⟩ = some (.slice none 0 0)
  g : ∀ i, W.frozen? ⟨w.heap.size, i, none⟩ = false
  f : ∀ i, W.frozen? ⟨w.heap.size + 1, i, none⟩ = false
theorem OwnW.of {w W : World} (nm : ByteArray) (len p : Int) (v : Value) (t : TypeId)
    (hb : Below ((w.alloc (.cells #[.string nm, .int .i64 len, .int .u32 p, v] t)).alloc (.cells #[.string ⟨#[]⟩, .int .i64 0, .int .u32 0, .slice none 0 0] t)).heap.size ((w.alloc (.cells #[.string nm, .int .i64 len, .int .u32 p, v] t)).alloc (.cells #[.string ⟨#[]⟩, .int .i64 0, .int .u32 0, .slice none 0 0] t)) W) : OwnW w W nm len p v := by
  have hs := hb.size
  simp only [World.size_alloc] at hs
  have c : ∀ i u, (#[.string nm, .int .i64 len, .int .u32 p, v] : Array Value)[i]? = some u → W.cell? ⟨w.heap.size, i, none⟩ = some u := fun i u h =>
    (hb.cell (p := ⟨w.heap.size, i, none⟩) (by simp; omega)).trans ((World.cell?_alloc_lt _ _ ⟨w.heap.size, i, none⟩ (by simp)).trans (new_cell w _ _ h rfl))
  have r : ∀ i u, (#[.string ⟨#[]⟩, .int .i64 0, .int .u32 0, .slice none 0 0] : Array Value)[i]? = some u → W.cell? ⟨w.heap.size + 1, i, none⟩ = some u := fun i u h =>
    (hb.cell (p := ⟨w.heap.size + 1, i, none⟩) (by simp)).trans (new_cell _ _ _ h (by simp))
  refine ⟨(((Below.refl _ w).alloc (Nat.le_refl _) _).alloc (by simp) _).trans (hb.mono (by simp; omega)), by omega, c 0 _ rfl, c 1 _ rfl, c 2 _ rfl, c 3 _ rfl, r 0 _ rfl, r 1 _ rfl, r 2 _ rfl, r 3 _ rfl, fun i => ?_, fun i => ?_⟩
  · rw [hb.frozen (p := ⟨w.heap.size, i, none⟩) (by simp; omega), frozen_alloc_lt' _ _ (by simp)]
    exact new_frozen w _ _ rfl
  · rw [hb.frozen (p := ⟨w.heap.size + 1, i, none⟩) (by simp)]
    exact new_frozen _ _ _ (by simp)

set_option maxRecDepth 100000 in
set_option maxHeartbeats 4000000 in
theorem ownRecipe_any (nm : ByteArray) (len : Int) (p : Nat) (v : Value) (ids : List (Nat × Int)) (w : World) (hv : IdsAt w v ids) (hlen : ids.length ≤ 50000) :
    Calls Tryz.prog 20 #[rcpV nm len (p : Nat) v] w fun e w' => ∃ v', e = .returned (rcpV nm len (p : Nat) v') ∧ IdsIn w.heap.size w' v' ids ∧ Below w.heap.size w w' := by
  obtain ⟨i0, hi, hz0, hz1, hz2⟩ := info_parts infoID
  obtain ⟨pa, c, rfl, hcell⟩ := hv
  have HL : Hid (ids.length ≤ 50000) := hlen
  clear hlen
  have hB0 : ∀ oo oo', Below w.heap.size w ((w.alloc oo).alloc oo') := fun oo oo' => ((Below.refl _ w).alloc (Nat.le_refl _) _).alloc (by simp) _
  cases pa with
  | none =>
    have h0 : ids.length = 0 := by
      rcases Nat.eq_zero_or_pos ids.length with h | h
      · exact h
      · obtain ⟨b, o, hp, _⟩ := hcell 0 h
        cases hp
    obtain rfl : ids = [] := List.eq_nil_of_length_eq_zero h0
    clear hcell h0
    go_enter Tryz.func20, Tryz.ntmps20
    go_wp2_with fail
    exact bodyPost_ret (v := rcpV nm len (p : Nat) (.slice none 0 0)) (by simp [results, Tryz.results20, go_sem]) rfl ⟨.slice none 0 0, rfl, IdsIn.nil _ _, hB0 _ _⟩
  | some ad =>
    by_cases hn : ids = []
    · subst hn
      clear hcell
      obtain ⟨b, o, sp⟩ := ad
      go_enter Tryz.func20, Tryz.ntmps20
      go_wp2_with fail
      exact bodyPost_ret (v := rcpV nm len (p : Nat) (.slice none 0 0)) (by simp [results, Tryz.results20, go_sem]) rfl ⟨.slice none 0 0, rfl, IdsIn.nil _ _, hB0 _ _⟩
    · have hn1 : 1 ≤ ids.length := by
        rcases Nat.eq_zero_or_pos ids.length with h | h
        · exact (hn (List.eq_nil_of_length_eq_zero h)).elim
        · exact h
      clear hn
      obtain ⟨b, o, hp, hbl, _⟩ := hcell 0 hn1
      cases hp
      have HC : Hid (∀ W', Below w.heap.size w W' → ∀ j u, (idCells ids)[j]? = some u → W'.cell? ((⟨b, o, none⟩ : Addr).add j) = some u) := fun W' hb => idCells_cells (fun i hi => by
        obtain ⟨b', o', hp, hl, h1, h2⟩ := hcell i hi
        cases hp
        exact ⟨(hb.cell (p := ⟨b, o + i * 2, none⟩) hl).trans h1, (hb.cell (p := ⟨b, o + i * 2 + 1, none⟩) hl).trans h2⟩)
      clear hcell hbl
      obtain ⟨m, hm⟩ : ∃ m, ids.length = m := ⟨_, rfl⟩
      have HM : Hid (ids.length = m) := hm
      have HNL : Hid ((idCells ids).length = m * 2) := by show _ = _; rw [idCells_length, hm]
      have HM5 : Hid (m ≤ 50000) := by show _ ≤ _; rw [← hm]; exact HL.out
      rw [hm] at hn1 ⊢
      clear hm HL
      go_enter Tryz.func20, Tryz.ntmps20
      go_wp2_with (at_builtin; refine wpList_append_own _ rfl (.tmp 4) (.tmp 6) 38 rfl (w.heap.size + 1 + 1) 25 i0 (idV 0 0) 2 16 Tryz.underlying38 hi hz0 hz1 hz2 rfl (by decide) (.slice none 0 0) 0 [] rfl (World.ownsRow_nil _ _ _ _) ⟨b, o, none⟩ m c (idCells ids) rfl HNL.out (HC.out _ (hB0 _ _)) (idCells_one ids) (by have := HM5.out; unfold maxLen; omega) (by have := HM5.out; omega) (by simp) ?_; intro v' w1 hown' hgrow _; rw [Nat.zero_add, List.nil_append] at hown'; have hO := OwnW.of nm len p _ _ (below_of_grown hgrow); obtain ⟨pp, cc, hu, _⟩ := IdsAt.of_row (ids := ids) (by rw [HM.out]; exact hown'); rw [HM.out] at hu; subst hu; clear hgrow; have b0 := hO.b0; have b1 := hO.b1; have b2 := hO.b2; have b3 := hO.b3; have r0 := hO.r0; have r1 := hO.r1; have r2 := hO.r2; have r3 := hO.r3; have g3 := hO.g 3; have f0 := hO.f 0; have f1 := hO.f 1; have f2 := hO.f 2; have f3 := hO.f 3)
      refine bodyPost_ret (v := rcpV nm len (p : Nat) (.slice pp m cc)) (by simp [results, Tryz.results20, go_sem, r0, r1, r2, r3]) rfl ⟨.slice pp m cc, rfl, ?_, ((((hO.below.setCell (p := ⟨w.heap.size, 3, none⟩) (Nat.le_refl _) _).setCell (p := ⟨w.heap.size + 1, 0, none⟩) (by simp) _).setCell (p := ⟨w.heap.size + 1, 1, none⟩) (by simp) _).setCell (p := ⟨w.heap.size + 1, 2, none⟩) (by simp) _).setCell (p := ⟨w.heap.size + 1, 3, none⟩) (by simp) _⟩
      refine (IdsIn.of_row (base := w.heap.size + 1 + 1) (e := 25) ?_).low (by omega)
      rw [HM.out]
      have h0 : w.heap.size < w.heap.size + 1 + 1 := by omega
      have h1 : w.heap.size + 1 < w.heap.size + 1 + 1 := by omega
      exact ownsRow_setCell_below (ownsRow_setCell_below (ownsRow_setCell_below (ownsRow_setCell_below (ownsRow_setCell_below hown' (a := ⟨w.heap.size, 3, none⟩) h0 _) (a := ⟨w.heap.size + 1, 0, none⟩) h1 _) (a := ⟨w.heap.size + 1, 1, none⟩) h1 _) (a := ⟨w.heap.size + 1, 2, none⟩) h1 _) (a := ⟨w.heap.size + 1, 3, none⟩) h1 _
end Go.Proofs.YtjdobbjdlighpabGreatDoor
namespace Go.Proofs.YtjdobbjdlighpabGreatDoor
open Go.RowKit Go.Maps

set_option maxRecDepth 100000 in
set_option maxHeartbeats 4000000 in
theorem cloneIds_any (v : Value) (ids : List (Nat × Int)) (w : World) (hv : IdsAt w v ids) (hlen : ids.length ≤ 50000) :
    Calls Tryz.prog 118 #[v] w fun e w' => ∃ v', e = .returned v' ∧ IdsIn w.heap.size w' v' ids ∧ Below w.heap.size w w' := by
  obtain ⟨i0, hi, hz0, hz1, hz2⟩ := info_parts infoID
  obtain ⟨pa, c, rfl, hcell⟩ := hv
  have HL : Hid (ids.length ≤ 50000) := hlen
  clear hlen
  have q55 : ∀ (w : World) (a : Option Addr) (n c n' c' : Nat), (binOp .eql 38 (.slice a n c) (.slice none n' c')).run Tryz.prog w = .ok (.bool a.isNone) w := fun w a n c n' c' => Lib.run_eql_slice_nil w _ _ a n c n' c' Tryz.underlying38
  cases pa with
  | none =>
    have h0 : ids.length = 0 := by
      rcases Nat.eq_zero_or_pos ids.length with h | h
      · exact h
      · obtain ⟨b, o, hp, _⟩ := hcell 0 h
        cases hp
    obtain rfl : ids = [] := List.eq_nil_of_length_eq_zero h0
    clear hcell h0
    go_enter Tryz.func118, Tryz.ntmps118
    go_wp2_with fail
    go_ret
    exact ⟨_, rfl, IdsIn.nil _ _, Below.refl _ _⟩
  | some ad =>
    have HC : Hid (∀ W', Below w.heap.size w W' → ∀ j u, (idCells ids)[j]? = some u → W'.cell? (ad.add j) = some u) := by
      by_cases hn : ids = []
      · subst hn
        intro W' _ j u hj
        simp [idCells] at hj
      · obtain ⟨b, o, hp, _, _⟩ := hcell 0 (List.length_pos_iff.2 hn)
        cases hp
        exact fun W' hb => idCells_cells (fun i hi => by
          obtain ⟨b', o', hp, hl, h1, h2⟩ := hcell i hi
          cases hp
          exact ⟨(hb.cell (p := ⟨b, o + i * 2, none⟩) hl).trans h1, (hb.cell (p := ⟨b, o + i * 2 + 1, none⟩) hl).trans h2⟩)
    clear hcell
    obtain ⟨m, hm⟩ : ∃ m, ids.length = m := ⟨_, rfl⟩
    have HM : Hid (ids.length = m) := hm
    have HNL : Hid ((idCells ids).length = m * 2) := by show _ = _; rw [idCells_length, hm]
    have HM5 : Hid (m ≤ 50000) := by show _ ≤ _; rw [← hm]; exact HL.out
    rw [hm]
    clear hm HL
    go_enter Tryz.func118, Tryz.ntmps118
    go_wp2_with (at_builtin; refine wpList_append_own _ rfl _ _ 38 rfl w.heap.size 25 i0 (idV 0 0) 2 16 Tryz.underlying38 hi hz0 hz1 hz2 rfl (by decide) _ _ _ rfl (World.ownsRow_made w #[] 0 (Nat.le_refl _) (Nat.zero_le _) rfl) ad m c (idCells ids) rfl HNL.out ?qc2 (idCells_one ids) ?qc4 ?qc5 ?qc6 ?_)
    case qc2 => exact HC.out _ ((Below.refl _ w).alloc (Nat.le_refl _) _)
    case qc4 => have := HM5.out; unfold maxLen; omega
    case qc5 => have := HM5.out; omega
    case qc6 => simp
    intro v' w1 hown hgrow hnil
    go_wp2_with fail
    go_ret
    refine ⟨v', rfl, IdsIn.of_row (e := 25) (by rw [HM.out]; simpa using hown), ?_⟩
    exact ((Below.refl _ w).alloc (Nat.le_refl _) _).grown hgrow (by simp) (by intro k hk; simp [Value.ownBlock] at hk; omega)
end Go.Proofs.YtjdobbjdlighpabGreatDoor
namespace Go.Proofs.YtjdobbjdlighpabGreatDoor
open Go.RowKit Go.Maps

theorem Off.two {a b c : World} {x y : Nat} (h : Off (fun k => k = x) a b) (k : Off (fun k => k = y) b c) : Off (fun k => k = x ∨ k = y) a c :=
  ⟨k.os.trans h.os, k.tape.trans h.tape, k.output.trans h.output, Nat.le_trans h.size k.size, fun i hi hf => (k.block i (Nat.lt_of_lt_of_le hi h.size) (fun e => hf (.inr e))).trans (h.block i hi (fun e => hf (.inl e)))⟩
theorem NAt.put {w w' : World} {N mf mb : Nat} {vi : List UInt8 → Value} {pi : Nat × Int → Addr} {Fi : Nat × Int → Nat → Prop} {st : NSt} {nm s : List UInt8} {v : Value} {q : Addr} {F8 : Nat → Prop} {bl : List Hd} {r : Nat × Int}
    (h : NAt w N mf mb vi pi Fi st) (ho : Off (fun k => k = mf ∨ k = mb) w w')
    (hfiles : strRcps.Of w' mf ((nm, rwOf (nm, s) v) :: st.files.map fun f => (f.1, rwOf f (vi f.1))))
    (hbins : idBins.Of w' mb ((r, some q) :: (st.bins.filter (fun b => !decide (b.1 = r))).map fun b => (b.1, some (pi b.1))))
    (hnew : ∀ f ∈ st.files, f.1 ≠ nm) (hids : IdsAt w' v (idsOf s))
    (hrow : idsOf s ≠ [] → ∀ k, v.ownBlock = some k → k < w'.heap.size ∧ ¬ nFoot N mf mb vi Fi st k ∧ ¬ F8 k)
    (hq : PBin0 w' q F8 bl) (hF8 : ∀ k, F8 k → ¬ nFoot N mf mb vi Fi st k) :
    NAt w' N mf mb (fun n => if n = nm then v else vi n) (fun x => if x = r then q else pi x) (fun x => if x = r then F8 else Fi x) ⟨(nm, s) :: st.files, (r, bl) :: st.bins.filter (fun b => !decide (b.1 = r))⟩ := by
  obtain ⟨n1, n2, n3⟩ := h.ne
  have hfil : ∀ b ∈ st.bins.filter (fun b => !decide (b.1 = r)), b ∈ st.bins ∧ b.1 ≠ r := fun b hb => by
    obtain ⟨h1, h2⟩ := List.mem_filter.1 hb
    exact ⟨h1, by simpa using h2⟩
  refine ⟨ho.blk h.blk (by rintro (e | e) <;> omega), ?_, ?_, ?_, ?_, ?_, h.ne, ?_, ?_⟩
  · rw [List.map_cons]
    simp only [if_true]
    rw [List.map_congr_left (g := fun f => (f.1, rwOf f (vi f.1))) (fun f hf => by rw [if_neg (hnew f hf)])]
    exact hfiles
  · rw [List.map_cons]
    simp only [if_true]
    rw [List.map_congr_left (g := fun b => (b.1, some (pi b.1))) (fun b hb => by rw [if_neg (hfil b hb).2])]
    exact hbins
  · intro f hf
    rcases List.mem_cons.1 hf with rfl | hf
    · simp only [if_true]
      exact hids
    · simp only [if_neg (hnew f hf)]
      exact (h.ids f hf).off ho (fun hi k hk => by
        obtain ⟨_, _, h2, h3, _⟩ := h.rows f hf hi k hk
        rintro (e | e)
        · exact h2 e
        · exact h3 e)
  · intro f hf hi k hk
    rcases List.mem_cons.1 hf with rfl | hf
    · simp only [if_true] at hk
      obtain ⟨h1, h2, h3⟩ := hrow hi k hk
      refine ⟨h1, fun e => h2 (.inl e), fun e => h2 (.inr (.inl e)), fun e => h2 (.inr (.inr (.inl e))), fun b hb => ?_⟩
      rcases List.mem_cons.1 hb with rfl | hb
      · simp only [if_true]
        exact h3
      · simp only [if_neg (hfil b hb).2]
        exact fun hF => h2 (.inr (.inr (.inr (.inl ⟨b, (hfil b hb).1, hF⟩))))
    · simp only [if_neg (hnew f hf)] at hk
      obtain ⟨h1, h2, h3, h4, h5⟩ := h.rows f hf hi k hk
      refine ⟨Nat.lt_of_lt_of_le h1 ho.size, h2, h3, h4, fun b hb => ?_⟩
      rcases List.mem_cons.1 hb with rfl | hb
      · simp only [if_true]
        exact fun hF => hF8 k hF (.inr (.inr (.inr (.inr ⟨f, hf, hi, hk⟩))))
      · simp only [if_neg (hfil b hb).2]
        exact h5 b (hfil b hb).1
  · intro b hb
    rcases List.mem_cons.1 hb with rfl | hb
    · simp only [if_true]
      exact hq
    · simp only [if_neg (hfil b hb).2]
      obtain ⟨_, a2, a3⟩ := h.apart b (hfil b hb).1
      exact (h.bin b (hfil b hb).1).off ho (fun k hk => by
        rintro (e | e)
        · exact a2 (e ▸ hk)
        · exact a3 (e ▸ hk))
  · intro b hb
    rcases List.mem_cons.1 hb with rfl | hb
    · simp only [if_true]
      exact ⟨fun hF => hF8 _ hF (.inl rfl), fun hF => hF8 _ hF (.inr (.inl rfl)), fun hF => hF8 _ hF (.inr (.inr (.inl rfl)))⟩
    · simp only [if_neg (hfil b hb).2]
      exact h.apart b (hfil b hb).1
  · intro b hb c hc hne k
    rcases List.mem_cons.1 hb with rfl | hb
    · rcases List.mem_cons.1 hc with rfl | hc
      · exact absurd rfl hne
      · simp only [if_true, if_neg (hfil c hc).2]
        exact fun hF hG => hF8 k hF (.inr (.inr (.inr (.inl ⟨c, (hfil c hc).1, hG⟩))))
    · rcases List.mem_cons.1 hc with rfl | hc
      · simp only [if_true, if_neg (hfil b hb).2]
        exact fun hG hF => hF8 k hF (.inr (.inr (.inr (.inl ⟨b, (hfil b hb).1, hG⟩))))
      · simp only [if_neg (hfil b hb).2, if_neg (hfil c hc).2]
        exact h.two b (hfil b hb).1 c (hfil c hc).1 hne k
theorem nFoot_put {N mf mb : Nat} {vi : List UInt8 → Value} {Fi : Nat × Int → Nat → Prop} {st : NSt} {nm s : List UInt8} {v : Value} {F8 : Nat → Prop} {bl : List Hd} {r : Nat × Int} (hnew : ∀ f ∈ st.files, f.1 ≠ nm) {k : Nat}
    (h : nFoot N mf mb (fun n => if n = nm then v else vi n) (fun x => if x = r then F8 else Fi x) ⟨(nm, s) :: st.files, (r, bl) :: st.bins.filter (fun b => !decide (b.1 = r))⟩ k) : nFoot N mf mb vi Fi st k ∨ F8 k ∨ (idsOf s ≠ [] ∧ v.ownBlock = some k) := by
  rcases h with e | e | e | ⟨b, hb, hk⟩ | ⟨f, hf, hi, hk⟩
  · exact .inl (.inl e)
  · exact .inl (.inr (.inl e))
  · exact .inl (.inr (.inr (.inl e)))
  · rcases List.mem_cons.1 hb with rfl | hb
    · simp only [if_true] at hk
      exact .inr (.inl hk)
    · obtain ⟨h1, h2⟩ := List.mem_filter.1 hb
      simp only [if_neg (show b.1 ≠ r by simpa using h2)] at hk
      exact .inl (.inr (.inr (.inr (.inl ⟨b, h1, hk⟩))))
  · rcases List.mem_cons.1 hf with rfl | hf
    · simp only [if_true] at hk
      exact .inr (.inr ⟨hi, hk⟩)
    · simp only [if_neg (hnew f hf)] at hk
      exact .inl (.inr (.inr (.inr (.inr ⟨f, hf, hi, hk⟩))))
end Go.Proofs.YtjdobbjdlighpabGreatDoor
