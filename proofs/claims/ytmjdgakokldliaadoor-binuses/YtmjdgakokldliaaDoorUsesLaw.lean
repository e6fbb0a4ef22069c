/-
  Own text. The law BinUses over BinSpec, and over what bin.Text and bin.Read make of pieces (TextSpec).
-/
import Derived.Test.YtmjdgakokldliaaDoorUsesMem
import Derived.Test.YtmjdgakokldliaaDoorBinned
import Derived.Test.YtmjdgakokldliaaDoorActsMem
import Derived.Test.YtmjdgakokldliaaDoorBinActs
import Derived.Deep.RegionHeld3
namespace Go.Proofs.YtmjdgakokldliaaDoor
open Go.RowKit

theorem infoStrU : (Tryd.prog.info? 9).map (fun i => (i.zero, i.size, i.bytes)) = some (some (.string ⟨#[]⟩), 1, 16) := by kernel_rfl
theorem infoIDU : (Tryd.prog.info? 37).map (fun i => (i.zero, i.size, i.bytes)) = some (some (idV 0 0), 2, 16) := by kernel_rfl
theorem str_back (t : ByteArray) : (⟨t.data.toList.toArray⟩ : ByteArray) = t := by
  apply ByteArray.ext
  simp
theorem wfID_of (t : ByteArray) (h : t.size ≤ 100) : WfID (idOfL t.data.toList) := by
  refine ⟨pmore_lt _ (by decide) _, ?_, ?_⟩
  · show _ ≤ ((t.data.toList.length : Nat) : Int); omega
  · show ((t.data.toList.length : Nat) : Int) ≤ _
    have : t.data.toList.length = t.size := by rw [Array.length_toList]; rfl
    omega
theorem cell_one_at {W : World} {B : Nat} {x : Value} {t : TypeId} (hB : B = W.heap.size) : ∀ j u, [x][j]? = some u → (W.alloc (.cells #[x] t)).cell? ((⟨B, 0, none⟩ : Addr).add j) = some u := by
  subst hB
  exact cell_one_new _ _ _
theorem cell_two_new (W : World) (x y : Value) (t : TypeId) : ∀ j u, [x, y][j]? = some u → (W.alloc (.cells #[x, y] t)).cell? ((⟨W.heap.size, 0, none⟩ : Addr).add j) = some u := by
  intro j u hj
  rw [add_plain]
  exact new_cell W #[x, y] t (by rw [← hj]; simp) rfl
theorem text_row {W : World} {base : Nat} {v : Value} {log : List (List UInt8)} {t : ByteArray} (h : W.ownsRow base 9 1 v (log.length + 1) (log.map strB ++ [.string t])) : W.ownsRow base 9 1 v (log ++ [t.data.toList]).length ((log ++ [t.data.toList]).map strB) := by
  rw [List.length_append, List.map_append, List.map_singleton, strB, str_back]
  exact h
theorem id_row {W : World} {base : Nat} {v : Value} {log : List (List UInt8)} {t : List UInt8} {x : Nat} {y : Int} (e : (x, y) = idOfL t) (h : W.ownsRow base 37 2 v (log.length + 1) (idC (log.map idOfL) ++ [.int .u32 (x : Nat), .int .i64 y])) : W.ownsRow base 37 2 v (log ++ [t]).length (idC ((log ++ [t]).map idOfL)) := by
  rw [List.length_append, List.map_append, idC_append, List.map_singleton, ← e]
  exact h
theorem row_shape {W : World} {base : Nat} {e : TypeId} {size : Nat} {v : Value} {n : Nat} {xs : List Value} (h : W.ownsRow base e size v n xs) : ∃ p c, v = .slice p n c := by
  rcases h.2 with ⟨rfl, rfl⟩ | ⟨g, cap, cur, rfl, _⟩
  · exact ⟨_, _, rfl⟩
  · exact ⟨_, _, rfl⟩
theorem later_no {log : List (List UInt8)} {k n xp yp : Nat} {xl yl : Int} (hlt : n < log.length) (h : false = true ↔ ∃ (r : Nat) (h : r < log.length), k < r ∧ r < n ∧ idOfL log[r] = (xp, xl)) (hy : idOfL log[n] = (yp, yl)) (hne : ¬ (yp = xp ∧ yl = xl)) : Hid (false = true ↔ ∃ (r : Nat) (h : r < log.length), k < r ∧ r < n + 1 ∧ idOfL log[r] = (xp, xl)) := by
  show _ ↔ _
  refine ⟨fun e => (by cases e), fun ⟨r, hr, a1, a2, a3⟩ => ?_⟩
  by_cases e : r = n
  · subst e
    rw [hy] at a3
    exact absurd ⟨congrArg Prod.fst a3, congrArg Prod.snd a3⟩ hne
  · exact h.2 ⟨r, hr, a1, by omega, a3⟩
theorem later_yes {log : List (List UInt8)} {k n xp : Nat} {xl : Int} (h : ∃ (r : Nat) (h : r < log.length), k < r ∧ r < n ∧ idOfL log[r] = (xp, xl)) : Hid (true = true ↔ ∃ (r : Nat) (h : r < log.length), k < r ∧ r < n + 1 ∧ idOfL log[r] = (xp, xl)) := by
  show _ ↔ _
  obtain ⟨r, hr, a1, a2, a3⟩ := h
  exact ⟨fun _ => ⟨r, hr, a1, by omega, a3⟩, fun _ => rfl⟩
theorem hide {q : Prop} (h : q) : Hid q := h
structure TextSpec (Env : World → Prop) : Prop where
  back : ∀ (v : Value) (l : List Hd) (w : World), BinOk 1000 l → Env w → HeldsAt w v l → Calls Tryd.prog 34 #[v] w fun e w' => ∃ t : ByteArray, e = .returned (.string t) ∧ Below w.heap.size w w' ∧ ∀ W, Env W → Calls Tryd.prog 33 #[.string t] W fun e W' => ∃ v', e = .returned (.tuple #[v', .nilIface]) ∧ HeldsAt W' v' l ∧ Below W.heap.size W W'

structure UsesI (PB : PBin) (w : World) (p : Addr) (j : Nat) (vt vi : Value) (wr : World) (l : List Hd) (log : List (List UInt8)) (F : Nat → Prop) : Prop where
  st : UseSt PB w wr p F l vt vi log log
  ok : BinOk j l
  kept : Log l log
  many : log.length ≤ j
set_option maxRecDepth 100000 in
set_option maxHeartbeats 8000000 in
theorem binUses_any {a : Nat → Addr} {Env : World → Prop} {PB : PBin} (S : BinSpec a Env PB) (T : TextSpec Env) (va : Value) (l : List Act4) (w : World) (hE : Env w) (hv : ActsAt w va l) (hwf : ∀ i (h : i < l.length), WfID l[i].2.2) :
    Calls Tryd.prog 6 #[va] w fun e w' => e = .returned (.bool true) ∧ Below w.heap.size w w' := by
  have HS : Hid (BinSpec a Env PB) := S
  have HTS : Hid (TextSpec Env) := T
  have HE : Hid (Env w) := hE
  have HV : Hid (ActsAt w va l) := hv
  have HWFS : Hid (∀ i (h : i < l.length), WfID l[i].2.2) := hwf
  obtain ⟨pa, ca, rfl, _⟩ := hv
  obtain ⟨iS, hiS, zS0, zS1, zS2⟩ := info_parts infoStrU
  obtain ⟨iD, hiD, zD0, zD1, zD2⟩ := info_parts infoIDU
  clear S T hE hwf
  go_enter Tryd.func6, Tryd.ntmps6
  go_wp2_with fail
  refine (binned_any HS.out w HE.out).mono ?_
  rintro e w1 ⟨rfl, hb1⟩
  have HB1 : Hid (Below w.heap.size w w1) := hb1
  clear hb1
  go_wp2_with fail
  refine (longActs_any _ l w1 (HV.out.below HB1.out)).mono ?_
  rintro e w1' ⟨b, rfl, rfl, hlong⟩
  cases b with
  | true =>
    clear hlong
    go_wp2_with fail
    go_ret
    exact ⟨rfl, HB1.out⟩
  | false =>
    obtain ⟨hl80, hlen⟩ := hlong rfl
    have HLEN : Hid (∀ i (h : i < l.length), l[i].1.size ≤ 20 ∧ l[i].2.1.size ≤ 100) := hlen
    have HL80 : Hid (l.length ≤ 80) := hl80
    have hl2 : (l.length : Int) ≤ 80 := by omega
    have HE1 : Hid (Env w1') := HS.out.stable HE.out HB1.out
    clear hlen hlong hl80
    go_wp2_with fail
    refine (HS.out.new w1' HE1.out).mono ?_
    rintro e w2 ⟨p, F, rfl, hP2, hF2, hb2⟩
    have hB2 : Below w.heap.size w w2 := HB1.out.trans (hb2.mono HB1.out.size)
    have HT0 : Hid (UseSt PB w w2 p F [] (.slice none 0 0) (.slice none 0 0) [] []) := UseSt.start hB2 hP2 (fun k hk => Nat.le_trans HB1.out.size (hF2 k hk))
    clear hP2 hF2 hb2 hB2 HB1 HE1
    go_wp2_with fail
    go_loopw [5, 6, 7] (fun vt vi i wr => ∃ j : Nat, j ≤ l.length ∧ i = .int .i64 j ∧ ∃ hs log F, UsesI PB w p j vt vi wr hs log F) (fun _ _ i _ => l.length - (intOf i).toNat)
    case atStart => exact ⟨0, Nat.zero_le _, rfl, [], [], F, HT0.out, BinOk.nil _, Log.nil, Nat.zero_le _⟩
    case round =>
      clear HT0
      obtain ⟨j, hj, rfl, hs, log, F', hI⟩ := hrel
      have HI : Hid (UsesI PB w p j u5 u6 wr hs log F') := hI
      clear hI
      by_cases hlt : j < l.length
      · have hlt' : (j : Int) < (l.length : Int) := by omega
        obtain ⟨_, _, hve, hcell⟩ := HV.out.below HI.out.st.below
        obtain ⟨rfl, rfl⟩ : pa = _ ∧ ca = _ := by simpa using hve
        obtain ⟨b, o, rfl, _, c0, c1, c2, c3⟩ := hcell j hlt
        obtain ⟨z1, z2⟩ := HLEN.out j hlt
        have HJ80 : Hid (j < 80) := by show _ < _; have := HL80.out; omega
        obtain ⟨y, hy⟩ : ∃ y, l[j] = y := ⟨_, rfl⟩
        rw [hy] at c0 c1 c2 c3 z1 z2
        have HYJ : Hid (l[j] = y) := hy
        clear hy hcell hve
        obtain ⟨kd, tx, xp, xl⟩ := y
        simp only at c0 c1 c2 c3 z1 z2
        have HTX : Hid (tx.size ≤ 100) := z2
        clear z1 z2
        have HCELL0 : Hid (∀ W', Below w.heap.size w W' → W'.cell? ⟨b, o + j * 4, none⟩ = some (.string kd)) := fun W' hb => by
          obtain ⟨_, _, hve, hcell⟩ := HV.out.below hb
          obtain ⟨b', o', e, _, h1, _⟩ := hcell j hlt
          have e2 := hve
          simp only [Value.slice.injEq] at e2
          rw [← e2.1] at e
          simp only [Option.some.injEq, Addr.mk.injEq] at e
          obtain ⟨rfl, rfl, _⟩ := e
          rw [HYJ.out] at h1
          exact h1
        have HCELL : Hid (∀ W', Below w.heap.size w W' → W'.cell? ⟨b, o + j * 4 + 1, none⟩ = some (.string tx)) := fun W' hb => by
          obtain ⟨_, _, hve, hcell⟩ := HV.out.below hb
          obtain ⟨b', o', e, _, _, h1, _⟩ := hcell j hlt
          have e2 := hve
          simp only [Value.slice.injEq] at e2
          rw [← e2.1] at e
          simp only [Option.some.injEq, Addr.mk.injEq] at e
          obtain ⟨rfl, rfl, _⟩ := e
          rw [HYJ.out] at h1
          exact h1
        by_cases k1 : kd = ⟨#[112, 117, 116]⟩
        · subst k1
          obtain ⟨r, hr⟩ : ∃ r, hPut hs tx.data.toList = r := ⟨_, rfl⟩
          have HRO : Hid (BinOk ((j : Int) + 1) r.2) := by rw [← hr]; exact hPut_ok HI.out.ok _ (by omega)
          have HOKM : Hid (BinOk 1000000 hs) := HI.out.ok.mono (by have := HJ80.out; omega)
          have HRM : Hid (BinOk 1000000 r.2) := HRO.out.mono (by have := HJ80.out; omega)
          have HPUT := HS.out.put tx p F' hs wr (by have := HTX.out; omega) HOKM.out (HS.out.stable HE.out HI.out.st.below) HI.out.st.pb
          have HYES : Hid (r.1.2.2 = 0 → r.1.1 = idOfL tx.data.toList ∧ Log r.2 (log ++ [tx.data.toList])) := by rw [← hr]; exact fun h => HI.out.kept.put HI.out.ok h
          have HNO : Hid (r.1.2.2 ≠ 0 → r.2 = hs) := by rw [← hr]; exact fun h => Log.unput h
          rw [hr] at HPUT
          clear hr
          obtain ⟨⟨⟨rp, rl⟩, rn, rc⟩, hs'⟩ := r
          simp only at HPUT HRO HRM HYES HNO
          have HPU := hide HPUT
          clear HPUT
          go_wp2_with fail
          refine HPU.out.mono ?_
          rintro e w3 ⟨ev, F3, rfl, hev, hP3, hF3, ho3⟩
          have HST3 : Hid (UseSt PB w w3 p F3 hs' u5 u6 log log) := HI.out.st.prog hP3 hF3 ho3
          clear hP3 hF3 ho3
          have HB8 : Hid (∀ k, u5.ownBlock = some k ∨ u6.ownBlock = some k → k < w3.heap.size) := fun k hk => hk.elim (row_lt HST3.out.rt) (row_lt HST3.out.ri)
          by_cases hrc : rc = 0
          · subst hrc
            have hn := hev.nil
            subst hn
            clear hev HNO
            obtain ⟨hid, hlog⟩ := HYES.out rfl
            have HID : Hid ((rp, rl) = idOfL tx.data.toList) := hid
            have HLOG : Hid (Log hs' (log ++ [tx.data.toList])) := hlog
            clear hid hlog
            have hal3 := (Below.refl w3.heap.size w3).alloc (Nat.le_refl _) (.cells #[.int .u32 (rp : Nat), .int .i64 rl] 37)
            have HST4 : Hid (UseSt PB w (w3.alloc (.cells #[.int .u32 (rp : Nat), .int .i64 rl] 37)) p F3 hs' u5 u6 log log) := HST3.out.next HS.out hal3
            have hblk := Blk.new w3 #[.int .u32 (rp : Nat), .int .i64 rl] 37
            have x1 := HCELL.out _ HST4.out.below
            have HB9 : Hid (∀ k, u5.ownBlock = some k ∨ u6.ownBlock = some k → k ≠ w3.heap.size) := fun k hk e => by have := HB8.out k hk; omega
            clear hal3 HB8 HST3 HPU HYES c0 c1 c2 c3
            go_wp2_with (at_builtin; refine wpList_append_own_at _ rfl (.tmp 64) (.tmp 70) 54 rfl w.heap.size 9 iS (.string ⟨#[]⟩) 1 16 Tryd.underlying54 hiS zS0 zS1 zS2 rfl (by decide) _ _ _ rfl (HST4.out.rt.alloc _) ⟨w3.heap.size + 1, 0, none⟩ 1 1 [.string tx] rfl rfl ?c1 ?c2 ?c3 ?c4 ?c5 ?_)
            case c1 => exact cell_one_at (by simp)
            case c2 => intro u hu; simp at hu; subst hu; rfl
            case c3 => have := HI.out.many; have := HJ80.out; unfold maxLen; omega
            case c4 => have := HI.out.many; have := HJ80.out; omega
            case c5 => have := HST4.out.below.size; simp at this ⊢; omega
            intro v5 w5 hown5 hg5 _ hv5
            have hal4 := (Below.refl (w3.alloc (.cells #[.int .u32 (rp : Nat), .int .i64 rl] 37)).heap.size (w3.alloc (.cells #[.int .u32 (rp : Nat), .int .i64 rl] 37))).alloc (Nat.le_refl _) (.cells #[.string tx] 9)
            have HST5 : Hid (UseSt PB w w5 p F3 hs' v5 u6 (log ++ [tx.data.toList]) log) := (HST4.out.next HS.out hal4).text HS.out hg5 (text_row hown5) (by simpa using hv5)
            have hblk5 : Blk w5 w3.heap.size #[.int .u32 (rp : Nat), .int .i64 rl] 37 := (off_of_rowgrown hg5).blk (hblk.next hal4) (fun e => HB9.out _ (.inl e) rfl)
            clear hown5 hg5 hv5 hal4 hblk x1
            have y0 := hblk5.cell (i := 0) rfl
            have y1 := hblk5.cell (i := 1) rfl
            go_wp2_with (at_builtin; refine wpList_append_own_at _ rfl (.tmp 72) (.tmp 74) 55 rfl w.heap.size 37 iD (idV 0 0) 2 16 Tryd.underlying55 hiD zD0 zD1 zD2 rfl (by decide) _ _ _ rfl (HST5.out.ri.alloc _) ⟨w5.heap.size, 0, none⟩ 1 1 [.int .u32 (rp : Nat), .int .i64 rl] rfl rfl ?c1 ?c2 ?c3 ?c4 ?c5 ?_)
            case c1 => exact cell_two_new _ _ _ _
            case c2 => intro u hu; simp at hu; rcases hu with rfl | rfl <;> rfl
            case c3 => have := HI.out.many; have := HJ80.out; unfold maxLen; omega
            case c4 => have := HI.out.many; have := HJ80.out; omega
            case c5 => have := HST5.out.below.size; simp; omega
            intro v6 w6 hown6 hg6 _ hv6
            have hal5 := (Below.refl w5.heap.size w5).alloc (Nat.le_refl _) (.cells #[.int .u32 (rp : Nat), .int .i64 rl] 37)
            have HST6 : Hid (UseSt PB w w6 p F3 hs' v5 v6 (log ++ [tx.data.toList]) (log ++ [tx.data.toList])) := (HST5.out.next HS.out hal5).id HS.out hg6 (id_row HID.out hown6) (by simpa using hv6)
            have hblk6 : Blk w6 w3.heap.size #[.int .u32 (rp : Nat), .int .i64 rl] 37 := (off_of_rowgrown hg6).blk (hblk5.next hal5) (fun e => HB9.out _ (.inr e) rfl)
            clear hown6 hg6 hv6 hal5 hblk5 y0 y1
            have y0 := hblk6.cell (i := 0) rfl
            have y1 := hblk6.cell (i := 1) rfl
            have HGET := HS.out.get (rp, rl) p F3 hs' w6 (by rw [HID.out]; exact wfID_of tx HTX.out) HRM.out (HS.out.stable HE.out HST6.out.below) HST6.out.pb
            rw [show hGet hs' (rp, rl) = (tx.data.toList, 0) by rw [HID.out]; exact HLOG.out.get HRM.out (by simp)] at HGET
            have HGE := hide HGET
            clear HGET
            go_wp2_with fail
            refine HGE.out.mono ?_
            rintro e w7 ⟨ev, rfl, hev, hb7⟩
            have hn := hev.nil
            subst hn
            have HST7 : Hid (UseSt PB w w7 p F3 hs' v5 v6 (log ++ [tx.data.toList]) (log ++ [tx.data.toList])) := HST6.out.next HS.out hb7
            have HBLK : Hid (Blk w7 w3.heap.size #[.int .u32 (rp : Nat), .int .i64 rl] 37) := hblk6.next hb7
            clear hev hb7 hblk6 y0 y1 HGE HST6 HST5 HST4
            rw [str_back]
            have x1 := HCELL.out _ HST7.out.below
            have y0 := HBLK.out.cell (i := 0) rfl
            have y1 := HBLK.out.cell (i := 1) rfl
            have HP1 : Hid (pmore 2166136261 tx.data.toList = rp) := (congrArg Prod.fst HID.out).symm
            have HP2 : Hid ((tx.size : Int) = rl) := (congrArg Prod.snd HID.out).symm
            have HTM : Hid (tx.size ≤ maxLen) := by show _ ≤ _; have := HTX.out; unfold maxLen; omega
            go_wp2_with fail
            go_region_held3 (fun w' => w'.cell? ⟨b, o + j * 4 + 1, none⟩ = some (.string tx) ∧ w'.cell? ⟨w3.heap.size, 0, none⟩ = some (.int .u32 (rp : Nat)) ∧ w'.cell? ⟨w3.heap.size, 1, none⟩ = some (.int .i64 rl)) (first | exact ⟨HCELL.out _ HST8.out.below, HBLK8.out.cell (i := 0) rfl, HBLK8.out.cell (i := 1) rfl⟩ | go_keep) (first
              | (go_at_call 20; refine (id_any tx _ HTM.out).mono ?_; rintro e w8 ⟨rfl, hb8⟩; rw [HP1.out, HP2.out]; have HST8 : Hid (UseSt PB w w8 p F3 hs' v5 v6 (log ++ [tx.data.toList]) (log ++ [tx.data.toList])) := (HST7.out.next HS.out (Below.refl w7.heap.size w7).drew).next HS.out hb8; have HBLK8 : Hid (Blk w8 w3.heap.size #[.int .u32 (rp : Nat), .int .i64 rl] 37) := Blk.next (W := w7.drew) HBLK.out hb8))
            go_wp2_with fail
            go_roundw
            case rel => exact ⟨j + 1, by omega, by go_num, hs', log ++ [tx.data.toList], F3, HST8.out, HRO.out, HLOG.out, by rw [List.length_append]; have := HI.out.many; simp; omega⟩
            case measure => simp [intOf]; omega
          · have hne := HNO.out hrc
            subst hne
            have HEN : Hid (∃ ty x, ev = .iface ty x) := by
              rcases hev with ⟨_, hf⟩ | ⟨k, _, hv, _⟩ | ⟨k, pb, po, at0, _, _, hv, _⟩
              · exact absurd (congrArg Prod.fst hf) hrc
              · exact ⟨_, _, hv⟩
              · exact ⟨_, _, hv⟩
            obtain ⟨ty, x, rfl⟩ := HEN.out
            have HST4 : Hid (UseSt PB w (w3.alloc (.cells #[.int .u32 (rp : Nat), .int .i64 rl] 37)) p F3 hs' u5 u6 log log) := HST3.out.next HS.out ((Below.refl w3.heap.size w3).alloc (Nat.le_refl _) _)
            clear hev HEN
            go_wp2_with fail
            go_roundw
            case rel => exact ⟨j + 1, by omega, by go_num, hs', log, F3, HST4.out, HRO.out, HI.out.kept, by have := HI.out.many; omega⟩
            case measure => simp [intOf]; omega
        · by_cases k2 : kd = ⟨#[115, 119, 101, 101, 112]⟩
          · subst k2
            have HOKM : Hid (BinOk 1000000 hs) := HI.out.ok.mono (by have := HJ80.out; omega)
            have HSW := hide (HS.out.sweep p F' hs wr HOKM.out (HS.out.stable HE.out HI.out.st.below) HI.out.st.pb)
            have HSE : Hid ((hSweep hs).2 = hs) := HI.out.kept.sweep
            clear k1
            go_wp2_with fail
            refine HSW.out.mono ?_
            rintro e w3 ⟨F3, rfl, hP3, hF3, ho3⟩
            rw [HSE.out] at hP3
            have HST3 : Hid (UseSt PB w w3 p F3 hs u5 u6 log log) := HI.out.st.prog hP3 hF3 ho3
            have x0 : w3.cell? ⟨b, o + j * 4, none⟩ = some (.string ⟨#[115, 119, 101, 101, 112]⟩) := HCELL0.out _ HST3.out.below
            clear hP3 hF3 ho3
            go_wp2_with fail
            go_roundw
            case rel => exact ⟨j + 1, by omega, by go_num, hs, log, F3, HST3.out, HI.out.ok.mono (by omega), HI.out.kept, by have := HI.out.many; omega⟩
            case measure => simp [intOf]; omega
          · have k1' := str_ne k1
            have k2' := str_ne k2
            have n1 : (kd.toList == [112, 117, 116]) = false := str_ne_lit k1
            have n2 : (kd.toList == [115, 119, 101, 101, 112]) = false := str_ne_lit k2
            clear k1 k2
            go_wp2_with fail
            go_roundw
            case rel => exact ⟨j + 1, by omega, by go_num, hs, log, F', HI.out.st, HI.out.ok.mono (by omega), HI.out.kept, by have := HI.out.many; omega⟩
            case measure => simp [intOf]; omega
      · have hjl : j = l.length := by omega
        subst hjl
        have HOKM : Hid (BinOk 1000000 hs) := HI.out.ok.mono (by have := HL80.out; omega)
        have HOKT : Hid (BinOk 1000 hs) := HI.out.ok.mono (by have := HL80.out; omega)
        obtain ⟨pt, ct, rfl⟩ := row_shape HI.out.st.rt
        obtain ⟨pi, ci, rfl⟩ := row_shape HI.out.st.ri
        have HLL : Hid (log.length ≤ 80) := Nat.le_trans HI.out.many HL80.out
        have hlog2 : (log.length : Int) ≤ 80 := by have := HLL.out; omega
        have HELEM : Hid (∀ W hs F, UseSt PB w W p F hs (.slice pt log.length ct) (.slice pi log.length ci) log log → ∀ i (hi : i < log.length), ∃ gt gi, pt = some ⟨gt, 0, none⟩ ∧ pi = some ⟨gi, 0, none⟩ ∧ W.cell? ⟨gt, i, none⟩ = some (strB log[i]) ∧ ∀ i (hi : i < log.length), W.cell? ⟨gi, i * 2, none⟩ = some (.int .u32 ((idOfL log[i]).1 : Nat)) ∧ W.cell? ⟨gi, i * 2 + 1, none⟩ = some (.int .i64 (idOfL log[i]).2)) := fun W hs F h i hi => by
          obtain ⟨gt, ct', gi, ci', e1, e2, hc⟩ := h.cells (fun e => by rw [e] at hi; simp at hi) rfl
          simp only [Value.slice.injEq] at e1 e2
          exact ⟨gt, gi, e1.1, e2.1, (hc i hi).1, fun i hi => (hc i hi).2⟩
        have HALL := hide (HS.out.all p F' hs wr HOKM.out (HS.out.stable HE.out HI.out.st.below) HI.out.st.pb)
        go_wp2_with fail
        refine HALL.out.mono ?_
        rintro e w3 ⟨va, rfl, hva, hb3⟩
        have HST3 : Hid (UseSt PB w w3 p F' hs (.slice pt log.length ct) (.slice pi log.length ci) log log) := HI.out.st.next HS.out hb3
        have HVA : Hid (HeldsAt w3 va hs) := hva
        have HLOG : Hid (Log hs log) := HI.out.kept
        clear hva hb3 HALL HI
        have HTX := hide (HTS.out.back va hs w3 HOKT.out (HS.out.stable HE.out HST3.out.below) HVA.out)
        go_wp2_with fail
        refine HTX.out.mono ?_
        rintro e w4 ⟨tx, rfl, hb4, hrd⟩
        have HST4 : Hid (UseSt PB w w4 p F' hs (.slice pt log.length ct) (.slice pi log.length ci) log log) := HST3.out.next HS.out hb4
        have HVA4 : Hid (HeldsAt w4 va hs) := HVA.out.below hb4
        have HRD := hide (hrd w4 (HS.out.stable HE.out HST4.out.below))
        clear hrd hb4 HTX HST3 HVA
        go_wp2_with fail
        refine HRD.out.mono ?_
        rintro e w5 ⟨vb, rfl, hvb, hb5⟩
        have HST5 : Hid (UseSt PB w w5 p F' hs (.slice pt log.length ct) (.slice pi log.length ci) log log) := HST4.out.next HS.out hb5
        have HSAME := hide (sameHelds_true vb va hs w5 (by have := HOKM.out.many; omega) hvb (HVA4.out.below hb5))
        clear hvb hb5 HRD HST4 HVA4
        go_wp2_with fail
        refine HSAME.out.mono ?_
        rintro e w6 ⟨rfl, hb6⟩
        have HST6 : Hid (UseSt PB w w6 p F' hs (.slice pt log.length ct) (.slice pi log.length ci) log log) := HST5.out.next HS.out hb6
        clear hb6 HSAME HST5
        go_wp2_with fail
        go_loopw [15] (fun i wr => ∃ k : Nat, k ≤ log.length ∧ i = .int .i64 k ∧ ∃ hs F, UseSt PB w wr p F hs (.slice pt log.length ct) (.slice pi log.length ci) log log ∧ BinOk 1000000 hs ∧ Log hs (log.drop k)) (fun i _ => log.length - (intOf i).toNat)
        case atStart => exact ⟨0, Nat.zero_le _, rfl, hs, F', HST6.out, HOKM.out, by rw [List.drop_zero]; exact HLOG.out⟩
        case round =>
          obtain ⟨k, hk, rfl, hs2, F2, hst, hok, hlg⟩ := hrel
          have HST : Hid (UseSt PB w wr p F2 hs2 (.slice pt log.length ct) (.slice pi log.length ci) log log) := hst
          have HOK : Hid (BinOk 1000000 hs2) := hok
          clear hst hok HST6 HLOG HOKM HOKT hlt
          by_cases hlt2 : k < log.length
          · have hlt3 : (k : Int) < (log.length : Int) := by omega
            obtain ⟨gt, gi, rfl, rfl, g1, g2⟩ := HELEM.out wr hs2 F2 HST.out k hlt2
            clear g1 g2
            obtain ⟨s, hsk⟩ : ∃ s, log[k] = s := ⟨_, rfl⟩
            have HSK : Hid (log[k] = s) := hsk
            rw [List.drop_eq_getElem_cons hlt2, hsk] at hlg
            have HLG : Hid (Log hs2 (s :: log.drop (k + 1))) := hlg
            obtain ⟨⟨xp, xl⟩, hxx⟩ : ∃ x, idOfL s = x := ⟨_, rfl⟩
            obtain ⟨S, hS⟩ : ∃ S : ByteArray, (⟨s.toArray⟩ : ByteArray) = S := ⟨_, rfl⟩
            have HXX : Hid (idOfL s = (xp, xl)) := hxx
            have HSS : Hid ((⟨s.toArray⟩ : ByteArray) = S) := hS
            have HWX : Hid (WfID (xp, xl)) := by
              show WfID _
              obtain ⟨kk, hkk, _, hid, _⟩ := HLG.out.one HOK.out (List.mem_cons_self ..)
              have hl := HOK.out.lens _ (List.getElem_mem hkk)
              rw [hid, hxx] at hl
              rw [← hxx]
              refine ⟨pmore_lt _ (by decide) _, ?_, ?_⟩
              · rw [hxx]; omega
              · rw [hxx]; omega
            have HEL : Hid (∀ W hs F, UseSt PB w W p F hs (.slice (some ⟨gt, 0, none⟩) log.length ct) (.slice (some ⟨gi, 0, none⟩) log.length ci) log log → W.cell? ⟨gt, k, none⟩ = some (.string S) ∧ W.cell? ⟨gi, k * 2, none⟩ = some (.int .u32 (xp : Nat)) ∧ W.cell? ⟨gi, k * 2 + 1, none⟩ = some (.int .i64 xl)) := fun W hs F h => by
              obtain ⟨gt', gi', e1, e2, h1, h2⟩ := HELEM.out W hs F h k hlt2
              simp only [Option.some.injEq, Addr.mk.injEq] at e1 e2
              obtain ⟨rfl, _⟩ := e1
              obtain ⟨rfl, _⟩ := e2
              obtain ⟨h3, h4⟩ := h2 k hlt2
              rw [HSK.out, strB, HSS.out] at h1
              rw [HSK.out, HXX.out] at h3 h4
              exact ⟨h1, h3, h4⟩
            have HGET := HS.out.get (xp, xl) p F2 hs2 wr HWX.out HOK.out (HS.out.stable HE.out HST.out.below) HST.out.pb
            rw [show hGet hs2 (xp, xl) = (s, 0) by rw [← hxx]; exact HLG.out.get HOK.out (List.mem_cons_self ..)] at HGET
            simp only [hS] at HGET
            have HGE := hide HGET
            obtain ⟨hd0, hd1⟩ := HLG.out.drop HOK.out
            rw [hxx] at hd0 hd1
            have HD0 := hide hd0
            have HD1 := hide hd1
            clear HGET hS hxx hsk hlg hd0 hd1
            obtain ⟨c0, c1, c2⟩ := HEL.out _ _ _ HST.out
            go_wp2_with fail
            refine HGE.out.mono ?_
            rintro e w3 ⟨ev, rfl, hev, hb3⟩
            have hn := hev.nil
            subst hn
            have HST3 : Hid (UseSt PB w w3 p F2 hs2 (.slice (some ⟨gt, 0, none⟩) log.length ct) (.slice (some ⟨gi, 0, none⟩) log.length ci) log log) := HST.out.next HS.out hb3
            have HDR := hide (HS.out.drop (xp, xl) p F2 hs2 w3 HWX.out HOK.out (HS.out.stable HE.out HST3.out.below) HST3.out.pb)
            clear hev hb3 c0 c1 c2 HGE HST
            obtain ⟨c0, c1, c2⟩ := HEL.out _ _ _ HST3.out
            have HOK3 : Hid (BinOk 1000000 (hDrop hs2 (xp, xl)).2) := hDrop_ok HOK.out _
            obtain ⟨dr, hdr⟩ : ∃ dr, hDrop hs2 (xp, xl) = dr := ⟨_, rfl⟩
            rw [hdr] at HD0 HD1 HDR HOK3
            clear hdr
            obtain ⟨dc, hs3⟩ := dr
            simp only at HD0 HD1 HDR HOK3
            have hdc := HD0.out
            subst hdc
            go_wp2_with fail
            refine HDR.out.mono ?_
            rintro e w4 ⟨ev, F3, rfl, hev, hP4, hF4, ho4⟩
            have hn := hev.nil
            subst hn
            have HST4 : Hid (UseSt PB w w4 p F3 hs3 (.slice (some ⟨gt, 0, none⟩) log.length ct) (.slice (some ⟨gi, 0, none⟩) log.length ci) log log) := HST3.out.prog hP4 hF4 ho4
            clear hev hP4 hF4 ho4 HDR HST3 HD0 c0 c1 c2
            obtain ⟨c0, c1, c2⟩ := HEL.out _ _ _ HST4.out
            go_wp2_with fail
            go_loopw [18, 19] (fun lv q wr' => ∃ (n : Nat) (lb : Bool) (m : Nat), k + 1 ≤ n ∧ n ≤ log.length ∧ q = .int .i64 n ∧ lv = .bool lb ∧ Hid (lb = true ↔ ∃ (r : Nat) (h : r < log.length), k < r ∧ r < n ∧ idOfL log[r] = (xp, xl)) ∧ wr' = w4.drewN m) (fun _ q _ => log.length - (intOf q).toNat)
            case atStart => exact ⟨k + 1, false, 0, Nat.le_refl _, hlt2, by go_num, rfl, ⟨fun e => (by cases e), fun ⟨r, _, h1, h2, _⟩ => (by omega)⟩, rfl⟩
            case round =>
              obtain ⟨n, lb, m, hn1, hn2, rfl, rfl, hlb, rfl⟩ := hrel
              by_cases hlt4 : n < log.length
              · have hlt5 : (n : Int) < (log.length : Int) := by omega
                obtain ⟨_, gi', e1, e2, h1, h2⟩ := HELEM.out w4 hs3 F3 HST4.out n hlt4
                clear e1 h1
                simp only [Option.some.injEq, Addr.mk.injEq] at e2
                obtain ⟨rfl, _⟩ := e2
                obtain ⟨d1, d2⟩ := h2 n hlt4
                clear h2
                obtain ⟨⟨yp, yl⟩, hyy⟩ : ∃ y, idOfL log[n] = y := ⟨_, rfl⟩
                rw [hyy] at d1 d2
                have HYY : Hid (idOfL log[n] = (yp, yl)) := hyy
                clear hyy
                cases lb with
                | true =>
                  go_wp2_with fail
                  go_quiet (fail)
                  go_wp2_with fail
                  go_roundw
                  case rel => exact ⟨n + 1, true, _, by omega, hlt4, by go_num, rfl, later_yes (hlb.out.1 (by trivial)), rfl⟩
                  case measure => simp [intOf]; omega
                | false =>
                  by_cases hid : yp = xp ∧ yl = xl
                  · obtain ⟨rfl, rfl⟩ := hid
                    go_wp2_with fail
                    go_quiet (fail)
                    go_wp2_with fail
                    go_roundw
                    case rel => exact ⟨n + 1, true, _, by omega, hlt4, by go_num, rfl, ⟨fun _ => ⟨n, hlt4, by omega, by omega, HYY.out⟩, fun _ => rfl⟩, rfl⟩
                    case measure => simp [intOf]; omega
                  · have hdis : ((yp : Int) == (xp : Int)) = false ∨ (((yp : Int) == (xp : Int)) = true ∧ (yl == xl) = false) := by
                      by_cases h : yp = xp
                      · exact .inr ⟨by rw [beq_iff_eq]; omega, by rw [beq_eq_false_iff_ne]; exact fun e => hid ⟨h, e⟩⟩
                      · exact .inl (by rw [beq_eq_false_iff_ne]; omega)
                    have HNE : Hid (¬ (yp = xp ∧ yl = xl)) := hid
                    clear hid
                    rcases hdis with hPn | ⟨hPn, hLl⟩
                    all_goals
                      go_wp2_with fail
                      go_quiet (fail)
                      go_wp2_with fail
                      go_roundw
                    case rel => exact ⟨n + 1, false, _, by omega, hlt4, by go_num, rfl, later_no hlt4 hlb.out HYY.out HNE.out, rfl⟩
                    case rel => exact ⟨n + 1, false, _, by omega, hlt4, by go_num, rfl, later_no hlt4 hlb.out HYY.out HNE.out, rfl⟩
                    all_goals (simp [intOf]; omega)
              · have hnl : n = log.length := by omega
                subst hnl
                have HST5 : Hid (UseSt PB w (w4.drewN m) p F3 hs3 (.slice (some ⟨gt, 0, none⟩) log.length ct) (.slice (some ⟨gi, 0, none⟩) log.length ci) log log) := HST4.out.next HS.out ⟨rfl, rfl, rfl, Nat.le_refl _, fun _ _ => rfl⟩
                have HSW := hide (HS.out.sweep p F3 hs3 (w4.drewN m) HOK3.out (HS.out.stable HE.out HST5.out.below) HST5.out.pb)
                have HOK4 : Hid (BinOk 1000000 (hSweep hs3).2) := hSweep_ok HOK3.out
                clear c0 c1 c2 HST4
                go_wp2_with fail
                refine HSW.out.mono ?_
                rintro e w5 ⟨F4, rfl, hP5, hF5, ho5⟩
                have HST6 : Hid (UseSt PB w w5 p F4 (hSweep hs3).2 (.slice (some ⟨gt, 0, none⟩) log.length ct) (.slice (some ⟨gi, 0, none⟩) log.length ci) log log) := HST5.out.prog hP5 hF5 ho5
                clear hP5 hF5 ho5 HSW HST5
                have HGET := HS.out.get (xp, xl) p F4 (hSweep hs3).2 w5 HWX.out HOK4.out (HS.out.stable HE.out HST6.out.below) HST6.out.pb
                obtain ⟨hs4, hh4⟩ : ∃ hs4, (hSweep hs3).2 = hs4 := ⟨_, rfl⟩
                rw [hh4] at HGET HST6 HOK4 HD1
                clear hh4
                obtain ⟨c0, c1, c2⟩ := HEL.out _ _ _ HST6.out
                cases lb with
                | true =>
                  have HG4 : Hid (∃ t0, hGet hs4 (xp, xl) = (t0, 0)) := by
                    obtain ⟨r, hr, a1, _, a3⟩ := hlb.out.1 rfl
                    refine ⟨log[r], ?_⟩
                    rw [← a3]
                    exact HD1.out.get HOK4.out (List.mem_drop_iff_getElem.2 ⟨r - (k + 1), by omega, by congr 1; omega⟩)
                  obtain ⟨t0, hg4⟩ := HG4.out
                  rw [hg4] at HGET
                  have HGE := hide HGET
                  clear HGET hg4 HG4
                  go_wp2_with fail
                  refine HGE.out.mono ?_
                  rintro e w7 ⟨ev, rfl, hev, hb7⟩
                  have hn := hev.nil
                  subst hn
                  have HST7 := hide (HST6.out.next HS.out hb7)
                  clear hev hb7 c0 c1 c2
                  go_wp2_with fail
                  go_roundw
                  case rel => exact ⟨k + 1, by omega, by go_num, hs4, F4, HST7.out, HOK4.out, HD1.out⟩
                  case measure => simp [intOf]; omega
                | false =>
                  have HG4 : Hid (hGet hs4 (xp, xl) = ([], 5)) := HD1.out.miss HOK4.out fun t0 ht0 e => by
                    obtain ⟨r, hr, rfl⟩ := List.mem_drop_iff_getElem.1 ht0
                    exact absurd (hlb.out.2 ⟨k + 1 + r, by omega, by omega, by omega, e⟩) (by decide)
                  rw [HG4.out] at HGET
                  have HGE := hide HGET
                  clear HGET HG4
                  go_wp2_with fail
                  refine HGE.out.mono ?_
                  rintro e w7 ⟨ev, rfl, hev, hb7⟩
                  have HEN : Hid (∃ ty x, ev = .iface ty x) := by
                    rcases hev with ⟨_, hf⟩ | ⟨k, _, hv, _⟩ | ⟨k, pb, po, at0, _, _, hv, _⟩
                    · exact absurd (congrArg Prod.fst hf) (by decide)
                    · exact ⟨_, _, hv⟩
                    · exact ⟨_, _, hv⟩
                  obtain ⟨ty, x, rfl⟩ := HEN.out
                  have HST7 := hide (HST6.out.next HS.out hb7)
                  clear hev hb7 HEN c0 c1 c2
                  go_wp2_with fail
                  go_roundw
                  case rel => exact ⟨k + 1, by omega, by go_num, hs4, F4, HST7.out, HOK4.out, HD1.out⟩
                  case measure => simp [intOf]; omega
          · have hkl : k = log.length := by omega
            subst hkl
            rw [List.drop_length] at hlg
            have hz := hlg.none
            subst hz
            clear hlg
            have HSZ := hide (HS.out.size p F2 [] wr HOK.out (HS.out.stable HE.out HST.out.below) HST.out.pb)
            go_wp2_with fail
            refine HSZ.out.mono ?_
            rintro e w3 ⟨rfl, hb3⟩
            have HST3 : Hid (UseSt PB w w3 p F2 [] (.slice pt log.length ct) (.slice pi log.length ci) log log) := HST.out.next HS.out hb3
            have hz0 : hSize [] = 0 := rfl
            rw [hz0]
            have HAL := hide (HS.out.all p F2 [] w3 HOK.out (HS.out.stable HE.out HST3.out.below) HST3.out.pb)
            clear hb3 HSZ HST
            go_wp2_with fail
            refine HAL.out.mono ?_
            rintro e w4 ⟨vz, rfl, hvz, hb4⟩
            have HST4 : Hid (UseSt PB w w4 p F2 [] (.slice pt log.length ct) (.slice pi log.length ci) log log) := HST3.out.next HS.out hb4
            obtain ⟨pz, cz, rfl, _⟩ := hvz
            clear hb4 HAL HST3
            go_wp2_with fail
            go_ret
            exact ⟨rfl, HST4.out.below⟩
end Go.Proofs.YtmjdgakokldliaaDoor
