/-
  Own text. BinActs over what package bin is to answer: it returns true; no old memory turns.
-/
import Derived.Test.YtmjdgakokldliaaDoorBinned
import Derived.Test.YtmjdgakokldliaaDoorActsMem
import Derived.Test.YtmjdgakokldliaaDoorBinRef
namespace Go.Proofs.YtmjdgakokldliaaDoor
open Go.RowKit

theorem ErrIn.off {base : Nat} {w w' : World} {a : Nat → Addr} {v : Value} {f : Int × Int} {G : Nat → Prop} (h : ErrIn base w a v f) (ho : Off G w w') (hG : ∀ k, base ≤ k → ¬ G k) : ErrIn base w' a v f := by
  rcases h with h | h | ⟨k, pb, po, at0, hk, hl, hv, h0, h1, hf⟩
  · exact .inl h
  · exact .inr (.inl h)
  · have e : ∀ j, w'.cell? ⟨pb, j, none⟩ = w.cell? ⟨pb, j, none⟩ := fun j => World.cell?_of_block (w := w) (ho.block pb (lt_of_cell h0) (hG pb hl))
    exact .inr (.inr ⟨k, pb, po, at0, hk, hl, hv, (e _).trans h0, (e _).trans h1, hf⟩)
theorem ErrIn.some {base : Nat} {w : World} {a : Nat → Addr} {v : Value} {c x : Int} (h : ErrIn base w a v (c, x)) (hc : c ≠ 0) : ∃ t q, v = .iface t (.pointer q) := by
  rcases h with ⟨_, hf⟩ | ⟨k, _, hv, _⟩ | ⟨k, pb, po, at0, _, _, hv, _⟩
  · exact (hc (Prod.mk.inj hf).1).elim
  · exact ⟨_, _, hv⟩
  · exact ⟨_, _, hv⟩
theorem str_ne {s t : ByteArray} (h : s ≠ t) : (s.toList == t.toList) = false := by
  rw [ByteArray.toList_eq, ByteArray.toList_eq, beq_eq_false_iff_ne]
  exact fun e => h (WideShapes.bytes_inj e)

theorem str_ne_lit {s : ByteArray} {l : List UInt8} (h : s ≠ ⟨l.toArray⟩) : (s.toList == l) = false := by
  rw [ByteArray.toList_eq, beq_eq_false_iff_ne]
  exact fun e => h (WideShapes.bytes_inj (by rw [e]))
theorem TwoBins.start {a : Nat → Addr} {Env : World → Prop} {PB : PBin} (S : BinSpec a Env PB) {w w2 : World} {p : Addr} {F : Nat → Prop} (hb : Below w.heap.size w w2) (hP : PB w2 p F []) (hF : ∀ k, F k → w.heap.size ≤ k) :
    TwoBins PB w (w2.alloc (.cells #[.slice none 0 0] 72)) p F [] w2.heap.size (.slice none 0 0) [] := by
  have hal := (Below.refl w2.heap.size w2).alloc (Nat.le_refl _) (.cells #[.slice none 0 0] 72)
  have hO : ∀ k, RBin.Of w2.heap.size (.slice none 0 0) k → k = w2.heap.size := fun k hr => by
    rcases hr with h | h
    · exact h
    · exact absurd h (by simp [Value.ownBlock])
  refine ⟨hb.trans (hal.mono hb.size), S.below hP hal, ⟨Blk.new w2 _ _, World.ownsRow_nil _ _ _ _⟩, fun k hk hr => ?_, hF, fun k hr => ?_⟩
  · have h1 := S.lt hP k hk
    have h2 := hO k hr
    omega
  · have h2 := hO k hr
    have := hb.size
    omega
/- A block beside the two bins. -/
structure Beside (F : Nat → Prop) (B : Nat) (v : Value) (W : World) (A : Nat) (cs : Array Value) (t : TypeId) : Prop where
  blk : Blk W A cs t
  noF : ¬ F A
  noR : ¬ RBin.Of B v A

def ActsI (PB : PBin) (w : World) (p : Addr) (B : Nat) (j : Nat) (W : World) : Prop := ∃ l F v, TwoBins PB w W p F l B v l ∧ BinOk j l

set_option maxRecDepth 100000 in
set_option maxHeartbeats 8000000 in
theorem binActs_any {a : Nat → Addr} {Env : World → Prop} {PB : PBin} (S : BinSpec a Env PB) (hErr : ∀ {w : World}, Env w → ErrW w a) (va : Value) (l : List Act4) (w : World) (hE : Env w) (hv : ActsAt w va l) (hwf : ∀ i (h : i < l.length), WfID l[i].2.2) :
    Calls Tryd.prog 7 #[va] w fun e w' => e = .returned (.bool true) ∧ Below w.heap.size w w' := by
  have HS : Hid (BinSpec a Env PB) := S
  have HERR : Hid (∀ w, Env w → ErrW w a) := fun _ h => hErr h
  have HE : Hid (Env w) := hE
  have HV : Hid (ActsAt w va l) := hv
  have HWFS : Hid (∀ i (h : i < l.length), WfID l[i].2.2) := hwf
  obtain ⟨pa, ca, rfl, _⟩ := hv
  clear S hErr hE hwf
  go_enter Tryd.func7, Tryd.ntmps7
  go_wp2_with fail
  refine (binned_any HS.out w HE.out).mono ?_
  rintro e w1 ⟨rfl, hb1⟩
  have HB1 : Hid (Below w.heap.size w w1) := hb1
  clear hb1
  go_wp2_with fail
  refine (longActs_any _ l w1 (HV.out.below HB1.out)).mono ?_
  rintro e w1' ⟨b, rfl, rfl, hlong⟩
  cases b with
  | true =>
    clear hlong
    go_wp2_with fail
    go_ret
    exact ⟨rfl, HB1.out⟩
  | false =>
    obtain ⟨hl80, hlen⟩ := hlong rfl
    have HLEN : Hid (∀ i (h : i < l.length), l[i].1.size ≤ 20 ∧ l[i].2.1.size ≤ 100) := hlen
    have HL80 : Hid (l.length ≤ 80) := hl80
    have hl2 : (l.length : Int) ≤ 80 := by omega
    have HE1 : Hid (Env w1') := HS.out.stable HE.out HB1.out
    clear hlen hlong hl80
    go_wp2_with fail
    refine (HS.out.new w1' HE1.out).mono ?_
    rintro e w2 ⟨p, F, rfl, hP2, hF2, hb2⟩
    have hB2 : Below w.heap.size w w2 := HB1.out.trans (hb2.mono HB1.out.size)
    have HT0 : Hid (TwoBins PB w (w2.alloc (.cells #[.slice none 0 0] 72)) p F [] w2.heap.size (.slice none 0 0) []) := TwoBins.start HS.out hB2 hP2 (fun k hk => Nat.le_trans HB1.out.size (hF2 k hk))
    clear hP2 hF2 hb2 hB2 HB1 HE1
    go_wp2_with fail
    generalize w2.heap.size = B at *
    go_loopw [6] (fun i wr => ∃ j : Nat, j ≤ l.length ∧ i = .int .i64 j ∧ ActsI PB w p B j wr) (fun i _ => l.length - (intOf i).toNat)
    case atStart => exact ⟨0, Nat.zero_le _, rfl, [], F, .slice none 0 0, HT0.out, BinOk.nil _⟩
    case round =>
      clear HT0
      obtain ⟨j, hj, rfl, hs, F', v', hT, hok⟩ := hrel
      have HT : Hid (TwoBins PB w wr p F' hs B v' hs) := hT
      have HOK : Hid (BinOk j hs) := hok
      clear hT hok
      by_cases hlt : j < l.length
      · have hlt' : (j : Int) < (l.length : Int) := by omega
        obtain ⟨_, _, hve, hcell⟩ := HV.out.below HT.out.below
        obtain ⟨rfl, rfl⟩ : pa = _ ∧ ca = _ := by simpa using hve
        obtain ⟨b, o, rfl, _, c0, c1, c2, c3⟩ := hcell j hlt
        obtain ⟨z1, z2⟩ := HLEN.out j hlt
        have hwfj := HWFS.out j hlt
        have HJ80 : Hid (j < 80) := by show _ < _; have := HL80.out; omega
        obtain ⟨y, hy⟩ : ∃ y, l[j] = y := ⟨_, rfl⟩
        rw [hy] at c0 c1 c2 c3 z1 z2 hwfj
        clear hy hcell hve
        obtain ⟨kd, tx, xp, xl⟩ := y
        simp only at c0 c1 c2 c3 z1 z2 hwfj
        have HWFX : Hid (WfID (xp, xl)) := hwfj
        clear hwfj
        have HTX : Hid (tx.size ≤ 100) := z2
        clear z1 z2
        by_cases k1 : kd = ⟨#[112, 117, 116]⟩
        · subst k1
          have hal := (Below.refl wr.heap.size wr).alloc (Nat.le_refl _) (.cells #[.string ⟨#[112, 117, 116]⟩, .string tx, .int .u32 (xp : Nat), .int .i64 xl] 57)
          have hTa := HT.out.next HS.out hal
          have hA := Blk.new wr #[.string ⟨#[112, 117, 116]⟩, .string tx, .int .u32 (xp : Nat), .int .i64 xl] 57
          have HNA : Hid (∀ k, (F' k ∨ RBin.Of B v' k) → k ≠ wr.heap.size) := fun k hk e => by
            rcases hk with hk | hk
            · have := HS.out.lt HT.out.pb k hk; omega
            · have := HT.out.rb.lt hk; omega
          obtain ⟨r, hr⟩ : ∃ r, hPut hs tx.data.toList = r := ⟨_, rfl⟩
          have HRO : Hid (BinOk ((j : Int) + 1) r.2) := by rw [← hr]; exact hPut_ok HOK.out _ (by omega)
          have HOKM : Hid (BinOk 1000000 hs) := HOK.out.mono (by have := HJ80.out; omega)
          have HRM : Hid (BinOk 1000000 r.2) := HRO.out.mono (by have := HJ80.out; omega)
          have HPUT := HS.out.put tx p F' hs _ (by have := HTX.out; omega) HOKM.out (HS.out.stable HE.out hTa.below) hTa.pb
          have HRPUT := fun W v (h : RBin W B v hs) => rPut_any B v hs tx W HOKM.out.many (HOKM.out.uses (Int.le_refl _)) h
          rw [hr] at HPUT HRPUT
          obtain ⟨⟨⟨rp, rl⟩, rn, rc⟩, hs'⟩ := r
          simp only at HPUT HRPUT HRO HRM
          have HPU : Hid (Calls Tryd.prog 30 #[.pointer (some p), .string tx] (wr.alloc (.cells #[.string ⟨#[112, 117, 116]⟩, .string tx, .int .u32 (xp : Nat), .int .i64 xl] 57)) fun e w' => ∃ ev F'', e = .returned (.tuple #[idV (rp : Nat) rl, .bool rn, ev]) ∧ ErrIn (wr.alloc (.cells #[.string ⟨#[112, 117, 116]⟩, .string tx, .int .u32 (xp : Nat), .int .i64 xl] 57)).heap.size w' a ev (rc, -1) ∧ PB w' p F'' hs' ∧ (∀ k, F'' k → F' k ∨ (wr.alloc (.cells #[.string ⟨#[112, 117, 116]⟩, .string tx, .int .u32 (xp : Nat), .int .i64 xl] 57)).heap.size ≤ k) ∧ Off F' (wr.alloc (.cells #[.string ⟨#[112, 117, 116]⟩, .string tx, .int .u32 (xp : Nat), .int .i64 xl] 57)) w') := HPUT
          have HRP : Hid (∀ W v, RBin W B v hs → Calls Tryd.prog 38 #[.pointer (some ⟨B, 0, none⟩), .string tx] W (PutPost W B v (((rp, rl), rn, rc), hs'))) := HRPUT
          have HTa : Hid (TwoBins PB w (wr.alloc (.cells #[.string ⟨#[112, 117, 116]⟩, .string tx, .int .u32 (xp : Nat), .int .i64 xl] 57)) p F' hs B v' hs) := hTa
          have HA : Hid (Blk (wr.alloc (.cells #[.string ⟨#[112, 117, 116]⟩, .string tx, .int .u32 (xp : Nat), .int .i64 xl] 57)) wr.heap.size #[.string ⟨#[112, 117, 116]⟩, .string tx, .int .u32 (xp : Nat), .int .i64 xl] 57) := hA
          have HZa : Hid (∀ k, (wr.alloc (.cells #[.string ⟨#[112, 117, 116]⟩, .string tx, .int .u32 (xp : Nat), .int .i64 xl] 57)).heap.size ≤ k → ¬ RBin.Of B v' k) := fun k hk hr => by have := hTa.rb.lt hr; omega
          clear HPUT HRPUT hal hTa hA hr
          go_wp2_with fail
          generalize wr.heap.size = A at *
          obtain ⟨Wa, hWa⟩ : ∃ Wa, wr.alloc (.cells #[.string ⟨#[112, 117, 116]⟩, .string tx, .int .u32 (xp : Nat), .int .i64 xl] 57) = Wa := ⟨_, rfl⟩
          rw [hWa] at HPU HTa HA HZa ⊢
          clear hWa c0 c1 c2 c3 HT HOK
          refine HPU.out.mono ?_
          rintro e w3 ⟨ev, F3, rfl, he3, hP3, hF3, ho3⟩
          have hT3 := HTa.out.prog hP3 hF3 ho3
          have hA3 := ho3.blk HA.out (fun h => HNA.out A (.inl h) rfl)
          have hal := (Below.refl w3.heap.size w3).alloc (Nat.le_refl _) (.cells #[.int .u32 (rp : Nat), .int .i64 rl] 37)
          have HT4 : Hid (TwoBins PB w (w3.alloc (.cells #[.int .u32 (rp : Nat), .int .i64 rl] 37)) p F3 hs' B v' hs) := hT3.next HS.out hal
          have HA4 : Hid (Blk (w3.alloc (.cells #[.int .u32 (rp : Nat), .int .i64 rl] 37)) A #[.string ⟨#[112, 117, 116]⟩, .string tx, .int .u32 (xp : Nat), .int .i64 xl] 57) := hA3.next hal
          have HI4 : Hid (Blk (w3.alloc (.cells #[.int .u32 (rp : Nat), .int .i64 rl] 37)) w3.heap.size #[.int .u32 (rp : Nat), .int .i64 rl] 37) := Blk.new _ _ _
          have HNI : Hid (∀ k, RBin.Of B v' k → k ≠ w3.heap.size) := fun k hk e => by have := hT3.rb.lt hk; omega
          have HE4 : Hid (ErrIn Wa.heap.size (w3.alloc (.cells #[.int .u32 (rp : Nat), .int .i64 rl] 37)) a ev (rc, -1)) := he3.below hal
          have a1 := HA4.out.cell (i := 1) rfl
          clear hP3 hF3 ho3 hT3 hA3 hal he3 HPU HTa HA
          go_wp2_with fail
          generalize w3.heap.size = I1 at *
          refine (HRP.out _ _ HT4.out.rb).mono ?_
          rintro e w5 ⟨v5, rfl, hR5, hv5, ho5⟩
          have hT5 := HT4.out.doc HS.out hR5 hv5 ho5
          have hI5 := ho5.blk HI4.out (fun h => HNI.out I1 h rfl)
          have he5 := HE4.out.off ho5 HZa.out
          have hal := (Below.refl w5.heap.size w5).alloc (Nat.le_refl _) (.cells #[.int .u32 (rp : Nat), .int .i64 rl] 37)
          have HT6 : Hid (TwoBins PB w (w5.alloc (.cells #[.int .u32 (rp : Nat), .int .i64 rl] 37)) p F3 hs' B v5 hs') := hT5.next HS.out hal
          have HI6 : Hid (Blk (w5.alloc (.cells #[.int .u32 (rp : Nat), .int .i64 rl] 37)) I1 #[.int .u32 (rp : Nat), .int .i64 rl] 37) := hI5.next hal
          have HK6 : Hid (Blk (w5.alloc (.cells #[.int .u32 (rp : Nat), .int .i64 rl] 37)) w5.heap.size #[.int .u32 (rp : Nat), .int .i64 rl] 37) := Blk.new _ _ _
          have HE6 : Hid (ErrIs (w5.alloc (.cells #[.int .u32 (rp : Nat), .int .i64 rl] 37)) a ev (rc, -1)) := (he5.below hal).at
          clear hR5 hv5 ho5 hT5 hI5 he5 hal HT4 HA4 HI4 HNI HE4 HRP a1 HZa HNA
          go_wp2_with fail
          generalize w5.heap.size = I2 at *
          obtain ⟨W6, hW6⟩ : ∃ W6, w5.alloc (.cells #[.int .u32 (rp : Nat), .int .i64 rl] 37) = W6 := ⟨_, rfl⟩
          rw [hW6] at HT6 HI6 HK6 HE6 ⊢
          clear hW6
          refine (coded_is a ev rc W6 (HERR.out _ (HS.out.stable HE.out HT6.out.below)) HE6.out).mono ?_
          rintro e w7 ⟨rfl, hb7⟩
          have HT7 : Hid (TwoBins PB w w7 p F3 hs' B v5 hs') := HT6.out.next HS.out hb7
          have i0 := (HI6.out.next hb7).cell (i := 0) rfl
          have i1 := (HI6.out.next hb7).cell (i := 1) rfl
          have j0 := (HK6.out.next hb7).cell (i := 0) rfl
          have j1 := (HK6.out.next hb7).cell (i := 1) rfl
          clear HT6 HI6 HK6 HE6 hb7
          go_wp2_with (first
            | (go_at_call 37; refine (HS.out.size p F3 hs' w7 HRM.out (HS.out.stable HE.out HT7.out.below) HT7.out.pb).mono ?_; rintro e w8 ⟨rfl, hb8⟩; have HT8 : Hid (TwoBins PB w w8 p F3 hs' B v5 hs') := HT7.out.next HS.out hb8; clear hb8)
            | (go_at_call 42; refine (rSize_any B v5 hs' w8 HRM.out.many HRM.out.lens HT8.out.rb).mono ?_; rintro e w9 ⟨rfl, rfl⟩; have HT9 : Hid (TwoBins PB w w9 p F3 hs' B v5 hs') := HT8.out))
          go_roundw
          case rel => exact ⟨j + 1, by omega, by go_num, hs', F3, v5, HT9.out, HRO.out⟩
          case measure => simp [intOf]; omega
        · have k1' := str_ne k1
          by_cases k2 : kd = ⟨#[100, 114, 111, 112]⟩
          · subst k2
            clear k1 k1'
            have hal := (Below.refl wr.heap.size wr).alloc (Nat.le_refl _) (.cells #[.string ⟨#[100, 114, 111, 112]⟩, .string tx, .int .u32 (xp : Nat), .int .i64 xl] 57)
            have HTa : Hid (TwoBins PB w (wr.alloc (.cells #[.string ⟨#[100, 114, 111, 112]⟩, .string tx, .int .u32 (xp : Nat), .int .i64 xl] 57)) p F' hs B v' hs) := HT.out.next HS.out hal
            have HA : Hid (Blk (wr.alloc (.cells #[.string ⟨#[100, 114, 111, 112]⟩, .string tx, .int .u32 (xp : Nat), .int .i64 xl] 57)) wr.heap.size #[.string ⟨#[100, 114, 111, 112]⟩, .string tx, .int .u32 (xp : Nat), .int .i64 xl] 57) := Blk.new wr _ _
            have HNA : Hid (∀ k, (F' k ∨ RBin.Of B v' k) → k ≠ wr.heap.size) := fun k hk e => by
              rcases hk with hk | hk
              · have := HS.out.lt HT.out.pb k hk; omega
              · have := HT.out.rb.lt hk; omega
            have HOKM : Hid (BinOk 1000000 hs) := HOK.out.mono (by have := HJ80.out; omega)
            have HZa : Hid (∀ k, (wr.alloc (.cells #[.string ⟨#[100, 114, 111, 112]⟩, .string tx, .int .u32 (xp : Nat), .int .i64 xl] 57)).heap.size ≤ k → ¬ RBin.Of B v' k) := fun k hk hr => by have := HTa.out.rb.lt hr; omega
            clear hal
            obtain ⟨r, hr⟩ : ∃ r, hDrop hs (xp, xl) = r := ⟨_, rfl⟩
            have HRO : Hid (BinOk ((j : Int) + 1) r.2) := by rw [← hr]; exact (hDrop_ok HOK.out _).mono (by omega)
            have HRM : Hid (BinOk 1000000 r.2) := HRO.out.mono (by have := HJ80.out; omega)
            have HDP := fun W F (hE : Env W) (h : PB W p F hs) => HS.out.drop (xp, xl) p F hs W HWFX.out HOKM.out hE h
            have HDR := fun W v (h : RBin W B v hs) => rDrop_any B v hs (xp, xl) W (by have := HOKM.out.many; unfold maxLen; omega) (HOKM.out.uses (by decide)) h
            rw [hr] at HDP HDR
            obtain ⟨rc, hs'⟩ := r
            simp only at HDP HDR HRO HRM
            have HD1 : Hid (∀ W F, Env W → PB W p F hs → Calls Tryd.prog 36 #[.pointer (some p), idV (xp : Nat) xl] W fun e w' => ∃ ev F', e = .returned ev ∧ ErrIn W.heap.size w' a ev (rc, -1) ∧ PB w' p F' hs' ∧ (∀ k, F' k → F k ∨ W.heap.size ≤ k) ∧ Off F W w') := HDP
            have HD2 : Hid (∀ W v, RBin W B v hs → Calls Tryd.prog 39 #[.pointer (some ⟨B, 0, none⟩), idV (xp : Nat) xl] W fun e w' => e = .returned (.int .i64 rc) ∧ RBin w' B v hs' ∧ Off (RBin.Of B v) W w') := HDR
            clear HDP HDR hr
            go_wp2_with fail
            generalize wr.heap.size = A at *
            obtain ⟨Wa, hWa⟩ : ∃ Wa, (wr.alloc (.cells #[.string ⟨#[100, 114, 111, 112]⟩, .string tx, .int .u32 (xp : Nat), .int .i64 xl] 57)) = Wa := ⟨_, rfl⟩
            rw [hWa] at HTa HA HZa ⊢
            clear hWa c0 c1 c2 c3 HT
            have a2 := HA.out.cell (i := 2) rfl
            have a3 := HA.out.cell (i := 3) rfl
            go_region_held3 (fun w' => w'.cell? ⟨A, 2, none⟩ = some (.int .u32 (xp : Nat)) ∧ w'.cell? ⟨A, 3, none⟩ = some (.int .i64 xl)) (go_keep) (first
              | (go_at_call 36; have hTd := HTa.out.next HS.out (Below.refl Wa.heap.size Wa).drew; refine (HD1.out _ F' (HS.out.stable HE.out hTd.below) hTd.pb).mono ?_; rintro e w3 ⟨ev, F3, rfl, he3, hP3, hF3, ho3⟩; have HT3 : Hid (TwoBins PB w w3 p F3 hs' B v' hs) := hTd.prog hP3 hF3 ho3; have HA3 : Hid (Blk w3 A #[.string ⟨#[100, 114, 111, 112]⟩, .string tx, .int .u32 (xp : Nat), .int .i64 xl] 57) := ho3.blk (HA.out.next (Below.refl Wa.heap.size Wa).drew) (fun h => HNA.out A (.inl h) rfl); have HE3 : Hid (ErrIn Wa.heap.size w3 a ev (rc, -1)) := he3; have b2 := HA3.out.cell (i := 2) rfl; have b3 := HA3.out.cell (i := 3) rfl; clear hTd he3 hP3 hF3 ho3)
              | (go_at_call 39; refine (HD2.out _ v' HT3.out.rb).mono ?_; rintro e w5 ⟨rfl, hR5, ho5⟩; have HT5 : Hid (TwoBins PB w w5 p F3 hs' B v' hs') := HT3.out.doc HS.out hR5 (fun k hk => .inl hk) ho5; have HE5 : Hid (ErrIs w5 a ev (rc, -1)) := (HE3.out.off ho5 HZa.out).at; have HA5 : Hid (Blk w5 A #[.string ⟨#[100, 114, 111, 112]⟩, .string tx, .int .u32 (xp : Nat), .int .i64 xl] 57) := ho5.blk HA3.out (fun h => HNA.out A (.inr h) rfl); have d2 := HA5.out.cell (i := 2) rfl; have d3 := HA5.out.cell (i := 3) rfl; clear hR5 ho5)
              | (go_at_call 11; refine (coded_is a ev rc w5 (HERR.out _ (HS.out.stable HE.out HT5.out.below)) HE5.out).mono ?_; rintro e w7 ⟨rfl, hb7⟩; have HT7 : Hid (TwoBins PB w w7 p F3 hs' B v' hs') := HT5.out.next HS.out hb7; have f2 := (HA5.out.next hb7).cell (i := 2) rfl; have f3 := (HA5.out.next hb7).cell (i := 3) rfl; clear hb7))
            go_wp2_with (first
              | (go_at_call 37; refine (HS.out.size p F3 hs' w7 HRM.out (HS.out.stable HE.out HT7.out.below) HT7.out.pb).mono ?_; rintro e w8 ⟨rfl, hb8⟩; have HT8 : Hid (TwoBins PB w w8 p F3 hs' B v' hs') := HT7.out.next HS.out hb8; clear hb8)
              | (go_at_call 42; refine (rSize_any B v' hs' w8 HRM.out.many HRM.out.lens HT8.out.rb).mono ?_; rintro e w9 ⟨rfl, rfl⟩; have HT9 : Hid (TwoBins PB w w9 p F3 hs' B v' hs') := HT8.out))
            go_roundw
            case rel => exact ⟨j + 1, by omega, by go_num, hs', F3, v', HT9.out, HRO.out⟩
            case measure => simp [intOf]; omega
          · have k2' := str_ne k2
            by_cases k3 : kd = ⟨#[115, 119, 101, 101, 112]⟩
            · subst k3
              clear k1 k1' k2 k2'
              have hal := (Below.refl wr.heap.size wr).alloc (Nat.le_refl _) (.cells #[.string ⟨#[115, 119, 101, 101, 112]⟩, .string tx, .int .u32 (xp : Nat), .int .i64 xl] 57)
              have HTa : Hid (TwoBins PB w (wr.alloc (.cells #[.string ⟨#[115, 119, 101, 101, 112]⟩, .string tx, .int .u32 (xp : Nat), .int .i64 xl] 57)) p F' hs B v' hs) := HT.out.next HS.out hal
              have HA : Hid (Blk (wr.alloc (.cells #[.string ⟨#[115, 119, 101, 101, 112]⟩, .string tx, .int .u32 (xp : Nat), .int .i64 xl] 57)) wr.heap.size #[.string ⟨#[115, 119, 101, 101, 112]⟩, .string tx, .int .u32 (xp : Nat), .int .i64 xl] 57) := Blk.new wr _ _
              have HOKM : Hid (BinOk 1000000 hs) := HOK.out.mono (by have := HJ80.out; omega)
              clear hal
              obtain ⟨r, hr⟩ : ∃ r, hSweep hs = r := ⟨_, rfl⟩
              have HRO : Hid (BinOk ((j : Int) + 1) r.2) := by rw [← hr]; exact (hSweep_ok HOK.out).mono (by omega)
              have HRM : Hid (BinOk 1000000 r.2) := HRO.out.mono (by have := HJ80.out; omega)
              have HDP := fun W F (hE : Env W) (h : PB W p F hs) => HS.out.sweep p F hs W HOKM.out hE h
              have HDR := fun W v (h : RBin W B v hs) => rSweep_any B v hs W HOKM.out.many HOKM.out.lens h
              rw [hr] at HDP HDR
              obtain ⟨rc, hs'⟩ := r
              simp only at HDP HDR HRO HRM
              have HD1 : Hid (∀ W F, Env W → PB W p F hs → Calls Tryd.prog 29 #[.pointer (some p)] W fun e w' => ∃ F', e = .returned (.int .i64 rc) ∧ PB w' p F' hs' ∧ (∀ k, F' k → F k ∨ W.heap.size ≤ k) ∧ Off F W w') := HDP
              have HD2 : Hid (∀ W v, RBin W B v hs → Calls Tryd.prog 40 #[.pointer (some ⟨B, 0, none⟩)] W fun e w' => ∃ v', e = .returned (.int .i64 rc) ∧ RBin w' B v' hs' ∧ (∀ k, v'.ownBlock = some k → W.heap.size ≤ k) ∧ Off (RBin.Of B v) W w') := HDR
              clear HDP HDR hr
              go_wp2_with fail
              generalize wr.heap.size = A at *
              obtain ⟨Wa, hWa⟩ : ∃ Wa, (wr.alloc (.cells #[.string ⟨#[115, 119, 101, 101, 112]⟩, .string tx, .int .u32 (xp : Nat), .int .i64 xl] 57)) = Wa := ⟨_, rfl⟩
              rw [hWa] at HTa HA ⊢
              clear hWa c0 c1 c2 c3 HT
              refine (HD1.out _ F' (HS.out.stable HE.out HTa.out.below) HTa.out.pb).mono ?_
              rintro e w3 ⟨F3, rfl, hP3, hF3, ho3⟩
              have HT3 : Hid (TwoBins PB w w3 p F3 hs' B v' hs) := HTa.out.prog hP3 hF3 ho3
              clear hP3 hF3 ho3
              go_wp2_with fail
              refine (HD2.out _ v' HT3.out.rb).mono ?_
              rintro e w7 ⟨v5, rfl, hR5, hv5, ho5⟩
              have HT7 : Hid (TwoBins PB w w7 p F3 hs' B v5 hs') := HT3.out.doc HS.out hR5 (fun k hk => .inr (hv5 k hk)) ho5
              clear hR5 hv5 ho5
              go_wp2_with (first
                | (go_at_call 37; refine (HS.out.size p F3 hs' w7 HRM.out (HS.out.stable HE.out HT7.out.below) HT7.out.pb).mono ?_; rintro e w8 ⟨rfl, hb8⟩; have HT8 : Hid (TwoBins PB w w8 p F3 hs' B v5 hs') := HT7.out.next HS.out hb8; clear hb8)
                | (go_at_call 42; refine (rSize_any B v5 hs' w8 HRM.out.many HRM.out.lens HT8.out.rb).mono ?_; rintro e w9 ⟨rfl, rfl⟩; have HT9 : Hid (TwoBins PB w w9 p F3 hs' B v5 hs') := HT8.out))
              go_roundw
              case rel => exact ⟨j + 1, by omega, by go_num, hs', F3, v5, HT9.out, HRO.out⟩
              case measure => simp [intOf]; omega
            · have k3' := str_ne k3
              have n1 : (kd.toList == [112, 117, 116]) = false := str_ne_lit k1
              have n2 : (kd.toList == [100, 114, 111, 112]) = false := str_ne_lit k2
              have n3 : (kd.toList == [115, 119, 101, 101, 112]) = false := str_ne_lit k3
              clear k1 k2 k3
              have hal := (Below.refl wr.heap.size wr).alloc (Nat.le_refl _) (.cells #[.string kd, .string tx, .int .u32 (xp : Nat), .int .i64 xl] 57)
              have HTa : Hid (TwoBins PB w (wr.alloc (.cells #[.string kd, .string tx, .int .u32 (xp : Nat), .int .i64 xl] 57)) p F' hs B v' hs) := HT.out.next HS.out hal
              have HA : Hid (Blk (wr.alloc (.cells #[.string kd, .string tx, .int .u32 (xp : Nat), .int .i64 xl] 57)) wr.heap.size #[.string kd, .string tx, .int .u32 (xp : Nat), .int .i64 xl] 57) := Blk.new wr _ _
              have HOKM : Hid (BinOk 1000000 hs) := HOK.out.mono (by have := HJ80.out; omega)
              clear hal
              have HRO : Hid (BinOk ((j : Int) + 1) hs) := HOK.out.mono (by omega)
              have HRM : Hid (BinOk 1000000 hs) := HOKM.out
              go_wp2_with fail
              generalize wr.heap.size = A at *
              obtain ⟨Wa, hWa⟩ : ∃ Wa, (wr.alloc (.cells #[.string kd, .string tx, .int .u32 (xp : Nat), .int .i64 xl] 57)) = Wa := ⟨_, rfl⟩
              rw [hWa] at HTa HA ⊢
              clear hWa c0 c1 c2 c3 HT
              refine (HS.out.get (xp, xl) p F' hs Wa HWFX.out HOKM.out (HS.out.stable HE.out HTa.out.below) HTa.out.pb).mono ?_
              rintro e w3 ⟨ev, rfl, he3, hb3⟩
              have HT3 : Hid (TwoBins PB w w3 p F' hs B v' hs) := HTa.out.next HS.out hb3
              have HA3 : Hid (Blk w3 A #[.string kd, .string tx, .int .u32 (xp : Nat), .int .i64 xl] 57) := HA.out.next hb3
              have a2 := HA3.out.cell (i := 2) rfl
              have a3 := HA3.out.cell (i := 3) rfl
              have HZ5 : Hid (∀ W', Below w3.heap.size w3 W' → ErrIs W' a ev ((hGet hs (xp, xl)).2, -1)) := fun W' hb => (he3.below hb).at
              cases hf : hFind hs (xp, xl) with
              | some k =>
                obtain ⟨hk, _⟩ := hFind_some hf
                have HG : Hid (hGet hs (xp, xl) = (hs[k].2.2, 0)) := by show _ = _; unfold hGet; rw [hf]; simp [List.getElem?_eq_getElem hk]
                have HFI : Hid (findI hs (xp, xl) = (k : Int)) := by show _ = _; unfold findI; rw [hf]
                rw [HG.out] at he3
                obtain rfl := he3.nil
                have hk0 : (0 : Int) ≤ (k : Int) := by omega
                have hk' : (k : Int) < (hs.length : Int) := by omega
                have HK : Hid (k < hs.length) := hk
                obtain ⟨t, ht⟩ : ∃ t : ByteArray, (⟨(hs[k]'hk).2.2.toArray⟩ : ByteArray) = t := ⟨_, rfl⟩
                have HTT : Hid ((⟨(hs[k]'hk).2.2.toArray⟩ : ByteArray) = t) := ht
                rw [HG.out]
                simp only
                rw [ht]
                clear ht
                clear hf hb3 he3
                go_wp2_with fail
                refine (rFind_any B v' hs (xp, xl) w3 (by have := HOKM.out.many; unfold maxLen; omega) HT3.out.rb).mono ?_
                rintro e w7 ⟨rfl, hb7⟩
                rw [HFI.out]
                have HT7 : Hid (TwoBins PB w w7 p F' hs B v' hs) := HT3.out.next HS.out hb7
                obtain ⟨g, cap, hv0, _, _, hc⟩ := HT7.out.rb.open (by omega)
                subst hv0
                have q0 := HT7.out.rb.blk.cell (i := 0) rfl
                have q3 := (hc k hk).2.2.2
                have q4 : w7.cell? ⟨g, k * 4 + 3, none⟩ = some (.string t) := q3.trans (by rw [HTT.out])
                clear hc hb7 HG HFI a2 a3 HZ5 q3
                go_wp2_with (first
                  | (go_at_call 37; refine (HS.out.size p F' hs w7 HRM.out (HS.out.stable HE.out HT7.out.below) HT7.out.pb).mono ?_; rintro e w8 ⟨rfl, hb8⟩; have HT8 : Hid (TwoBins PB w w8 p F' hs B (.slice (some ⟨g, 0, none⟩) hs.length cap) hs) := HT7.out.next HS.out hb8; clear hb8)
                  | (go_at_call 42; refine (rSize_any B (.slice (some ⟨g, 0, none⟩) hs.length cap) hs w8 HRM.out.many HRM.out.lens HT8.out.rb).mono ?_; rintro e w9 ⟨rfl, rfl⟩; have HT9 : Hid (TwoBins PB w w9 p F' hs B (.slice (some ⟨g, 0, none⟩) hs.length cap) hs) := HT8.out))
                go_roundw
                case rel => exact ⟨j + 1, by omega, by go_num, hs, F', _, HT9.out, HRO.out⟩
                case measure => simp [intOf]; omega
              | none =>
                have HG : Hid (hGet hs (xp, xl) = ([], 5)) := by show _ = _; unfold hGet; rw [hf]
                have HFI : Hid (findI hs (xp, xl) = -1) := by show _ = _; unfold findI; rw [hf]
                rw [HG.out] at he3 HZ5
                obtain ⟨tv, qv, rfl⟩ := he3.some (by decide)
                rw [HG.out]
                clear hf hb3 he3
                go_wp2_with fail
                refine (rFind_any B v' hs (xp, xl) w3 (by have := HOKM.out.many; unfold maxLen; omega) HT3.out.rb).mono ?_
                rintro e w5 ⟨rfl, hb5⟩
                rw [HFI.out]
                have HT5 : Hid (TwoBins PB w w5 p F' hs B v' hs) := HT3.out.next HS.out hb5
                have HE5 : Hid (ErrIs w5 a (.iface tv (.pointer qv)) (5, -1)) := HZ5.out w5 hb5
                clear hb5 HG HFI a2 a3 HZ5
                go_wp2_with (first
                  | (go_at_call 11; refine (coded_is a _ 5 w5 (HERR.out _ (HS.out.stable HE.out HT5.out.below)) HE5.out).mono ?_; rintro e w7 ⟨rfl, hb7⟩; have HT7 : Hid (TwoBins PB w w7 p F' hs B v' hs) := HT5.out.next HS.out hb7; clear hb7)
                  | (go_at_call 37; refine (HS.out.size p F' hs w7 HRM.out (HS.out.stable HE.out HT7.out.below) HT7.out.pb).mono ?_; rintro e w8 ⟨rfl, hb8⟩; have HT8 : Hid (TwoBins PB w w8 p F' hs B v' hs) := HT7.out.next HS.out hb8; clear hb8)
                  | (go_at_call 42; refine (rSize_any B v' hs w8 HRM.out.many HRM.out.lens HT8.out.rb).mono ?_; rintro e w9 ⟨rfl, rfl⟩; have HT9 : Hid (TwoBins PB w w9 p F' hs B v' hs) := HT8.out))
                go_roundw
                case rel => exact ⟨j + 1, by omega, by go_num, hs, F', v', HT9.out, HRO.out⟩
                case measure => simp [intOf]; omega
      · have hge : ¬ ((j : Int) < (l.length : Int)) := by omega
        have HOKM : Hid (BinOk 1000000 hs) := HOK.out.mono (by have := HL80.out; omega)
        have HN : Hid ((hs.length : Int) ≤ 9223372036854775807) := by show _ ≤ _; have := HOKM.out.many; omega
        obtain ⟨pv, cv, hv0, _⟩ := HT.out.rb.at
        subst hv0
        go_wp2_with fail
        refine (HS.out.copy p F' hs wr HOKM.out (HS.out.stable HE.out HT.out.below) HT.out.pb).mono ?_
        rintro e w3 ⟨p', F3, rfl, hP3, _, hb3⟩
        have HT3 : Hid (TwoBins PB w w3 p F' hs B (.slice pv hs.length cv) hs) := HT.out.next HS.out hb3
        have HP3 : Hid (PB w3 p' F3 hs) := hP3
        have q3 := HT3.out.rb.blk.cell (i := 0) rfl
        clear hP3 hb3 HT
        go_wp2_with fail
        go_region_held3 (fun w' => w'.cell? ⟨B, 0, none⟩ = some (.slice pv hs.length cv)) (go_keep) (first
          | (go_at_call 32; have hd : Below w3.heap.size w3 w3.drew := (Below.refl w3.heap.size w3).drew; have hTd := HT3.out.next HS.out hd; refine (HS.out.all p F' hs _ HOKM.out (HS.out.stable HE.out hTd.below) hTd.pb).mono ?_; rintro e w4 ⟨u4, rfl, hu4, hb4⟩; have HT4 : Hid (TwoBins PB w w4 p F' hs B (.slice pv hs.length cv) hs) := hTd.next HS.out hb4; have HP4 : Hid (PB w4 p' F3 hs) := HS.out.below HP3.out (hd.trans hb4); have HU4 : Hid (HeldsAt w4 u4 hs) := hu4; have q4 := HT4.out.rb.blk.cell (i := 0) rfl; clear hd hTd hu4 hb4 HT3 HP3)
          | (go_at_call 35; have hU := HU4.out; refine (sameHelds_true u4 (.slice pv hs.length cv) hs w4 HN.out hU HT4.out.rb.at).mono ?_; clear hU; rintro e w5 ⟨rfl, hb5⟩; have HT5 : Hid (TwoBins PB w w5 p F' hs B (.slice pv hs.length cv) hs) := HT4.out.next HS.out hb5; have HP5 : Hid (PB w5 p' F3 hs) := HS.out.below HP4.out hb5; have q5 := HT5.out.rb.blk.cell (i := 0) rfl; clear hb5 HU4)
          | (go_at_call 32; refine (HS.out.all p' F3 hs w5 HOKM.out (HS.out.stable HE.out HT5.out.below) HP5.out).mono ?_; rintro e w6 ⟨u6, rfl, hu6, hb6⟩; have HT6 : Hid (TwoBins PB w w6 p F' hs B (.slice pv hs.length cv) hs) := HT5.out.next HS.out hb6; have HU6 : Hid (HeldsAt w6 u6 hs) := hu6; have q6 := HT6.out.rb.blk.cell (i := 0) rfl; clear hu6 hb6)
          | (go_at_call 35; refine (sameHelds_true u6 (.slice pv hs.length cv) hs w6 HN.out HU6.out HT6.out.rb.at).mono ?_; rintro e w7 ⟨rfl, hb7⟩; have HT7 : Hid (TwoBins PB w w7 p F' hs B (.slice pv hs.length cv) hs) := HT6.out.next HS.out hb7; have q7 := HT7.out.rb.blk.cell (i := 0) rfl; clear hb7))
        go_wp2_with fail
        go_ret
        exact ⟨rfl, HT7.out.below⟩
end Go.Proofs.YtmjdgakokldliaaDoor
