/-
  Own text. binned over what package bin is to answer: it returns true; no old memory turns.
-/
import Derived.Test.YtmjdgakokldliaaGreatDoorBinSpec
namespace Go.Proofs.YtmjdgakokldliaaGreatDoor
open Go.RowKit

def hiT : List UInt8 := [104, 105]
theorem hi_put1 : hPut [] hiT = ((idOfL hiT, true, 0), [(idOfL hiT, 1, hiT)]) := by
  simp [hPut, hiT, hFind, hIns, hPlace]
theorem hi_put2 : hPut [(idOfL hiT, 1, hiT)] hiT = ((idOfL hiT, false, 0), [(idOfL hiT, 2, hiT)]) := by
  simp [hPut, hiT, hFind, hUse]
theorem hi_get : hGet [(idOfL hiT, 2, hiT)] (idOfL hiT) = (hiT, 0) := by
  simp [hGet, hFind]
theorem hi_size : hSize [(idOfL hiT, 2, hiT)] = 2 := by
  simp [hSize, idOfL, hiT]
theorem hi_ok1 : BinOk 1000000 [(idOfL hiT, 1, hiT)] := by
  have := hPut_ok (BinOk.nil 0) hiT (Int.le_refl _)
  rw [hi_put1] at this
  exact this.mono (by decide)
theorem hi_ok2 : BinOk 1000000 [(idOfL hiT, 2, hiT)] := by
  have := hPut_ok (hPut_ok (BinOk.nil 0) hiT (Int.le_refl _)) hiT (by decide)
  rw [hi_put1] at this
  simp only [hi_put2] at this
  exact this.mono (by decide)

set_option maxRecDepth 100000 in
set_option maxHeartbeats 4000000 in
theorem binned_any {a : Nat → Addr} {Env : World → Prop} {PB : PBin} (S : BinSpec a Env PB) (w : World) (hE : Env w) :
    Calls Tryz.prog 30 #[] w fun e w' => e = .returned (.bool true) ∧ Below w.heap.size w w' := by
  have HS : Hid (BinSpec a Env PB) := S
  have HE : Hid (Env w) := hE
  clear S hE
  go_enter Tryz.func30, Tryz.ntmps30
  go_wp2_with fail
  refine (HS.out.new w HE.out).mono ?_
  rintro e w1 ⟨p, F, rfl, hP1, hF1, hb1⟩
  have HB1 : Hid (Below w.heap.size w w1) := hb1
  have HP1 : Hid (PB w1 p F []) := hP1
  have HF1 : Hid (∀ k, F k → w.heap.size ≤ k) := hF1
  have HE1 : Hid (Env w1) := HS.out.stable HE.out hb1
  clear hP1 hF1 hb1
  go_wp2_with fail
  refine (HS.out.put ⟨#[104, 105]⟩ p F [] w1 (by decide) (BinOk.nil _) HE1.out HP1.out).mono ?_
  rw [show (⟨#[104, 105]⟩ : ByteArray).data.toList = hiT from rfl, hi_put1]
  rintro e w2 ⟨ev, F2, rfl, he2, hP2, hF2, ho2⟩
  obtain rfl := he2.nil
  have hB2 : Below w.heap.size w w2 := HB1.out.trans (ho2.below HB1.out.size (fun k hk hf => by have := HF1.out k hf; omega))
  have HF2 : Hid (∀ k, F2 k → w.heap.size ≤ k) := fun k hk => (hF2 k hk).elim (HF1.out k) (fun h => Nat.le_trans HB1.out.size h)
  have HID : Hid (idOfL hiT = ((idOfL hiT).1, 2)) := rfl
  obtain ⟨P, hP⟩ : ∃ P, (idOfL hiT).1 = P := ⟨_, rfl⟩
  have hl2 : (idOfL hiT).2 = 2 := rfl
  simp only [hP, hl2]
  have HP : Hid (idOfL hiT = (P, 2)) := by show _ = _; rw [HID.out, hP]
  have HWF : Hid (WfID (P, 2)) := ⟨by rw [← hP]; exact pmore_lt _ (by decide) _, by show (-9223372036854775808 : Int) ≤ 2; decide, by show (2 : Int) ≤ 9223372036854775807; decide⟩
  have hal := (Below.refl w2.heap.size w2).alloc (Nat.le_refl _) (.cells #[.int .u32 (P : Nat), .int .i64 2] 40)
  have hI := Blk.new w2 #[.int .u32 (P : Nat), .int .i64 2] 40
  have HP2 : Hid (PB (w2.alloc (.cells #[.int .u32 (P : Nat), .int .i64 2] 40)) p F2 [(idOfL hiT, 1, hiT)]) := HS.out.below hP2 hal
  have HB2 : Hid (Below w.heap.size w (w2.alloc (.cells #[.int .u32 (P : Nat), .int .i64 2] 40))) := hB2.trans (hal.mono hB2.size)
  have HE2 : Hid (Env (w2.alloc (.cells #[.int .u32 (P : Nat), .int .i64 2] 40))) := HS.out.stable HE.out HB2.out
  have HI : Hid (Blk (w2.alloc (.cells #[.int .u32 (P : Nat), .int .i64 2] 40)) w2.heap.size #[.int .u32 (P : Nat), .int .i64 2] 40) := hI
  have HNI : Hid (∀ k, F2 k → k ≠ w2.heap.size) := fun k hk e => by have := HS.out.lt hP2 k hk; omega
  clear hF2 ho2 hB2 hP2 hP hl2 hal hI he2 HB1 HP1 HE1 HF1
  go_wp2_with fail
  refine (HS.out.put ⟨#[104, 105]⟩ p F2 [(idOfL hiT, 1, hiT)] _ (by decide) hi_ok1 HE2.out HP2.out).mono ?_
  rw [show (⟨#[104, 105]⟩ : ByteArray).data.toList = hiT from rfl, hi_put2, HP.out]
  rintro e w3 ⟨ev, F3, rfl, he3, hP3, hF3, ho3⟩
  obtain rfl := he3.nil
  have hB3 : Below w.heap.size w w3 := HB2.out.trans (ho3.below HB2.out.size (fun k hk hf => by have := HF2.out k hf; omega))
  have hI3 : Blk w3 w2.heap.size #[.int .u32 (P : Nat), .int .i64 2] 40 := ho3.blk HI.out (fun h => HNI.out _ h rfl)
  generalize w2.heap.size = I at *
  have hal := (Below.refl w3.heap.size w3).alloc (Nat.le_refl _) (.cells #[.int .u32 (P : Nat), .int .i64 2] 40)
  have hI4 := hI3.next hal
  have i0 := hI4.cell (i := 0) rfl
  have i1 := hI4.cell (i := 1) rfl
  have HP3 : Hid (PB (w3.alloc (.cells #[.int .u32 (P : Nat), .int .i64 2] 40)) p F3 [((P, 2), 2, hiT)]) := HS.out.below hP3 hal
  have HB3 : Hid (Below w.heap.size w (w3.alloc (.cells #[.int .u32 (P : Nat), .int .i64 2] 40))) := hB3.trans (hal.mono hB3.size)
  have HE3 : Hid (Env (w3.alloc (.cells #[.int .u32 (P : Nat), .int .i64 2] 40))) := HS.out.stable HE.out HB3.out
  clear hF3 ho3 hB3 hP3 hI3 hal hI4 he3 HB2 HP2 HE2 HF2 HI HNI
  have ok := hi_ok2
  have hg := hi_get
  have hz := hi_size
  rw [HP.out] at ok hg hz
  have HOK : Hid (BinOk 1000000 [((P, (2 : Int)), (2 : Int), hiT)]) := ok
  have HG : Hid (hGet [((P, (2 : Int)), (2 : Int), hiT)] (P, 2) = (hiT, 0)) := hg
  have HZ : Hid (hSize [((P, (2 : Int)), (2 : Int), hiT)] = 2) := hz
  clear ok hg hz
  go_wp2_with fail
  refine (HS.out.get (P, 2) p F3 _ _ HWF.out HOK.out HE3.out HP3.out).mono ?_
  rw [HG.out]
  rintro e w4 ⟨ev, rfl, he4, hb4⟩
  obtain rfl := he4.nil
  have HB4 : Hid (Below w.heap.size w w4) := HB3.out.trans (hb4.mono HB3.out.size)
  have HP4 : Hid (PB w4 p F3 [((P, 2), 2, hiT)]) := HS.out.below HP3.out hb4
  have HE4 : Hid (Env w4) := HS.out.stable HE3.out hb4
  have HT : (⟨hiT.toArray⟩ : ByteArray) = ⟨#[104, 105]⟩ := rfl
  rw [HT]
  clear HT hb4 he4 HP3 HE3 HB3 i0 i1
  go_wp2_with (go_at_call 42; refine (HS.out.size p F3 _ _ HOK.out HE4.out HP4.out).mono ?_; rw [HZ.out]; rintro e w5 ⟨rfl, hb5⟩; have HB5 : Hid (Below w.heap.size w w5) := HB4.out.trans (hb5.mono HB4.out.size); clear hb5)
  go_ret
  exact ⟨rfl, HB5.out⟩
end Go.Proofs.YtmjdgakokldliaaGreatDoor
