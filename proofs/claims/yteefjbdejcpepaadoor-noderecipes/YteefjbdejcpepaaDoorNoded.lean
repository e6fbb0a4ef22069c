/-
  Own text. noded: it returns true.
-/
import Derived.Test.YteefjbdejcpepaaDoorNodePure
namespace Go.Proofs.YteefjbdejcpepaaDoor
open Go.RowKit Go.Maps

abbrev helloB : ByteArray := ⟨#[104, 101, 108, 108, 111]⟩
theorem hello_got : ∀ t ∈ pieces helloL, hGet [(idOfL helloL, 2, helloL)] (idOfL t) = (t, 0) := by
  intro t ht
  rw [helloPieces] at ht
  rw [List.mem_singleton.1 ht]
  simp [hGet, hFind]
theorem ok1 : NOk 4000 1 st1 := by
  have := NOk.empty.put (by decide) [97] helloL
  rw [put1] at this
  exact this
theorem ok2 : NOk 8000 2 st2 := by
  have := ok1.put (by decide) [98] helloL
  rw [put2] at this
  exact this
set_option maxRecDepth 100000 in
set_option maxHeartbeats 4000000 in
theorem noded_any (a : Nat → Addr) (w : World) (hE : ErrE [1, 2, 3, 4, 5, 6, 8, 9] w a) :
    Calls Tryd.prog 44 #[] w fun e w' => e = .returned (.bool true) ∧ Below w.heap.size w w' := by
  have HEE : Hid (∀ W, Below w.heap.size w W → ErrE [1, 2, 3, 4, 5, 6, 8, 9] W a) := fun W hb => hE.below hb (Nat.le_refl _)
  clear hE
  go_enter Tryd.func44, Tryd.ntmps44
  go_wp2_with fail
  refine (nNew_any w).mono ?_
  rintro e w1 ⟨p, F1, rfl, hP1, hF1, hb1⟩
  have HB1 := hideN hb1
  have HP1 := hideN hP1
  have HF1 := hideN hF1
  clear hb1 hP1 hF1
  go_wp2_with fail
  refine (nodePut_any a ⟨#[97]⟩ helloB p F1 0 ⟨[], []⟩ w1 (by decide) (by decide) ⟨by decide, by decide⟩ (fun b hb => by simp at hb) (by simp) ((HEE.out _ HB1.out).sub (by decide)) HP1.out).mono ?_
  rw [show (⟨#[97]⟩ : ByteArray).data.toList = [97] from rfl, show helloB.data.toList = helloL from rfl, put1]
  rintro e w2 ⟨ev2, F2, rfl, he2, hP2, hF2, ho2⟩
  simp only at he2 hP2
  obtain rfl := he2.nil
  have HB2 : Hid (Below w.heap.size w w2) := HB1.out.trans (ho2.below HB1.out.size (fun j hj hF => by have := HF1.out j hF; omega))
  have HP2 := hideN hP2
  have HF2 : Hid (∀ k, F2 k → w.heap.size ≤ k) := fun k hk => by
    rcases hF2 k hk with h | h
    · exact HF1.out k h
    · have := HB1.out.size; omega
  clear he2 hP2 hF2 ho2 HP1 HF1 HB1
  go_wp2_with fail
  refine (nodePut_any a ⟨#[98]⟩ helloB p F2 4000 st1 w2 (by decide) (by decide) ⟨by decide, by decide⟩ ok1.bins (by decide) ((HEE.out _ HB2.out).sub (by decide)) HP2.out).mono ?_
  rw [show (⟨#[98]⟩ : ByteArray).data.toList = [98] from rfl, show helloB.data.toList = helloL from rfl, put2]
  rintro e w3 ⟨ev3, F3, rfl, he3, hP3, hF3, ho3⟩
  simp only at he3 hP3
  obtain rfl := he3.nil
  have HB3 : Hid (Below w.heap.size w w3) := HB2.out.trans (ho3.below HB2.out.size (fun j hj hF => by have := HF2.out j hF; omega))
  have HP3 := hideN hP3
  clear he3 hP3 hF3 ho3 HP2 HF2 HB2
  go_wp2_with fail
  refine (nodeGet_some a ⟨#[98]⟩ p F3 st2 w3 helloL [(idOfL helloL, 2, helloL)] (by decide) (by decide) (by unfold st2; simp [nBin]) hello_got (by decide) (by decide) ((HEE.out _ HB3.out).sub (by decide)) HP3.out).mono ?_
  rintro e w4 ⟨rfl, hb4⟩
  have HB4 : Hid (Below w.heap.size w w4) := HB3.out.trans (hb4.mono HB3.out.size)
  have HP4 := hideN (HP3.out.below hb4)
  clear hb4 HP3 HB3
  have HSZ := hideN (fun W (hW : PNode W p F3 st2) => nodeSize_any p F3 st2 W (fun b hb => (ok2.bins b hb).mono (by decide)) (by decide) hW)
  rw [size2] at HSZ
  go_wp2_with fail
  refine (HSZ.out w4 HP4.out).mono ?_
  rintro e w5 ⟨rfl, hb5⟩
  go_wp2_with fail
  go_ret
  exact ⟨rfl, HB4.out.trans (hb5.mono HB4.out.size)⟩
end Go.Proofs.YteefjbdejcpepaaDoor
