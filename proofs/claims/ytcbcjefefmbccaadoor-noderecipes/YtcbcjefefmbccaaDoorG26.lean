/-
  Own text. noded: it returns true.
  Own text. Acts on a node as they lie (Acts3At); LongActs by a contract.
  Own text. NodeRecipes over the contracts of package node: it returns true whatever the acts.
  NodeRecipes returns true whatever the acts: the tied card NodeRecipesCardSaid. Conditions: those of the card itself (eight sentinels and errors' own type handle lie as the program's text lays them).
-/
import Derived.Test.YtcbcjefefmbccaaDoorG25
import Derived.Test.YtcbcjefefmbccaaDoorG21
import Derived.Test.YtcbcjefefmbccaaDoorCards
import Derived.Test.YtcbcjefefmbccaaDoorTie
import Derived.Test.YtcbcjefefmbccaaDoorG02
import Derived.WalkKit
import Derived.ProofKit
import Derived.OpenShut
import Derived.LaidMore
import Derived.LaidSub
import Derived.Lib.LaidTab
import Derived.Deep.DeepHandedRow
import Derived.Deep.DeepWitnessRowRef
import Derived.Deep.Strs
namespace Go.Proofs.YtcbcjefefmbccaaDoor
open Go.RowKit Go.Maps

abbrev helloB : ByteArray := ⟨#[104, 101, 108, 108, 111]⟩
theorem hello_got : ∀ t ∈ pieces helloL, hGet [(idOfL helloL, 2, helloL)] (idOfL t) = (t, 0) := by
  intro t ht
  rw [helloPieces] at ht
  rw [List.mem_singleton.1 ht]
  simp [hGet, hFind]
theorem ok1 : NOk 4000 1 st1 := by
  have := NOk.empty.put (by decide) [97] helloL
  rw [put1] at this
  exact this
theorem ok2 : NOk 8000 2 st2 := by
  have := ok1.put (by decide) [98] helloL
  rw [put2] at this
  exact this
set_option maxRecDepth 100000 in
set_option maxHeartbeats 4000000 in
theorem noded_any (a : Nat → Addr) (w : World) (hE : ErrE [1, 2, 3, 4, 5, 6, 8, 9] w a) :
    Calls Tryd.prog 44 #[] w fun e w' => e = .returned (.bool true) ∧ Below w.heap.size w w' := by
  have HEE : Hid (∀ W, Below w.heap.size w W → ErrE [1, 2, 3, 4, 5, 6, 8, 9] W a) := fun W hb => hE.below hb (Nat.le_refl _)
  clear hE
  go_enter Tryd.func44, Tryd.ntmps44
  go_wp2_with fail
  refine (nNew_any w).mono ?_
  rintro e w1 ⟨p, F1, rfl, hP1, hF1, hb1⟩
  have HB1 := hideN hb1
  have HP1 := hideN hP1
  have HF1 := hideN hF1
  clear hb1 hP1 hF1
  go_wp2_with fail
  refine (nodePut_any a ⟨#[97]⟩ helloB p F1 0 ⟨[], []⟩ w1 (by decide) (by decide) ⟨by decide, by decide⟩ (fun b hb => by simp at hb) (by simp) ((HEE.out _ HB1.out).sub (by decide)) HP1.out).mono ?_
  rw [show (⟨#[97]⟩ : ByteArray).data.toList = [97] from rfl, show helloB.data.toList = helloL from rfl, put1]
  rintro e w2 ⟨ev2, F2, rfl, he2, hP2, hF2, ho2⟩
  simp only at he2 hP2
  obtain rfl := he2.nil
  have HB2 : Hid (Below w.heap.size w w2) := HB1.out.trans (ho2.below HB1.out.size (fun j hj hF => by have := HF1.out j hF; omega))
  have HP2 := hideN hP2
  have HF2 : Hid (∀ k, F2 k → w.heap.size ≤ k) := fun k hk => by
    rcases hF2 k hk with h | h
    · exact HF1.out k h
    · have := HB1.out.size; omega
  clear he2 hP2 hF2 ho2 HP1 HF1 HB1
  go_wp2_with fail
  refine (nodePut_any a ⟨#[98]⟩ helloB p F2 4000 st1 w2 (by decide) (by decide) ⟨by decide, by decide⟩ ok1.bins (by decide) ((HEE.out _ HB2.out).sub (by decide)) HP2.out).mono ?_
  rw [show (⟨#[98]⟩ : ByteArray).data.toList = [98] from rfl, show helloB.data.toList = helloL from rfl, put2]
  rintro e w3 ⟨ev3, F3, rfl, he3, hP3, hF3, ho3⟩
  simp only at he3 hP3
  obtain rfl := he3.nil
  have HB3 : Hid (Below w.heap.size w w3) := HB2.out.trans (ho3.below HB2.out.size (fun j hj hF => by have := HF2.out j hF; omega))
  have HP3 := hideN hP3
  clear he3 hP3 hF3 ho3 HP2 HF2 HB2
  go_wp2_with fail
  refine (nodeGet_some a ⟨#[98]⟩ p F3 st2 w3 helloL [(idOfL helloL, 2, helloL)] (by decide) (by decide) (by unfold st2; simp [nBin]) hello_got (by decide) (by decide) ((HEE.out _ HB3.out).sub (by decide)) HP3.out).mono ?_
  rintro e w4 ⟨rfl, hb4⟩
  have HB4 : Hid (Below w.heap.size w w4) := HB3.out.trans (hb4.mono HB3.out.size)
  have HP4 := hideN (HP3.out.below hb4)
  clear hb4 HP3 HB3
  have HSZ := hideN (fun W (hW : PNode W p F3 st2) => nodeSize_any p F3 st2 W (fun b hb => (ok2.bins b hb).mono (by decide)) (by decide) hW)
  rw [size2] at HSZ
  go_wp2_with fail
  refine (HSZ.out w4 HP4.out).mono ?_
  rintro e w5 ⟨rfl, hb5⟩
  go_wp2_with fail
  go_ret
  exact ⟨rfl, HB4.out.trans (hb5.mono HB4.out.size)⟩
end Go.Proofs.YtcbcjefefmbccaaDoor
namespace Go.Proofs.YtcbcjefefmbccaaDoor
open Go.RowKit Go.Maps

abbrev Act3 := ByteArray × ByteArray × ByteArray
def Acts3At (w : World) (v : Value) (l : List Act3) : Prop :=
  ∃ (p : Option Addr) (c : Nat), v = .slice p l.length c ∧ ∀ i (h : i < l.length), ∃ b o, p = some ⟨b, o, none⟩ ∧ b < w.heap.size ∧ w.cell? ⟨b, o + i * 3, none⟩ = some (.string l[i].1) ∧ w.cell? ⟨b, o + i * 3 + 1, none⟩ = some (.string l[i].2.1) ∧ w.cell? ⟨b, o + i * 3 + 2, none⟩ = some (.string l[i].2.2)
theorem Acts3At.below {w w' : World} {v : Value} {l : List Act3} (h : Acts3At w v l) (hb : Below w.heap.size w w') : Acts3At w' v l := by
  obtain ⟨p, c, rfl, h⟩ := h
  refine ⟨p, c, rfl, fun i hi => ?_⟩
  obtain ⟨b, o, hp, hlt, h0, h1, h2⟩ := h i hi
  exact ⟨b, o, hp, Nat.lt_of_lt_of_le hlt hb.size, (hb.cell (p := ⟨b, o + i * 3, none⟩) hlt).trans h0, (hb.cell (p := ⟨b, o + i * 3 + 1, none⟩) hlt).trans h1, (hb.cell (p := ⟨b, o + i * 3 + 2, none⟩) hlt).trans h2⟩
def fits (y : Act3) : Prop := y.2.1.size ≤ 30 ∧ y.2.2.size ≤ 4001
def Long3Post (w : World) (l : List Act3) (m : Nat) (e : Ending) (w' : World) : Prop := ∃ n : Int, e = .returned (.int .i64 n) ∧ w' = w ∧ (n = 0 ∨ n = 1) ∧ (n = 0 → l.length ≤ m ∧ ∀ i (h : i < l.length), fits l[i])
set_option maxRecDepth 100000 in
set_option maxHeartbeats 2000000 in
theorem longActs3_any (v : Value) (l : List Act3) (m : Nat) (w : World) (hm : m ≤ 1000) (hv : Acts3At w v l) :
    Calls Tryd.prog 45 #[v, .int .i64 (m : Int)] w (Long3Post w l m) := by
  obtain ⟨p, c, rfl, hcell⟩ := hv
  by_cases hl : l.length ≤ m
  · have hl' : ¬ (m : Int) < (l.length : Int) := by omega
    go_enter Tryd.func45, Tryd.ntmps45
    go_wp2_with fail
    go_loopw [5] (fun i wr => ∃ j : Nat, j ≤ l.length ∧ i = .int .i64 j ∧ wr = w ∧ Hid (∀ k (hk : k < l.length), k < j → fits l[k])) (fun i _ => l.length - (intOf i).toNat)
    case atStart => exact ⟨0, Nat.zero_le _, rfl, rfl, fun k _ h => by omega⟩
    case round =>
      obtain ⟨j, hj, rfl, hww, HA⟩ := hrel
      subst hww
      by_cases hlt : j < l.length
      · have hlt' : (j : Int) < (l.length : Int) := by omega
        have hj0 : (0 : Int) ≤ (j : Int) := by omega
        obtain ⟨b, o, rfl, _, c0, c1, c2⟩ := hcell j hlt
        have HNX : Hid (fits l[j] → ∀ k (hk : k < l.length), k < j + 1 → fits l[k]) := fun h k hk hkj => by
          rcases Nat.lt_or_ge k j with h' | h'
          · exact HA.out k hk h'
          · obtain rfl : k = j := by omega
            exact h
        obtain ⟨⟨y1, y2, y3⟩, hy⟩ : ∃ y, l[j] = y := ⟨_, rfl⟩
        rw [hy] at c0 c1 c2 HNX
        simp only at c0 c1 c2
        clear hy hcell
        by_cases h1 : (20 : Int) < (y1.size : Int)
        · go_wp2_with fail
          go_ret
          exact ⟨1, rfl, rfl, .inr rfl, fun h => by cases h⟩
        · by_cases h2 : (30 : Int) < (y2.size : Int)
          · go_wp2_with fail
            go_ret
            exact ⟨1, rfl, rfl, .inr rfl, fun h => by cases h⟩
          · by_cases h3 : (600 : Int) < (y3.size : Int)
            · by_cases h4 : (y3.size : Int) = 4001
              · have HN := hideN (HNX.out ⟨by simp only; omega, by simp only; omega⟩)
                go_wp2_with fail
                go_roundw
                case rel => exact ⟨j + 1, hlt, by go_num, by first | rfl | trivial, HN.out⟩
                case measure => simp [intOf]; omega
              · go_wp2_with fail
                go_ret
                exact ⟨1, rfl, rfl, .inr rfl, fun h => by cases h⟩
            · have HN := hideN (HNX.out ⟨by simp only; omega, by simp only; omega⟩)
              go_wp2_with fail
              go_roundw
              case rel => exact ⟨j + 1, hlt, by go_num, by first | rfl | trivial, HN.out⟩
              case measure => simp [intOf]; omega
      · have hge : (l.length : Int) ≤ (j : Int) := by omega
        go_wp2_with fail
        go_ret
        exact ⟨0, rfl, rfl, .inl rfl, fun _ => ⟨hl, fun i hi => HA.out i hi (by omega)⟩⟩
  · have hl' : (m : Int) < (l.length : Int) := by omega
    go_enter Tryd.func45, Tryd.ntmps45
    go_wp2_with fail
    go_ret
    exact ⟨1, rfl, rfl, .inr rfl, fun h => by cases h⟩
end Go.Proofs.YtcbcjefefmbccaaDoor
namespace Go.Proofs.YtcbcjefefmbccaaDoor
open Go.RowKit Go.Maps

theorem strN_ne {s t : ByteArray} (h : s ≠ t) : (s.toList == t.toList) = false := by
  rw [ByteArray.toList_eq, ByteArray.toList_eq, beq_eq_false_iff_ne]
  exact fun e => h (WideShapes.bytes_inj e)
theorem strN_ne_lit {s : ByteArray} {l : List UInt8} (h : s ≠ ⟨l.toArray⟩) : (s.toList == l) = false := by
  rw [ByteArray.toList_eq, beq_eq_false_iff_ne]
  exact fun e => h (WideShapes.bytes_inj (by rw [e]))
set_option maxRecDepth 100000 in
set_option maxHeartbeats 4000000 in
theorem nodeRecipes_any (a : Nat → Addr) (vl : Value) (l : List Act3) (w : World) (hE : ErrE [1, 2, 3, 4, 5, 6, 8, 9] w a) (hv : Acts3At w vl l) :
    Calls Tryd.prog 8 #[vl] w fun e w' => e = .returned (.bool true) ∧ Below w.heap.size w w' := by
  have HEE : Hid (∀ W, Below w.heap.size w W → ErrE [1, 2, 3, 4, 5, 6, 8, 9] W a) := fun W hb => hE.below hb (Nat.le_refl _)
  have HV : Hid (Acts3At w vl l) := hv
  obtain ⟨pa, ca, rfl, _⟩ := hv
  clear hE
  go_enter Tryd.func8, Tryd.ntmps8
  go_wp2_with fail
  refine (noded_any a w (HEE.out _ (Below.refl _ _))).mono ?_
  rintro e w1 ⟨rfl, hb1⟩
  have HB1 := hideN hb1
  clear hb1
  go_wp2_with fail
  refine (longActs3_any _ l 40 w1 (by decide) (HV.out.below HB1.out)).mono ?_
  rintro e w2 ⟨n, rfl, hw2, hn, h0⟩
  subst hw2
  rcases hn with rfl | rfl
  rotate_left
  · go_wp2_with fail
    go_ret
    exact ⟨rfl, HB1.out⟩
  obtain ⟨hlen, hfit⟩ := h0 rfl
  have HFIT := hideN hfit
  have hlen' : (l.length : Int) ≤ 40 := by omega
  clear h0 hfit
  go_wp2_with fail
  refine (nNew_any w2).mono ?_
  rintro e w3 ⟨p, F0, rfl, hP3, hF3, hb3⟩
  have HB3 : Hid (Below w.heap.size w w3) := HB1.out.trans (hb3.mono HB1.out.size)
  have HP3 := hideN hP3
  have HF3 : Hid (∀ j, F0 j → w.heap.size ≤ j) := fun j hj => Nat.le_trans HB1.out.size (hF3 j hj)
  clear hP3 hF3 hb3 HB1
  go_wp2_with fail
  go_loopw [5] (fun iv wr => ∃ (k : Nat) (st : NSt) (F' : Nat → Prop), k ≤ l.length ∧ iv = .int .i64 k ∧ Hid (NOk (4000 * k) k st) ∧ Hid (PNode wr p F' st) ∧ Hid (∀ j, F' j → w.heap.size ≤ j) ∧ Hid (Below w.heap.size w wr)) (fun iv _ => l.length - (intOf iv).toNat)
  case atStart => exact ⟨0, ⟨[], []⟩, F0, Nat.zero_le _, rfl, NOk.empty, HP3.out, HF3.out, HB3.out⟩
  case round =>
    clear HP3 HF3 HB3
    obtain ⟨k, st, F', hk, rfl, HOK, HP, HF, HB⟩ := hrel
    by_cases hlt : k < l.length
    · have hlt' : (k : Int) < (l.length : Int) := by omega
      have hk0 : (0 : Int) ≤ (k : Int) := by omega
      obtain ⟨_, _, hve, hcell⟩ := HV.out.below HB.out
      obtain ⟨rfl, rfl⟩ : pa = _ ∧ ca = _ := by simpa using hve
      obtain ⟨b, o, rfl, _, c0, c1, c2⟩ := hcell k hlt
      obtain ⟨ht1, ht2⟩ := HFIT.out k hlt
      have HCELL : Hid (∀ W, Below w.heap.size w W → W.cell? ⟨b, o + k * 3 + 1, none⟩ = some (.string l[k].2.1) ∧ W.cell? ⟨b, o + k * 3 + 2, none⟩ = some (.string l[k].2.2)) := fun W hb => by
        obtain ⟨_, _, hve, hcell⟩ := HV.out.below hb
        obtain ⟨b', o', hp', _, _, d1, d2⟩ := hcell k hlt
        have : some ⟨b, o, none⟩ = some (⟨b', o', none⟩ : Addr) := by rw [← hp']; simp at hve; exact hve.1
        cases this
        exact ⟨d1, d2⟩
      obtain ⟨⟨y1, y2, y3⟩, hy⟩ : ∃ y, l[k] = y := ⟨_, rfl⟩
      rw [hy] at c0 c1 c2 ht1 ht2 HCELL
      simp only at c0 c1 c2 ht1 ht2 HCELL
      clear hy hcell hve
      have HOKN : Hid (∀ F2 st2 w2, NOk (4000 * k + 4000) (k + 1) st2 → PNode w2 p F2 st2 → (∀ j, F2 j → w.heap.size ≤ j) → Below w.heap.size w w2 → NOk (4000 * ((k + 1 : Nat) : Int)) (k + 1) st2) := fun F2 st2 w2 h _ _ _ => by
        rw [show (4000 * ((k + 1 : Nat) : Int)) = 4000 * (k : Int) + 4000 by omega]
        exact h
      by_cases hput : y1 = ⟨#[112, 117, 116]⟩
      · subst hput
        have HPUT := hideN (fun W (hb : Below w.heap.size w W) (hP : PNode W p F' st) => nodePut_any a y2 y3 p F' (4000 * (k : Int)) st W (by omega) (by omega) ⟨by omega, by omega⟩ HOK.out.bins (by have := HOK.out.many; omega) ((HEE.out _ hb).sub (by decide)) hP)
        have HOK2 := hideN (HOK.out.put (by omega) y2.data.toList y3.data.toList)
        obtain ⟨⟨fr, ec, st2⟩, hr⟩ : ∃ r, nPut st y2.data.toList y3.data.toList = r := ⟨_, rfl⟩
        have HTH : Hid (ec = 0 → nFile st2.files y2.data.toList = some y3.data.toList ∧ (∃ l, nBin st2.bins (repT y3.data.toList) = some l) ∧ (ofR y2.data.toList y3.data.toList).2 = 0) := fun he => by
          have := nPut_there' (st := st) (nm := y2.data.toList) (s := y3.data.toList) (by rw [hr]; exact he)
          rw [hr] at this
          exact this
        unfold NPutPost at HPUT
        rw [hr] at HPUT HOK2
        simp only at HPUT HOK2
        clear hr
        go_wp2_with fail
        go_region_held3 (fun w' => w'.cell? ⟨b, o + k * 3 + 1, none⟩ = some (.string y2) ∧ w'.cell? ⟨b, o + k * 3 + 2, none⟩ = some (.string y3)) (first | exact HCELL.out _ HB4.out | go_keep) (first
          | (go_at_call 47; refine (HPUT.out _ HB.out.drew (HP.out.below (Below.refl _ wr).drew)).mono ?_; rintro e w4 ⟨ev4, F4, rfl, he4, hP4, hF4, ho4⟩; have HB4 : Hid (Below w.heap.size w w4) := HB.out.drew.trans (ho4.below HB.out.size (fun j hj hF => by have := HF.out j hF; omega)); have HP4 := hideN hP4; have HE4 := hideN he4; have HF4 : Hid (∀ j, F4 j → w.heap.size ≤ j) := fun j hj => (hF4 j hj).elim (fun h => HF.out j h) (fun h => Nat.le_trans HB.out.size h); clear hP4 he4 hF4 ho4))
        clear c0 c1 c2
        obtain ⟨c1, c2⟩ := HCELL.out _ HB4.out
        by_cases hec : ec = 0
        · subst hec
          obtain rfl := HE4.out.nil
          obtain ⟨hf4, ⟨bl, hb4⟩, hof⟩ := HTH.out rfl
          obtain ⟨hnI, hs4⟩ := ofR_ok hof
          have hR := ofR_fine hnI (Nat.not_lt.2 hs4)
          have HREC := hideN (fun W (hb : Below w.heap.size w W) (hP : PNode W p F4 st2) => nodeRecipe_any a y2 p F4 st2 W (by omega) (fun f hf => by have h1 := pieces_len_le f.2; have h2 := (HOK2.out.files f hf).1; unfold idsOf; rw [List.length_map]; omega) ((HEE.out _ hb).sub (by decide)) hP)
          rw [hf4] at HREC
          unfold RecPost at HREC
          simp only at HREC
          have HBN := hideN hb4
          have HOFF := hideN (fun W (hb : Below w.heap.size w W) => of_all a y2 y3 (by unfold maxLen; omega) W ((HEE.out _ hb).sub (by decide)))
          unfold ofPost at HOFF
          rw [hR] at HOFF
          simp only at HOFF
          obtain ⟨P, hPP⟩ : ∃ P, pmore 2166136261 y3.data.toList = P := ⟨_, rfl⟩
          obtain ⟨L, hLL⟩ : ∃ L, (y3.data.toList.length : Int) = L := ⟨_, rfl⟩
          rw [hPP, hLL] at HREC HOFF
          have HIZ : Hid ((idsOf y3.data.toList).length ≤ 4000) := by
            show _ ≤ _
            have h1 := pieces_len_le y3.data.toList
            unfold idsOf
            rw [List.length_map]
            omega
          have HOFN : Hid (∀ W, Below w.heap.size w W → Calls Tryd.prog 49 #[.string y2, .string y3] W fun e w' => ∃ (q : Option Addr) (c : Nat), e = .returned (.tuple #[.agg #[.string y2, .int .i64 L, .int .u32 (P : Nat), .slice q (idsOf y3.data.toList).length c], .nilIface]) ∧ IdsIn W.heap.size w' (.slice q (idsOf y3.data.toList).length c) (idsOf y3.data.toList) ∧ Below W.heap.size W w') := fun W hb => (HOFF.out W hb).mono fun e w' ⟨v, ev, he, hi, hee, hbw⟩ => by
            obtain ⟨q, c, hq, hc⟩ := hi
            subst hq
            obtain rfl := hee.nil
            exact ⟨q, c, by rw [he], ⟨q, c, rfl, hc⟩, hbw⟩
          have HRECN : Hid (∀ W, Below w.heap.size w W → PNode W p F4 st2 → Calls Tryd.prog 48 #[.pointer (some p), .string y2] W fun e w' => ∃ (q : Option Addr) (c : Nat), e = .returned (.tuple #[.agg #[.string y2, .int .i64 L, .int .u32 (P : Nat), .slice q (idsOf y3.data.toList).length c], .nilIface]) ∧ IdsIn W.heap.size w' (.slice q (idsOf y3.data.toList).length c) (idsOf y3.data.toList) ∧ Below W.heap.size W w') := fun W hb hP => (HREC.out W hb hP).mono fun e w' ⟨⟨v, he, hi⟩, hbw⟩ => by
            obtain ⟨q, c, hq, hc⟩ := hi
            subst hq
            exact ⟨q, c, he, ⟨q, c, rfl, hc⟩, hbw⟩
          clear hf4 hb4 hof hnI hR HTH HE4 HREC HOFF hPP hLL
          obtain ⟨idl, hidl⟩ : ∃ idl, (idsOf y3.data.toList).length = idl := ⟨_, rfl⟩
          have HIDL := hideN hidl
          rw [hidl] at HRECN HOFN HIZ
          clear hidl
          go_wp2_with fail
          refine (HRECN.out w4 HB4.out HP4.out).mono ?_
          rintro e w5 ⟨q5, k5, rfl, hi5, hb5⟩
          have hal5 := (Below.refl w5.heap.size w5).alloc (Nat.le_refl _) (.cells #[.string y2, .int .i64 L, .int .u32 (P : Nat), .slice q5 idl k5] 87)
          have hr5 := Blk.new w5 #[.string y2, .int .i64 L, .int .u32 (P : Nat), .slice q5 idl k5] 87
          have HB5 : Hid (Below w.heap.size w _) := hideN ((HB4.out.trans (hb5.mono HB4.out.size)).trans (hal5.mono (Nat.le_trans HB4.out.size hb5.size)))
          have HP5 := hideN ((HP4.out.below hb5).below hal5)
          have HI5 := hideN ((hi5.below hal5).at)
          clear c1 c2 hal5 hb5 hi5 HP4 HRECN
          obtain ⟨c1, c2⟩ := HCELL.out _ HB5.out
          go_wp2_with fail
          generalize w5.alloc (.cells #[.string y2, .int .i64 L, .int .u32 (P : Nat), .slice q5 idl k5] 87) = W5 at *
          generalize w5.heap.size = R5 at *
          have HR5 := hideN hr5
          have halz := (Below.refl W5.heap.size W5).alloc (Nat.le_refl _) (.cells #[.string ⟨#[]⟩, .int .i64 0, .int .u32 0, .slice none 0 0] 87)
          have hzb := Blk.new W5 #[.string ⟨#[]⟩, .int .i64 0, .int .u32 0, .slice none 0 0] 87
          have HBz : Hid (Below w.heap.size w (W5.alloc (.cells #[.string ⟨#[]⟩, .int .i64 0, .int .u32 0, .slice none 0 0] 87))) := HB5.out.trans (halz.mono HB5.out.size)
          have HPz := hideN (HP5.out.below halz)
          have HRz := hideN (HR5.out.next halz)
          have HIz := hideN (HI5.out.below halz)
          have HZB := hideN hzb
          have hR5lt : R5 < W5.heap.size := HR5.out.lt
          clear halz hzb
          go_region_held3 (fun w' => w'.cell? ⟨b, o + k * 3 + 1, none⟩ = some (.string y2) ∧ w'.cell? ⟨b, o + k * 3 + 2, none⟩ = some (.string y3)) (first | exact HCELL.out _ HB7.out | exact HCELL.out _ HB6.out | exact HCELL.out _ HBz.out.drew | exact HCELL.out _ HBz.out | go_keep) (first
            | (go_at_call 49; refine (HOFN.out _ HB5.out.drew).mono ?_; rintro e w6 ⟨q6, k6, rfl, hi6, hb6⟩; have hB6 : Below W5.heap.size W5 w6 := (Below.refl _ W5).drew.trans hb6; have HB6 : Hid (Below w.heap.size w w6) := HB5.out.trans (hB6.mono HB5.out.size); have HP6 := hideN (HP5.out.below hB6); have HR6 := hideN (HR5.out.next hB6); have HI6 := hideN (HI5.out.below hB6); have HJ6 := hideN hi6.at; have HB7 : Hid (Below w.heap.size w (w6.alloc (.cells #[.string y2, .int .i64 L, .int .u32 (P : Nat), .slice q6 idl k6] 87))) := HB6.out.alloc HB6.out.size _; clear hb6 hB6 hi6)
            | (go_at_call 49; refine (HOFN.out _ HBz.out.drew).mono ?_; rintro e w6 ⟨q6, k6, rfl, hi6, hb6⟩; have hB6 : Below (W5.alloc (.cells #[.string ⟨#[]⟩, .int .i64 0, .int .u32 0, .slice none 0 0] 87)).heap.size (W5.alloc (.cells #[.string ⟨#[]⟩, .int .i64 0, .int .u32 0, .slice none 0 0] 87)) w6 := (Below.refl _ _).drew.trans hb6; have HB6 : Hid (Below w.heap.size w w6) := HBz.out.trans (hB6.mono HBz.out.size); have HP6 := hideN (HPz.out.below hB6); have HR6 := hideN (HRz.out.next hB6); have HI6 := hideN (HIz.out.below hB6); have HJ6 := hideN hi6; have HZ6 := hideN (HZB.out.next hB6); have z0 := HZ6.out.cell (i := 0) rfl; have z1 := HZ6.out.cell (i := 1) rfl; have z2 := HZ6.out.cell (i := 2) rfl; have z3 := HZ6.out.cell (i := 3) rfl; have zf0 := HZ6.out.frozen 0; have zf1 := HZ6.out.frozen 1; have zf2 := HZ6.out.frozen 2; have zf3 := HZ6.out.frozen 3; have HB7 : Hid (Below w.heap.size w ((((w6.setCell ⟨W5.heap.size, 0, none⟩ (.string y2)).setCell ⟨W5.heap.size, 1, none⟩ (.int .i64 L)).setCell ⟨W5.heap.size, 2, none⟩ (.int .u32 (P : Nat))).setCell ⟨W5.heap.size, 3, none⟩ (.slice q6 idl k6))) := (((HB6.out.setCell (p := ⟨W5.heap.size, 0, none⟩) HB5.out.size _).setCell (p := ⟨W5.heap.size, 1, none⟩) HB5.out.size _).setCell (p := ⟨W5.heap.size, 2, none⟩) HB5.out.size _).setCell (p := ⟨W5.heap.size, 3, none⟩) HB5.out.size _; clear hb6 hB6 hi6))
          · have halw := (Below.refl w6.heap.size w6).alloc (Nat.le_refl _) (.cells #[.string y2, .int .i64 L, .int .u32 (P : Nat), .slice q6 idl k6] 87)
            have HP7 := hideN (HP6.out.below halw)
            have HR7 := hideN (HR6.out.next halw)
            have HI7 := hideN (HI6.out.below halw)
            have HJ7 := hideN (HJ6.out.below halw)
            have HW7 := hideN (Blk.new w6 #[.string y2, .int .i64 L, .int .u32 (P : Nat), .slice q6 idl k6] 87)
            generalize w6.alloc (.cells #[.string y2, .int .i64 L, .int .u32 (P : Nat), .slice q6 idl k6] 87) = W7 at *
            generalize w6.heap.size = R7 at *
            clear halw HP6 HR6 HI6 HJ6
            clear c1 c2
            have a0 := HR7.out.cell (i := 0) rfl
            have a1 := HR7.out.cell (i := 1) rfl
            have a2 := HR7.out.cell (i := 2) rfl
            have a3 := HR7.out.cell (i := 3) rfl
            have b0 := HW7.out.cell (i := 0) rfl
            have b1 := HW7.out.cell (i := 1) rfl
            have b2 := HW7.out.cell (i := 2) rfl
            have b3 := HW7.out.cell (i := 3) rfl
            have HSM := hideN (sameRecipe_true y2 L (P : Int) (.slice q5 idl k5) (.slice q6 idl k6) (idsOf y3.data.toList) W7 (by rw [HIDL.out]; have := HIZ.out; omega) HI7.out HJ7.out)
            go_wp2_with fail
            refine HSM.out.mono ?_
            rintro e w8 ⟨rfl, hb8⟩
            have HB8 : Hid (Below w.heap.size w w8) := HB7.out.trans (hb8.mono HB7.out.size)
            have HP8 := hideN (HP7.out.below hb8)
            have HR8 := hideN (HR7.out.next hb8)
            have HI8 := hideN (HI7.out.below hb8)
            clear hb8 HSM a0 a1 a2 a3 b0 b1 b2 b3 HI7 HJ7 HW7 HR7 HP7
            have a0 := HR8.out.cell (i := 0) rfl
            have a1 := HR8.out.cell (i := 1) rfl
            have a2 := HR8.out.cell (i := 2) rfl
            have a3 := HR8.out.cell (i := 3) rfl
            go_wp2_with fail
            refine (rep_any y2 L (P : Int) (.slice q5 idl k5) (idsOf y3.data.toList) w8 HI8.out (by rw [HIDL.out]; have := HIZ.out; unfold maxLen; omega)).mono ?_
            rintro e w9 ⟨rfl, hb9⟩
            have HB9 : Hid (Below w.heap.size w w9) := HB8.out.trans (hb9.mono HB8.out.size)
            have HP9 := hideN (HP8.out.below hb9)
            have HBI := hideN (nodeBin_any (repT y3.data.toList) p F4 st2 w9 (repT_wf _) HP9.out)
            unfold BinPost at HBI
            rw [HBN.out] at HBI
            simp only at HBI
            change Hid (Calls _ _ #[_, idV ((repOf (idsOf y3.data.toList)).1 : Nat) (repOf (idsOf y3.data.toList)).2] _ _) at HBI
            clear hb9 a0 a1 a2 a3
            generalize repOf (idsOf y3.data.toList) = rr at *
            go_wp2_with fail
            refine HBI.out.mono ?_
            rintro e w10 ⟨⟨q10, F10, rfl, _, _⟩, hb10⟩
            have HB10 : Hid (Below w.heap.size w w10) := HB9.out.trans (hb10.mono HB9.out.size)
            have HP10 := hideN (HP9.out.below hb10)
            clear hb10 HBI HP9
            go_wp2_with fail
            go_roundw
            case rel => exact ⟨k + 1, st2, F4, hlt, by go_num, HOKN.out F4 st2 w10 HOK2.out HP10.out HF4.out HB10.out, HP10.out, HF4.out, HB10.out⟩
            case measure => simp [intOf]; omega
          · have hset : Off (fun j => j = W5.heap.size) w6 ((((w6.setCell ⟨W5.heap.size, 0, none⟩ (.string y2)).setCell ⟨W5.heap.size, 1, none⟩ (.int .i64 L)).setCell ⟨W5.heap.size, 2, none⟩ (.int .u32 (P : Nat))).setCell ⟨W5.heap.size, 3, none⟩ (.slice q6 idl k6)) := ((((Off.of_below (F := fun j => j = W5.heap.size) (Below.refl _ w6)).setCell (p := ⟨W5.heap.size, 0, none⟩) (.inl rfl) _).setCell (p := ⟨W5.heap.size, 1, none⟩) (.inl rfl) _).setCell (p := ⟨W5.heap.size, 2, none⟩) (.inl rfl) _).setCell (p := ⟨W5.heap.size, 3, none⟩) (.inl rfl) _
            have HP7 := hideN (HP6.out.off hset (fun j hj e => by have := HP5.out.lt j hj; omega))
            have HR7 := hideN (hset.blk HR6.out (fun e => by omega))
            have HI7 := hideN (HI6.out.off hset (fun hne j hj e => by have := HI5.out.lt hne hj; omega))
            have HJ7 := hideN ((HJ6.out.off hset (fun j hj e => by simp at hj; omega)).at)
            have HW7 := hideN ((((HZ6.out.set 0 (.string y2)).set 1 (.int .i64 L)).set 2 (.int .u32 (P : Nat))).set 3 (.slice q6 idl k6))
            generalize ((((w6.setCell ⟨W5.heap.size, 0, none⟩ (.string y2)).setCell ⟨W5.heap.size, 1, none⟩ (.int .i64 L)).setCell ⟨W5.heap.size, 2, none⟩ (.int .u32 (P : Nat))).setCell ⟨W5.heap.size, 3, none⟩ (.slice q6 idl k6)) = W7 at *
            clear hset HP6 HR6 HI6 HJ6 z0 z1 z2 z3 zf0 zf1 zf2 zf3 HZ6 HBz HPz HRz HIz HZB
            clear c1 c2
            have a0 := HR7.out.cell (i := 0) rfl
            have a1 := HR7.out.cell (i := 1) rfl
            have a2 := HR7.out.cell (i := 2) rfl
            have a3 := HR7.out.cell (i := 3) rfl
            have b0 := HW7.out.cell (i := 0) rfl
            have b1 := HW7.out.cell (i := 1) rfl
            have b2 := HW7.out.cell (i := 2) rfl
            have b3 := HW7.out.cell (i := 3) rfl
            have HSM := hideN (sameRecipe_true y2 L (P : Int) (.slice q5 idl k5) (.slice q6 idl k6) (idsOf y3.data.toList) W7 (by rw [HIDL.out]; have := HIZ.out; omega) HI7.out HJ7.out)
            go_wp2_with fail
            refine HSM.out.mono ?_
            rintro e w8 ⟨rfl, hb8⟩
            have HB8 : Hid (Below w.heap.size w w8) := HB7.out.trans (hb8.mono HB7.out.size)
            have HP8 := hideN (HP7.out.below hb8)
            have HR8 := hideN (HR7.out.next hb8)
            have HI8 := hideN (HI7.out.below hb8)
            clear hb8 HSM a0 a1 a2 a3 b0 b1 b2 b3 HI7 HJ7 HW7 HR7 HP7
            have a0 := HR8.out.cell (i := 0) rfl
            have a1 := HR8.out.cell (i := 1) rfl
            have a2 := HR8.out.cell (i := 2) rfl
            have a3 := HR8.out.cell (i := 3) rfl
            go_wp2_with fail
            refine (rep_any y2 L (P : Int) (.slice q5 idl k5) (idsOf y3.data.toList) w8 HI8.out (by rw [HIDL.out]; have := HIZ.out; unfold maxLen; omega)).mono ?_
            rintro e w9 ⟨rfl, hb9⟩
            have HB9 : Hid (Below w.heap.size w w9) := HB8.out.trans (hb9.mono HB8.out.size)
            have HP9 := hideN (HP8.out.below hb9)
            have HBI := hideN (nodeBin_any (repT y3.data.toList) p F4 st2 w9 (repT_wf _) HP9.out)
            unfold BinPost at HBI
            rw [HBN.out] at HBI
            simp only at HBI
            change Hid (Calls _ _ #[_, idV ((repOf (idsOf y3.data.toList)).1 : Nat) (repOf (idsOf y3.data.toList)).2] _ _) at HBI
            clear hb9 a0 a1 a2 a3
            generalize repOf (idsOf y3.data.toList) = rr at *
            go_wp2_with fail
            refine HBI.out.mono ?_
            rintro e w10 ⟨⟨q10, F10, rfl, _, _⟩, hb10⟩
            have HB10 : Hid (Below w.heap.size w w10) := HB9.out.trans (hb10.mono HB9.out.size)
            have HP10 := hideN (HP9.out.below hb10)
            clear hb10 HBI HP9
            go_wp2_with fail
            go_roundw
            case rel => exact ⟨k + 1, st2, F4, hlt, by go_num, HOKN.out F4 st2 w10 HOK2.out HP10.out HF4.out HB10.out, HP10.out, HF4.out, HB10.out⟩
            case measure => simp [intOf]; omega
        · obtain ⟨t4, u4, rfl⟩ : ∃ t u, ev4 = .iface t u := by
            rcases HE4.out with ⟨_, hf⟩ | ⟨_, _, hv, _⟩ | ⟨_, _, _, _, _, _, hv, _⟩
            · exact (hec (Prod.mk.inj hf).1).elim
            · exact ⟨_, _, hv⟩
            · exact ⟨_, _, hv⟩
          clear hec HTH HE4
          go_wp2_with fail
          go_roundw
          case rel => exact ⟨k + 1, st2, F4, hlt, by go_num, HOKN.out F4 st2 w4 HOK2.out HP4.out HF4.out HB4.out, HP4.out, HF4.out, HB4.out⟩
          case measure => simp [intOf]; omega
      · have n1 := strN_ne hput
        have n2 : (y1.toList == [112, 117, 116]) = false := strN_ne_lit hput
        clear hput
        go_wp2_with fail
        go_roundw
        case rel => exact ⟨k + 1, st, F', hlt, by go_num, HOK.out.mono (by omega) (by omega), HP.out, HF.out, HB.out⟩
        case measure => simp [intOf]; omega
    · have hge : (l.length : Int) ≤ (k : Int) := by omega
      go_wp2_with fail
      go_ret
      exact ⟨rfl, HB.out⟩
end Go.Proofs.YtcbcjefefmbccaaDoor
namespace Go.Proofs.YtcbcjefefmbccaaDoor.nrCard
open Go.ChangeShapes Go.WideShapes Go.ChangeAt Go.RowKit
open Go.Deep (open_slice choose_lt add_add trod_struct3)

theorem own : ownKnob Tryd.prog.godebug = none := by kernel_rfl
theorem cellsAct : Tryd.prog.cellsOf 83 = 3 := by kernel_rfl
theorem cellsStr : Tryd.prog.cellsOf 9 = 1 := by kernel_rfl
theorem errs {W : World} (h : laidMetH Tryd.prog Rows.nodeRecipesRow.laid W) : ∃ a, ErrE [1, 2, 3, 4, 5, 6, 8, 9] W a :=
  errN_of_laid (show laidMetH Tryd.prog (errSentsN.map sentD) W from laidMetH.filter (fun x => errSentsN.any (fun y => y.1 == x.1)) h)

set_option maxRecDepth 100000 in
theorem acts_open {H : Type} {enc : TypeId × Value → H} {W : World} {a0 : Option Addr} {len cap : Nat} {d : DataW H} {ps : List MemPlace} (h : DataW.Trod enc Tryd.prog W 0 (fun _ => true) true 78 (.slice a0 len cap) d ps) :
    ∃ l : List Act3, Acts3At W (.slice a0 len cap) l := by
  obtain ⟨fuel, hf⟩ := h
  rcases open_slice Tryd.underlying78 hf with ⟨hcs, _⟩ | ⟨a, len', cap', m, n, D, Pl, hcs, _, hl, hm, hmm, _, hel⟩
  · simp [Value.cells] at hcs
    obtain ⟨rfl, rfl, rfl⟩ := hcs
    exact ⟨[], none, 0, rfl, fun i hi => by simp at hi⟩
  · simp [Value.cells] at hcs
    obtain ⟨rfl, rfl, rfl⟩ := hcs
    have hlm : len ≤ m := by rw [hmm]; simpa using hl
    rw [cellsAct] at hel
    have each : ∀ i, i < len → ∃ q : Act3, W.cell? (a.add (i * 3)) = some (.string q.1) ∧ W.cell? (a.add (i * 3 + 1)) = some (.string q.2.1) ∧ W.cell? (a.add (i * 3 + 2)) = some (.string q.2.2) := by
      intro i hi
      obtain ⟨cs', h1, h2⟩ := hel i (by omega)
      obtain ⟨_, hlen, hcell⟩ := World.cells?_some h1
      obtain ⟨y0, y1, y2, k, _, _, g0, g1, g2⟩ := trod_struct3 Tryd.underlying83 h2
      match cs', hlen with
      | [v0, v1, v2], _ =>
        simp [cellsStr] at g0 g1 g2
        obtain ⟨s0, e0, _, _⟩ := DataW.trod_string Tryd.underlying9 g0
        obtain ⟨s1, e1, _, _⟩ := DataW.trod_string Tryd.underlying9 g1
        obtain ⟨s2, e2, _, _⟩ := DataW.trod_string Tryd.underlying9 g2
        simp at e0 e1 e2
        subst e0 e1 e2
        have c0 := hcell 0 (by omega)
        have c1 := hcell 1 (by omega)
        have c2 := hcell 2 (by omega)
        rw [add_add] at c0 c1 c2
        exact ⟨(s0, s1, s2), by simpa using c0, by simpa using c1, by simpa using c2⟩
    obtain ⟨f, hf'⟩ := choose_lt each
    refine ⟨(List.range len).map f, some a, cap, by simp, fun i hi => ?_⟩
    have hi' : i < len := by simpa using hi
    obtain ⟨b, off, spot⟩ := a
    have hspot : spot = none := by simpa [Addr.add] using World.cell?_spot (hf' 0 (by omega)).1
    subst hspot
    obtain ⟨c0, c1, c2⟩ := hf' i hi'
    have ha : ∀ j, (⟨b, off, none⟩ : Addr).add j = ⟨b, off + j, none⟩ := fun j => by unfold Addr.add; split <;> simp_all
    rw [ha] at c0 c1 c2
    rw [← Nat.add_assoc] at c1 c2
    simp only [List.getElem_map, List.getElem_range]
    exact ⟨b, off, rfl, lt_of_cell c0, c0, c1, c2⟩

set_option maxRecDepth 100000 in
theorem contract (H : Type) (enc : TypeId × Value → H) (W : World) (base : Nat) (args : Array Value) (ds gs : List (DataW H)) (before : List MemPlace)
    (hval : ∀ (j : Nat) t v, Tryd.f8.params[j]? = some t → args[j]? = some v → Value.okWide Tryd.prog W .any base t v)
    (hW : DataW.Whole enc Tryd.prog Tryd.f8.params.toList Rows.nodeRecipesSpec.vars false W args.toList ds gs before) (hL : laidMetH Tryd.prog Rows.nodeRecipesRow.laid W) :
    Calls Tryd.prog 8 args W fun e W' => ∃ v, e = .returned v ∧ Rows.nodeRecipesSpec.post enc Tryd.prog Tryd.f8 false true false false W args v W' := by
  have hW' := hW
  obtain ⟨p, q, hA0, hV, rfl, hfz, hnd⟩ := hW
  have hA : DataW.TrodAll enc Tryd.prog W 0 (fun _ => true) true Tryd.f8.params.toList args.toList ds p := hA0
  rw [Tryd.params8] at hA hval
  obtain ⟨v0, vs0, d0, ds0, p0, q0, hargs, rfl, rfl, h0, r0⟩ := trodAll_cons hA
  obtain ⟨rfl, rfl, rfl⟩ := trodAll_nil r0
  obtain rfl : args = #[v0] := Array.toList_inj.1 hargs
  obtain ⟨rfl, rfl⟩ := trodVars_none hV
  obtain ⟨a0, len, cap, rfl⟩ := okWide_slice Tryd.underlying78 (hval 0 78 v0 rfl rfl)
  clear hA0
  simp only [List.append_nil] at hW'
  have hlt : ∀ x ∈ p0, x.block < W.heap.size := fun x hx => by simpa using hW'.lt x hx
  obtain ⟨l, hl⟩ := acts_open h0
  obtain ⟨aE, hE⟩ := errs hL
  refine (nodeRecipes_any aE _ l W hE hl).mono fun e W' ⟨he, hg⟩ => ?_
  subst he
  refine ⟨_, rfl, _, _, _, [], p0, [], hW', ?_, ?_, ?_, hg.frame _, fun h => by cases h⟩
  · exact trodAll_cons_mk (shut_bool Tryd.underlying4 _) trodAll_mk0
  · exact trodAll_mk1 (Below.trod Tryd.laidOut (by kernel_rfl) (of_decide_eq_true (by kernel_rfl)) h0 hg hlt)
  · rfl

theorem laid_met (os : Os) : laidMetH Tryd.prog Rows.nodeRecipesRow.laid ((World.doorLaid Tryd.prog 259 os).forCall (fun _ _ => 0) ⟨#[], #[.slice none 0 0], []⟩).memory :=
  laidMetH_of_parts3 (fuel := 8) (laidMet_of_run' 8 (by kernel_rfl) (by kernel_rfl)) (by kernel_rfl) (by kernel_rfl)
theorem reads (os : Os) {H : Type} (enc : TypeId × Value → H) : ∃ places, DataW.whole enc Tryd.prog ((World.doorLaid Tryd.prog 259 os).forCall (fun _ _ => 0) ⟨#[], #[.slice none 0 0], []⟩).memory Tryd.f8.params.toList Rows.nodeRecipesSpec.vars false (#[.slice none 0 0] : Array Value).toList 8 = some ([.nil], [], places) :=
  ⟨[], by kernel_rfl⟩

set_option maxRecDepth 100000 in
theorem lifted (os : Os) (started : os.Started) (H : Type) (enc : TypeId × Value → H) (F : Stop.Interp) :
    ReturnsInHanded {} Tryd.checked os 8 .any ((OpenSpec.ofChange Rows.nodeRecipesSpec).preRow enc Tryd.prog Tryd.f8 Rows.nodeRecipesRow.domain false Rows.nodeRecipesRow.laid) (((OpenSpec.ofChange Rows.nodeRecipesSpec).at F).post enc Tryd.prog Tryd.f8 false true false false) := by
  obtain ⟨places, hx⟩ := reads os enc
  refine returnsInHanded_of_row (C := Tryd.checked) (s := OpenSpec.ofChange Rows.nodeRecipesSpec) own started (by kernel_rfl) Tryd.func8
    (witness_row_atRef (enc := enc) (C := Tryd.checked) false (World.doorLaid Tryd.prog 259 os) #[.slice none 0 0] rfl (by kernel_rfl) (by kernel_rfl) (by kernel_rfl)
      (OpenSpec.preRow_of_cond 8 hx (by kernel_rfl) (fun k hk => by cases hk) (by kernel_rfl) (laid_met os))) ?_
  intro W base args ds gs before hval hW _ _ _ hL _ _
  exact contract H enc W base args ds gs before hval hW hL

theorem said : Rows.NodeRecipesSaid :=
  OpenClaim.holds_of_cond 8 Tryd.f8 rfl rfl rfl rfl rfl rfl rfl ⟨rfl, rfl, rfl, rfl, rfl⟩ rfl rfl rfl rfl rfl (by kernel_rfl) Tryd.func8 (by kernel_rfl)
    (of_decide_eq_true (by kernel_rfl)) (by unfold Func.isWrapper; first | (rw [if_pos (by decide +kernel)]; kernel_rfl) | (rw [if_neg (by decide +kernel)]; exact ⟨rfl, rfl⟩))
    (fun os started H enc _ F => by rw [OpenClaim.pre_eq_preRow]; exact lifted os started H enc F)

theorem stand : Tryd.prog.wantsStandIn 78 = false := by kernel_rfl
theorem plain (f : FuncId) (fn : Func) (hf : Tryd.pinned.checked.prog.funcNamed "cornbin/cornbinlaw2.NodeRecipes" = some f) (hfn : Tryd.pinned.checked.prog.funcs[f]? = some fn) :
    true = Tryd.pinned.checked.prog.looks [] ∧ ∀ (j : Nat) t, fn.params[j]? = some t → Tryd.pinned.checked.prog.wantsStandIn t = false := by
  obtain rfl : f = 8 := Option.some.inj ((show Tryd.prog.funcNamed "cornbin/cornbinlaw2.NodeRecipes" = some 8 by kernel_rfl).symm.trans hf) |>.symm
  obtain rfl : fn = Tryd.f8 := (Option.some.inj (Tryd.func8.symm.trans hfn)).symm
  refine ⟨by kernel_rfl, fun j t ht => ?_⟩
  rw [Tryd.params8] at ht
  have hm := Array.mem_of_getElem? ht
  obtain rfl : t = 78 := by simpa using hm
  exact stand

theorem card : Rows.NodeRecipesCardSaid :=
  Claim7.holds_tied_plain_at .later [] _ _ _ _ said (fun _ h => by cases h) (by kernel_rfl) (fun _ h => by cases h) nodeRecipes_row_tie rfl ⟨rfl, rfl⟩ (by kernel_rfl) rfl plain (by kernel_rfl)
end Go.Proofs.YtcbcjefefmbccaaDoor.nrCard
namespace Go.Proofs.YtcbcjefefmbccaaDoor
theorem nodeRecipes_card : Rows.NodeRecipesCardSaid := nrCard.card
end Go.Proofs.YtcbcjefefmbccaaDoor
