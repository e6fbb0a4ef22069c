/-
  Own text. noded: it returns true.
  Own text. Acts on a node as they lie (Acts3At); LongActs by a contract.
  Own text. An error stays what it is where what has turned is not its own.
  Own text. Do by a contract: an act on both nodes, which answer the same. Ahead of it: Get of a name that is not there.
  Own text. Names in their order: a row of names merged is the names, rising.
  Own text. A range over an iterator that walks a map, where a round lays a block for its variable: a law (range_walk); a map's walk behind a fence (wpIn_range_kit, wpIn_next_kit).
-/
import Derived.Test.YtjdobbjdlighpabGreatDoorH27
import Derived.Test.YtjdobbjdlighpabGreatDoorH04
import Derived.Test.YtjdobbjdlighpabGreatDoorH03
import Derived.Test.YtjdobbjdlighpabGreatDoorH34
import Derived.Test.YtjdobbjdlighpabGreatDoorH35
import Derived.Test.YtjdobbjdlighpabGreatDoorH28
import Derived.Test.YtjdobbjdlighpabGreatDoorChecked
import Derived.WalkKit
import Derived.Test.YtjdobbjdlighpabGreatDoorH23
import Derived.Test.YtjdobbjdlighpabGreatDoorH02
import Derived.RangeFuncOwn
import Derived.RangeFuncSeq
import Derived.Sort.MapsRangeIn
namespace Go.Proofs.YtjdobbjdlighpabGreatDoor
open Go.RowKit Go.Maps

abbrev helloB : ByteArray := ⟨#[104, 101, 108, 108, 111]⟩
theorem hello_got : ∀ t ∈ pieces helloL, hGet [(idOfL helloL, 2, helloL)] (idOfL t) = (t, 0) := by
  intro t ht
  rw [helloPieces] at ht
  rw [List.mem_singleton.1 ht]
  simp [hGet, hFind]
theorem ok1 : NOk 4000 1 st1 := by
  have := NOk.empty.put (by decide) [97] helloL
  rw [put1] at this
  exact this
theorem ok2 : NOk 8000 2 st2 := by
  have := ok1.put (by decide) [98] helloL
  rw [put2] at this
  exact this
set_option maxRecDepth 100000 in
set_option maxHeartbeats 4000000 in
theorem noded_any (a : Nat → Addr) (w : World) (hE : ErrE [1, 2, 3, 4, 5, 6, 8, 9] w a) :
    Calls Tryz.prog 8 #[] w fun e w' => e = .returned (.bool true) ∧ Below w.heap.size w w' := by
  have HEE : Hid (∀ W, Below w.heap.size w W → ErrE [1, 2, 3, 4, 5, 6, 8, 9] W a) := fun W hb => hE.below hb (Nat.le_refl _)
  clear hE
  go_enter Tryz.func8, Tryz.ntmps8
  go_wp2_with fail
  refine (nNew_any w).mono ?_
  rintro e w1 ⟨p, F1, rfl, hP1, hF1, hb1⟩
  have HB1 := hideN hb1
  have HP1 := hideN hP1
  have HF1 := hideN hF1
  clear hb1 hP1 hF1
  go_wp2_with fail
  refine (nodePut_any a ⟨#[97]⟩ helloB p F1 0 ⟨[], []⟩ w1 (by decide) (by decide) ⟨by decide, by decide⟩ (fun b hb => by simp at hb) (by simp) ((HEE.out _ HB1.out).sub (by decide)) HP1.out).mono ?_
  rw [show (⟨#[97]⟩ : ByteArray).data.toList = [97] from rfl, show helloB.data.toList = helloL from rfl, put1]
  rintro e w2 ⟨ev2, F2, rfl, he2, hP2, hF2, ho2⟩
  simp only at he2 hP2
  obtain rfl := he2.nil
  have HB2 : Hid (Below w.heap.size w w2) := HB1.out.trans (ho2.below HB1.out.size (fun j hj hF => by have := HF1.out j hF; omega))
  have HP2 := hideN hP2
  have HF2 : Hid (∀ k, F2 k → w.heap.size ≤ k) := fun k hk => by
    rcases hF2 k hk with h | h
    · exact HF1.out k h
    · have := HB1.out.size; omega
  clear he2 hP2 hF2 ho2 HP1 HF1 HB1
  go_wp2_with fail
  refine (nodePut_any a ⟨#[98]⟩ helloB p F2 4000 st1 w2 (by decide) (by decide) ⟨by decide, by decide⟩ ok1.bins (by decide) ((HEE.out _ HB2.out).sub (by decide)) HP2.out).mono ?_
  rw [show (⟨#[98]⟩ : ByteArray).data.toList = [98] from rfl, show helloB.data.toList = helloL from rfl, put2]
  rintro e w3 ⟨ev3, F3, rfl, he3, hP3, hF3, ho3⟩
  simp only at he3 hP3
  obtain rfl := he3.nil
  have HB3 : Hid (Below w.heap.size w w3) := HB2.out.trans (ho3.below HB2.out.size (fun j hj hF => by have := HF2.out j hF; omega))
  have HP3 := hideN hP3
  clear he3 hP3 hF3 ho3 HP2 HF2 HB2
  go_wp2_with fail
  refine (nodeGet_some a ⟨#[98]⟩ p F3 st2 w3 helloL [(idOfL helloL, 2, helloL)] (by decide) (by decide) (by unfold st2; simp [nBin]) hello_got (by decide) (by decide) ((HEE.out _ HB3.out).sub (by decide)) HP3.out).mono ?_
  rintro e w4 ⟨rfl, hb4⟩
  have HB4 : Hid (Below w.heap.size w w4) := HB3.out.trans (hb4.mono HB3.out.size)
  have HP4 := hideN (HP3.out.below hb4)
  clear hb4 HP3 HB3
  have HSZ := hideN (fun W (hW : PNode W p F3 st2) => nodeSize_any p F3 st2 W (fun b hb => (ok2.bins b hb).mono (by decide)) (by decide) hW)
  rw [size2] at HSZ
  go_wp2_with fail
  refine (HSZ.out w4 HP4.out).mono ?_
  rintro e w5 ⟨rfl, hb5⟩
  go_wp2_with fail
  go_ret
  exact ⟨rfl, HB4.out.trans (hb5.mono HB4.out.size)⟩
end Go.Proofs.YtjdobbjdlighpabGreatDoor
namespace Go.Proofs.YtjdobbjdlighpabGreatDoor
open Go.RowKit Go.Maps

abbrev Act3 := ByteArray × ByteArray × ByteArray
def Acts3At (w : World) (v : Value) (l : List Act3) : Prop :=
  ∃ (p : Option Addr) (c : Nat), v = .slice p l.length c ∧ ∀ i (h : i < l.length), ∃ b o, p = some ⟨b, o, none⟩ ∧ b < w.heap.size ∧ w.cell? ⟨b, o + i * 3, none⟩ = some (.string l[i].1) ∧ w.cell? ⟨b, o + i * 3 + 1, none⟩ = some (.string l[i].2.1) ∧ w.cell? ⟨b, o + i * 3 + 2, none⟩ = some (.string l[i].2.2)
theorem Acts3At.below {w w' : World} {v : Value} {l : List Act3} (h : Acts3At w v l) (hb : Below w.heap.size w w') : Acts3At w' v l := by
  obtain ⟨p, c, rfl, h⟩ := h
  refine ⟨p, c, rfl, fun i hi => ?_⟩
  obtain ⟨b, o, hp, hlt, h0, h1, h2⟩ := h i hi
  exact ⟨b, o, hp, Nat.lt_of_lt_of_le hlt hb.size, (hb.cell (p := ⟨b, o + i * 3, none⟩) hlt).trans h0, (hb.cell (p := ⟨b, o + i * 3 + 1, none⟩) hlt).trans h1, (hb.cell (p := ⟨b, o + i * 3 + 2, none⟩) hlt).trans h2⟩
def fits (y : Act3) : Prop := y.2.1.size ≤ 30 ∧ y.2.2.size ≤ 4001
def Long3Post (w : World) (l : List Act3) (m : Nat) (e : Ending) (w' : World) : Prop := ∃ n : Int, e = .returned (.int .i64 n) ∧ w' = w ∧ (n = 0 ∨ n = 1) ∧ (n = 0 → l.length ≤ m ∧ ∀ i (h : i < l.length), fits l[i])
set_option maxRecDepth 100000 in
set_option maxHeartbeats 2000000 in
theorem longActs3_any (v : Value) (l : List Act3) (m : Nat) (w : World) (hm : m ≤ 1000) (hv : Acts3At w v l) :
    Calls Tryz.prog 9 #[v, .int .i64 (m : Int)] w (Long3Post w l m) := by
  obtain ⟨p, c, rfl, hcell⟩ := hv
  by_cases hl : l.length ≤ m
  · have hl' : ¬ (m : Int) < (l.length : Int) := by omega
    go_enter Tryz.func9, Tryz.ntmps9
    go_wp2_with fail
    go_loopw [5] (fun i wr => ∃ j : Nat, j ≤ l.length ∧ i = .int .i64 j ∧ wr = w ∧ Hid (∀ k (hk : k < l.length), k < j → fits l[k])) (fun i _ => l.length - (intOf i).toNat)
    case atStart => exact ⟨0, Nat.zero_le _, rfl, rfl, fun k _ h => by omega⟩
    case round =>
      obtain ⟨j, hj, rfl, hww, HA⟩ := hrel
      subst hww
      by_cases hlt : j < l.length
      · have hlt' : (j : Int) < (l.length : Int) := by omega
        have hj0 : (0 : Int) ≤ (j : Int) := by omega
        obtain ⟨b, o, rfl, _, c0, c1, c2⟩ := hcell j hlt
        have HNX : Hid (fits l[j] → ∀ k (hk : k < l.length), k < j + 1 → fits l[k]) := fun h k hk hkj => by
          rcases Nat.lt_or_ge k j with h' | h'
          · exact HA.out k hk h'
          · obtain rfl : k = j := by omega
            exact h
        obtain ⟨⟨y1, y2, y3⟩, hy⟩ : ∃ y, l[j] = y := ⟨_, rfl⟩
        rw [hy] at c0 c1 c2 HNX
        simp only at c0 c1 c2
        clear hy hcell
        by_cases h1 : (20 : Int) < (y1.size : Int)
        · go_wp2_with fail
          go_ret
          exact ⟨1, rfl, rfl, .inr rfl, fun h => by cases h⟩
        · by_cases h2 : (30 : Int) < (y2.size : Int)
          · go_wp2_with fail
            go_ret
            exact ⟨1, rfl, rfl, .inr rfl, fun h => by cases h⟩
          · by_cases h3 : (600 : Int) < (y3.size : Int)
            · by_cases h4 : (y3.size : Int) = 4001
              · have HN := hideN (HNX.out ⟨by simp only; omega, by simp only; omega⟩)
                go_wp2_with fail
                go_roundw
                case rel => exact ⟨j + 1, hlt, by go_num, by first | rfl | trivial, HN.out⟩
                case measure => simp [intOf]; omega
              · go_wp2_with fail
                go_ret
                exact ⟨1, rfl, rfl, .inr rfl, fun h => by cases h⟩
            · have HN := hideN (HNX.out ⟨by simp only; omega, by simp only; omega⟩)
              go_wp2_with fail
              go_roundw
              case rel => exact ⟨j + 1, hlt, by go_num, by first | rfl | trivial, HN.out⟩
              case measure => simp [intOf]; omega
      · have hge : (l.length : Int) ≤ (j : Int) := by omega
        go_wp2_with fail
        go_ret
        exact ⟨0, rfl, rfl, .inl rfl, fun _ => ⟨hl, fun i hi => HA.out i hi (by omega)⟩⟩
  · have hl' : (m : Int) < (l.length : Int) := by omega
    go_enter Tryz.func9, Tryz.ntmps9
    go_wp2_with fail
    go_ret
    exact ⟨1, rfl, rfl, .inr rfl, fun h => by cases h⟩
end Go.Proofs.YtjdobbjdlighpabGreatDoor
namespace Go.Proofs.YtjdobbjdlighpabGreatDoor
open Go.RowKit

theorem ErrIn.off {base : Nat} {w w' : World} {a : Nat → Addr} {v : Value} {f : Int × Int} {G : Nat → Prop} (h : ErrIn base w a v f) (ho : Off G w w') (hG : ∀ k, base ≤ k → ¬ G k) : ErrIn base w' a v f := by
  rcases h with h | h | ⟨k, pb, po, at0, hk, hl, hv, h0, h1, hf⟩
  · exact .inl h
  · exact .inr (.inl h)
  · have e : ∀ j, w'.cell? ⟨pb, j, none⟩ = w.cell? ⟨pb, j, none⟩ := fun j => World.cell?_of_block (w := w) (ho.block pb (lt_of_cell h0) (hG pb hl))
    exact .inr (.inr ⟨k, pb, po, at0, hk, hl, hv, (e _).trans h0, (e _).trans h1, hf⟩)
end Go.Proofs.YtjdobbjdlighpabGreatDoor
namespace Go.Proofs.YtjdobbjdlighpabGreatDoor
open Go.RowKit Go.Maps

set_option maxRecDepth 100000 in
set_option maxHeartbeats 2000000 in
theorem nodeGet_none (a : Nat → Addr) (nm : ByteArray) (p : Addr) (F : Nat → Prop) (st : NSt) (w : World) (hnm : nm.size ≤ 50000) (hf : nFile st.files nm.data.toList = none) (hE : ErrE [4] w a) (hP : PNode w p F st) :
    Calls Tryz.prog 37 #[.pointer (some p), .string nm] w fun e w' => e = .returned (.tuple #[.string ⟨#[]⟩, sentV a 4]) ∧ Below w.heap.size w w' := by
  obtain ⟨N, mf, mb, vi, pi, Fi, rfl, h, _⟩ := hP
  have q0 := h.blk.cell (i := 0) rfl
  have hnw : WfNm nm.data.toList := by show nm.data.toList.length ≤ maxLen; rw [Array.length_toList]; show nm.size ≤ maxLen; unfold maxLen; omega
  have hnmE : (⟨nm.data.toList.toArray⟩ : ByteArray) = nm := by simp
  have l0 : (Instr.lookup 99 (.map (some mf)) (.string nm) true).run Tryz.prog w = .ok (.tuple #[.agg #[.string ⟨#[]⟩, .int .i64 0, .int .u32 0, .slice none 0 0], .bool false]) w := by
    have := h.files.look_none Tryz.underlying99 (rcpZero _) hnw (fun y hy => by
      obtain ⟨f, hfm, rfl⟩ := List.mem_map.1 hy
      exact nFile_none hf f hfm)
    change (Instr.lookup _ _ (.string ⟨nm.data.toList.toArray⟩) true).run _ _ = _ at this
    rw [hnmE] at this
    exact this
  have hal := (Below.refl w.heap.size w).alloc (Nat.le_refl _) (.cells #[.string ⟨#[]⟩, .int .i64 0, .int .u32 0, .slice none 0 0] 40)
  have g4 := (hE.below hal (Nat.le_refl _)).glob 4 rfl
  change World.cell? _ ⟨0, 0, none⟩ = _ at g4
  have HB := hideN hal
  clear h hf hnmE hE hal
  go_enter Tryz.func37, Tryz.ntmps37
  go_wp2_with fail
  obtain ⟨W1, hW1⟩ : ∃ W1, w.alloc (.cells #[.string ⟨#[]⟩, .int .i64 0, .int .u32 0, .slice none 0 0] 40) = W1 := ⟨_, rfl⟩
  rw [hW1] at g4 HB ⊢
  clear hW1
  go_quiet (fail)
  go_wp2_with fail
  go_ret2
  exact ⟨rfl, HB.out.trans ((below_of_grown (grown_drewN W1 nq)).mono HB.out.size)⟩
structure DoEnv (a : Nat → Addr) (w0 : World) : Prop where
  err : ∀ W, Below w0.heap.size w0 W → ErrW W a
  glob : ∀ i, ([4, 10] : List Nat).contains i = true → errG i < w0.heap.size
def DoPost (w0 : World) (p : Addr) (M k : Nat) (e : Ending) (w' : World) : Prop :=
  e = .returned (.int .i64 1) ∧ ∃ F st G sm, TwoN w0 w' p F st M G sm ∧ ActI (k + 1) st sm
set_option maxRecDepth 100000 in
set_option maxHeartbeats 8000000 in
theorem do_any (a : Nat → Addr) (w0 w : World) (p : Addr) (F : Nat → Prop) (st : NSt) (M : Nat) (G : Nat → Prop) (sm : NSt) (k : Nat) (y1 y2 y3 : ByteArray) (hk : k ≤ 60) (hy2 : y2.size ≤ 30) (hy3 : y3.size ≤ 4001) (hT : TwoN w0 w p F st M G sm) (hI : ActI k st sm) (hE : DoEnv a w0) :
    Calls Tryz.prog 11 #[.pointer (some p), .pointer (some ⟨M, 0, none⟩), .agg #[.string y1, .string y2, .string y3]] w (DoPost w0 p M k) := by
  have HEE := hideN hE.err
  have HGL := hideN hE.glob
  have HI := hideN hI
  have HKB : Hid (4000 * (k : Int) + 5000 ≤ 1000000) := by show _ ≤ _; omega
  have HKH : Hid (k + 1 ≤ 100) := by show _ ≤ _; omega
  have HSM : Hid (∀ k st sm, ActI k st sm → k ≤ 100 → (∀ b ∈ st.bins, BinOk 1000000 b.2) ∧ (∀ b ∈ sm.bins, BinOk 1000000 b.2) ∧ st.bins.length ≤ 1000 ∧ sm.bins.length ≤ 1000 ∧ sm.files.length ≤ 1000 ∧ nSize sm.bins = nSize st.bins) := fun k st sm h hk => by
    have h1 := h.ok.many
    have h2 := h.rel.bins.length_eq
    have h3 := h.rel.files.length_eq
    have h4 := h.full.fmany
    exact ⟨fun b hb => (h.ok.bins b hb).mono (by omega), fun b hb => (h.ok.bins b (h.rel.bins.mem_iff.1 hb)).mono (by omega), by omega, by omega, by omega, nSize_perm h.rel.bins⟩
  have hal := (Below.refl w.heap.size w).alloc (Nat.le_refl _) (.cells #[.string y1, .string y2, .string y3] 37)
  have HBA := hideN (Blk.new w #[.string y1, .string y2, .string y3] 37)
  have HT1 := hideN (hT.next hal)
  have HFW : Hid (∀ j, F j → j < w.heap.size) := hT.node.lt
  have HGW : Hid (∀ j, G j → j < w.heap.size) := hT.doc.lt
  clear hT hI hE hal
  go_enter Tryz.func11, Tryz.ntmps11
  have a0 := HBA.out.cell (i := 0) rfl
  have a1 := HBA.out.cell (i := 1) rfl
  have a2 := HBA.out.cell (i := 2) rfl
  by_cases hput : y1 = ⟨#[112, 117, 116]⟩
  · subst hput
    have HPUT := hideN (fun W (hb : Below w0.heap.size w0 W) (hP : PNode W p F st) => nodePut_any a y2 y3 p F (4000 * (k : Int)) st W (by omega) (by omega) ⟨by omega, by have := HKB.out; omega⟩ HI.out.ok.bins (by have := HI.out.ok.many; omega) ((HEE.out _ hb).on (by decide)) hP)
    have HMP := hideN (fun W F' st' (h : TwoN w0 W p F' st' M G sm) => mnPut h.doc y2 y3 (U := 4000 * (k : Int)) (by omega) (by omega) ⟨by omega, by have := HKB.out; omega⟩ (HI.out.rel.ok HI.out.ok).bins (HSM.out k st sm HI.out (by have := HKH.out; omega)).2.2.2.1 (HSM.out k st sm HI.out (by have := HKH.out; omega)).2.2.2.2.1)
    have HIB := hideN (HI.out.put y2.data.toList y3.data.toList)
    obtain ⟨e1, e2, _⟩ := HI.out.rel.put y2.data.toList y3.data.toList
    obtain ⟨⟨mr, me, smB⟩, hmr⟩ : ∃ r, mPut sm y2.data.toList y3.data.toList = r := ⟨_, rfl⟩
    obtain ⟨⟨fr, ec, stB⟩, hr⟩ : ∃ r, nPut st y2.data.toList y3.data.toList = r := ⟨_, rfl⟩
    unfold NPutPost at HPUT
    unfold MPutPost at HMP
    rw [hr] at HPUT HIB e1 e2
    rw [hmr] at HMP HIB e1 e2
    simp only at HPUT HMP HIB e1 e2
    subst e1 e2
    clear hr hmr
    have hff : (mr == mr) = true := by simp
    go_wp2_with fail
    obtain ⟨W1, hW1⟩ : ∃ W1, w.alloc (.cells #[.string ⟨#[112, 117, 116]⟩, .string y2, .string y3] 37) = W1 := ⟨_, rfl⟩
    rw [hW1] at HBA HT1 ⊢
    have HRW1 : Hid (w.heap.size ≤ W1.heap.size) := by show _ ≤ _; rw [← hW1]; simp
    obtain ⟨RB, hRB⟩ : ∃ RB, w.heap.size = RB := ⟨_, rfl⟩
    rw [hRB] at HBA HFW HGW HRW1 ⊢
    clear hW1 hRB
    refine (HPUT.out W1 HT1.out.below HT1.out.node).mono ?_
    rintro e w4 ⟨ev4, F4, rfl, he4, hP4, hF4, ho4⟩
    have HT4 := hideN (HT1.out.prog hP4 hF4 ho4)
    have HBA4 := hideN (ho4.blk HBA.out (fun hf => by have := HFW.out _ hf; omega))
    have HE4 := hideN he4.at
    have HEI := hideN he4
    have HSZ14 : Hid (W1.heap.size ≤ w4.heap.size) := ho4.size
    clear hP4 hF4 ho4 he4 a0 a1 a2 HPUT
    have b1 := HBA4.out.cell (i := 1) rfl
    have b2 := HBA4.out.cell (i := 2) rfl
    go_wp2_with fail
    refine (HMP.out w4 F4 stB HT4.out).mono ?_
    rintro e w5 ⟨rfl, G5, hM5, hG5, ho5⟩
    have HT5 := hideN (HT4.out.model hM5 hG5 ho5)
    have HE5 := hideN (HEI.out.off ho5 (fun j hj hg => by have := HGW.out j hg; have := HRW1.out; omega)).at
    clear hM5 hG5 ho5 b1 b2 HMP HE4 HEI
    have HCD := hideN (coded2_true a ev4 _ w5 (HEE.out _ HT5.out.below) HE5.out)
    go_wp2_with fail
    refine HCD.out.mono ?_
    rintro e w6 ⟨rfl, hb6⟩
    have HT6 := hideN (HT5.out.next hb6)
    obtain ⟨s1, s2, s3, s4, s5, s6⟩ := HSM.out _ _ _ HIB.out HKH.out
    have HS1 := hideN (nodeSize_any p F4 stB w6 s1 s3 HT6.out.node)
    have HS2 : Hid (∀ W, TwoN w0 W p F4 stB M G5 smB → Calls Tryz.prog 49 #[.pointer (some ⟨M, 0, none⟩)] W fun e w' => e = .returned (.int .i64 (nSize stB.bins)) ∧ w' = W) := fun W h => by
      have := mnSize h.doc s2 s4
      rw [s6] at this
      exact this
    obtain ⟨Z, hZ⟩ : ∃ Z, nSize stB.bins = Z := ⟨_, rfl⟩
    rw [hZ] at HS1 HS2
    have hzz : (Z == Z) = true := by simp
    clear hb6 HCD s1 s2 s3 s4 s5 s6 hZ HE5
    go_wp2_with fail
    refine HS1.out.mono ?_
    rintro e w7 ⟨rfl, hb7⟩
    have HT7 := hideN (HT6.out.next hb7)
    clear hb7 HS1
    go_wp2_with fail
    refine (HS2.out w7 HT7.out).mono ?_
    rintro e w8 ⟨rfl, hw8⟩
    obtain rfl := hw8.symm
    go_wp2_with fail
    go_ret
    exact ⟨rfl, _, _, _, _, HT7.out, HIB.out⟩
  · by_cases hdrop : y1 = ⟨#[100, 114, 111, 112]⟩
    · subst hdrop
      have n1 : ((⟨#[100, 114, 111, 112]⟩ : ByteArray).toList == [112, 117, 116]) = false := strK_ne_lit hput
      clear hput
      have HDROP := hideN (fun W (hb : Below w0.heap.size w0 W) (hP : PNode W p F st) (hn : ∀ j, F j → w0.heap.size ≤ j) => nodeDrop_any a y2 p F st W (by omega) (HSM.out k st sm HI.out (by have := HKH.out; omega)).1 (fun f hf => (HI.out.ok.files f hf).1) HI.out.inv.has ((HEE.out _ hb).on (by decide)) (fun i hi hf => by have h1 := HGL.out i hi; have h2 := hn _ hf; omega) hP)
      have HMD := hideN (fun W F' st' (h : TwoN w0 W p F' st' M G sm) => mnDrop h.doc y2 (HI.out.rel.inv HI.out.inv) (HSM.out k st sm HI.out (by have := HKH.out; omega)).2.1 (fun f hf => (HI.out.ok.files f (HI.out.rel.files.mem_iff.1 hf)).1) (HSM.out k st sm HI.out (by have := HKH.out; omega)).2.2.2.1 (HSM.out k st sm HI.out (by have := HKH.out; omega)).2.2.2.2.1)
      have HIB := hideN (HI.out.drop y2.data.toList)
      have e1 := (HI.out.rel.drop y2.data.toList).1
      obtain ⟨⟨md, smB⟩, hmr⟩ : ∃ r, nDrop sm y2.data.toList = r := ⟨_, rfl⟩
      obtain ⟨⟨dc, stB⟩, hr⟩ : ∃ r, nDrop st y2.data.toList = r := ⟨_, rfl⟩
      unfold NDropPost at HDROP
      unfold MDropPost at HMD
      rw [hr] at HDROP HIB e1
      rw [hmr] at HMD HIB e1
      simp only at HDROP HMD HIB e1
      subst e1
      clear hr hmr
      go_wp2_with fail
      obtain ⟨W1, hW1⟩ : ∃ W1, w.alloc (.cells #[.string ⟨#[100, 114, 111, 112]⟩, .string y2, .string y3] 37) = W1 := ⟨_, rfl⟩
      rw [hW1] at HBA HT1 ⊢
      have HRW1 : Hid (w.heap.size ≤ W1.heap.size) := by show _ ≤ _; rw [← hW1]; simp
      obtain ⟨RB, hRB⟩ : ∃ RB, w.heap.size = RB := ⟨_, rfl⟩
      rw [hRB] at HBA HFW HGW HRW1 ⊢
      clear hW1 hRB
      have HTD := hideN (HT1.out.next (Below.refl _ W1).drew)
      have HBD := hideN (HBA.out.next (Below.refl _ W1).drew)
      go_region_held3 (fun w' => w'.cell? ⟨RB, 1, none⟩ = some (.string y2)) (first | exact HBA6.out.cell (i := 1) rfl | exact HBA5.out.cell (i := 1) rfl | exact HBA4.out.cell (i := 1) rfl | exact HBA.out.cell (i := 1) rfl | go_keep) (first
        | (go_at_call 29; refine (HDROP.out _ HTD.out.below HTD.out.node HTD.out.fnew).mono ?_; rintro e w4 ⟨ev4, F4, rfl, he4, hP4, hF4, ho4⟩; have HT4 := hideN (HTD.out.prog hP4 hF4 ho4); have HBA4 := hideN (ho4.blk HBD.out (fun hf => by have := HFW.out _ hf; omega)); have HEI := hideN he4; clear hP4 hF4 ho4 he4)
        | (go_at_call 46; refine (HMD.out _ F4 stB HT4.out).mono ?_; rintro e w5 ⟨rfl, G5, hM5, hG5, ho5⟩; have HT5 := hideN (HT4.out.model hM5 hG5 ho5); have HE5 := hideN (HEI.out.off ho5 (fun j hj hg => by have h1 := HGW.out j hg; have h2 := HRW1.out; have h3 : W1.heap.size ≤ j := hj; omega)).at; have HBA5 := hideN (ho5.blk HBA4.out (fun hf => by have := HGW.out _ hf; omega)); clear hM5 hG5 ho5)
        | (go_at_call 26; refine (coded2_true a ev4 _ w5 (HEE.out _ HT5.out.below) HE5.out).mono ?_; rintro e w6 ⟨rfl, hb6⟩; have HT6 := hideN (HT5.out.next hb6); have HBA6 := hideN (HBA5.out.next hb6); clear hb6))
      obtain ⟨s1, s2, s3, s4, s5, s6⟩ := HSM.out _ _ _ HIB.out HKH.out
      have HS1 := hideN (nodeSize_any p F4 stB w6 s1 s3 HT6.out.node)
      have HS2 : Hid (∀ W, TwoN w0 W p F4 stB M G5 smB → Calls Tryz.prog 49 #[.pointer (some ⟨M, 0, none⟩)] W fun e w' => e = .returned (.int .i64 (nSize stB.bins)) ∧ w' = W) := fun W h => by
        have := mnSize h.doc s2 s4
        rw [s6] at this
        exact this
      obtain ⟨Z, hZ⟩ : ∃ Z, nSize stB.bins = Z := ⟨_, rfl⟩
      rw [hZ] at HS1 HS2
      have hzz : (Z == Z) = true := by simp
      clear s1 s2 s3 s4 s5 s6 hZ
      go_wp2_with fail
      refine HS1.out.mono ?_
      rintro e w7 ⟨rfl, hb7⟩
      have HT7 := hideN (HT6.out.next hb7)
      clear hb7 HS1
      go_wp2_with fail
      refine (HS2.out w7 HT7.out).mono ?_
      rintro e w8 ⟨rfl, hw8⟩
      obtain rfl := hw8.symm
      go_wp2_with fail
      go_ret
      exact ⟨rfl, _, _, _, _, HT7.out, HIB.out⟩
    · by_cases hsweep : y1 = ⟨#[115, 119, 101, 101, 112]⟩
      · subst hsweep
        have n1 : ((⟨#[115, 119, 101, 101, 112]⟩ : ByteArray).toList == [112, 117, 116]) = false := strK_ne_lit hput
        have n2 : ((⟨#[115, 119, 101, 101, 112]⟩ : ByteArray).toList == [100, 114, 111, 112]) = false := strK_ne_lit hdrop
        clear hput hdrop
        have HSW := hideN (fun W (hP : PNode W p F st) => nodeSweep_any p F st W (HSM.out k st sm HI.out (by have := HKH.out; omega)).1 (HSM.out k st sm HI.out (by have := HKH.out; omega)).2.2.1 hP)
        have HMD := hideN (fun W F' st' (h : TwoN w0 W p F' st' M G sm) => mnSweep h.doc (HSM.out k st sm HI.out (by have := HKH.out; omega)).2.1 (HSM.out k st sm HI.out (by have := HKH.out; omega)).2.2.2.1)
        have HIB := hideN HI.out.sweep
        have e1 := HI.out.rel.sweep.1
        obtain ⟨⟨md, smB⟩, hmr⟩ : ∃ r, nSweep sm = r := ⟨_, rfl⟩
        obtain ⟨⟨gone, stB⟩, hr⟩ : ∃ r, nSweep st = r := ⟨_, rfl⟩
        unfold NSweepPost at HSW
        unfold MDropPost at HMD
        rw [hr] at HSW HIB e1
        rw [hmr] at HMD HIB e1
        simp only at HSW HMD HIB e1
        subst e1
        have hmm : (md == md) = true := by simp
        clear hr hmr
        go_wp2_with fail
        obtain ⟨W1, hW1⟩ : ∃ W1, w.alloc (.cells #[.string ⟨#[115, 119, 101, 101, 112]⟩, .string y2, .string y3] 37) = W1 := ⟨_, rfl⟩
        rw [hW1] at HBA HT1 ⊢
        have HRW1 : Hid (w.heap.size ≤ W1.heap.size) := by show _ ≤ _; rw [← hW1]; simp
        obtain ⟨RB, hRB⟩ : ∃ RB, w.heap.size = RB := ⟨_, rfl⟩
        rw [hRB] at HBA HFW HGW HRW1 ⊢
        clear hW1 hRB
        refine (HSW.out W1 HT1.out.node).mono ?_
        rintro e w4 ⟨F4, rfl, hP4, hF4, ho4⟩
        have HT4 := hideN (HT1.out.prog hP4 hF4 ho4)
        clear hP4 hF4 ho4 a0 a1 a2 HSW
        go_wp2_with fail
        refine (HMD.out w4 F4 stB HT4.out).mono ?_
        rintro e w6 ⟨rfl, G5, hM5, hG5, ho5⟩
        have HT6 := hideN (HT4.out.model hM5 hG5 ho5)
        clear hM5 hG5 ho5 HMD
        obtain ⟨s1, s2, s3, s4, s5, s6⟩ := HSM.out _ _ _ HIB.out HKH.out
        have HS1 := hideN (nodeSize_any p F4 stB w6 s1 s3 HT6.out.node)
        have HS2 : Hid (∀ W, TwoN w0 W p F4 stB M G5 smB → Calls Tryz.prog 49 #[.pointer (some ⟨M, 0, none⟩)] W fun e w' => e = .returned (.int .i64 (nSize stB.bins)) ∧ w' = W) := fun W h => by
          have := mnSize h.doc s2 s4
          rw [s6] at this
          exact this
        obtain ⟨Z, hZ⟩ : ∃ Z, nSize stB.bins = Z := ⟨_, rfl⟩
        rw [hZ] at HS1 HS2
        have hzz : (Z == Z) = true := by simp
        clear s1 s2 s3 s4 s5 s6 hZ
        go_wp2_with fail
        refine HS1.out.mono ?_
        rintro e w7 ⟨rfl, hb7⟩
        have HT7 := hideN (HT6.out.next hb7)
        clear hb7 HS1
        go_wp2_with fail
        refine (HS2.out w7 HT7.out).mono ?_
        rintro e w8 ⟨rfl, hw8⟩
        obtain rfl := hw8.symm
        go_wp2_with fail
        go_ret
        exact ⟨rfl, _, _, _, _, HT7.out, HIB.out⟩
      · have n1 : (y1.toList == [112, 117, 116]) = false := strK_ne_lit hput
        have n2 : (y1.toList == [100, 114, 111, 112]) = false := strK_ne_lit hdrop
        have n3 : (y1.toList == [115, 119, 101, 101, 112]) = false := strK_ne_lit hsweep
        clear hput hdrop hsweep
        have HIB := hideN HI.out.more
        have HG : Hid (∃ (S : ByteArray) (ev : Value) (c : Int), (∀ W, Below w0.heap.size w0 W → PNode W p F st → Calls Tryz.prog 37 #[.pointer (some p), .string y2] W fun e w' => e = .returned (.tuple #[.string S, ev]) ∧ Below W.heap.size W w') ∧ (∀ W, TwoN w0 W p F st M G sm → Calls Tryz.prog 48 #[.pointer (some ⟨M, 0, none⟩), .string y2] W fun e w' => e = .returned (.tuple #[.string S, .int .i64 c]) ∧ Below W.heap.size W w') ∧ ∀ W, ErrIs W a ev (c, -1)) := by
          have hmg := mGet_rel HI.out.rel y2.data.toList
          have hM : ∀ W, TwoN w0 W p F st M G sm → Calls Tryz.prog 48 #[.pointer (some ⟨M, 0, none⟩), .string y2] W fun e w' => e = .returned (.tuple #[.string ⟨(mGet st y2.data.toList).1.toArray⟩, .int .i64 (mGet st y2.data.toList).2]) ∧ Below W.heap.size W w' := fun W h => by
            have := mnGet h.doc y2 (HI.out.rel.inv HI.out.inv) (HI.out.rel.ok HI.out.ok) (HSM.out k st sm HI.out (by have := HKH.out; omega)).2.2.2.1 (HSM.out k st sm HI.out (by have := HKH.out; omega)).2.2.2.2.1
            rw [hmg] at this
            exact this
          cases hf : nFile st.files y2.data.toList with
          | none =>
            have hg : mGet st y2.data.toList = ([], 5) := by unfold mGet; rw [hf]
            rw [hg] at hM
            exact ⟨⟨#[]⟩, sentV a 4, 5, fun W hb hP => nodeGet_none a y2 p F st W (by omega) hf ((HEE.out _ hb).on (by decide)) hP, hM, fun W => .inr (.inl ⟨4, by decide, rfl, rfl⟩)⟩
          | some s =>
            have hg : mGet st y2.data.toList = (s, 0) := by unfold mGet; rw [hf]
            rw [hg] at hM
            obtain ⟨g1, bl, g2, g3⟩ := HI.out.inv.got HI.out.ok (nFile_some hf)
            obtain ⟨g4, g5⟩ := HI.out.ok.files _ (nFile_some hf)
            exact ⟨⟨s.toArray⟩, .nilIface, 0, fun W hb hP => nodeGet_some a y2 p F st W s bl (by omega) g1 g2 g3 g5 g4 ((HEE.out _ hb).on (by decide)) hP, hM, fun W => .inl ⟨rfl, rfl⟩⟩
        obtain ⟨S, ev, c, hP, hM, hE⟩ := HG.out
        have HPG := hideN hP
        have HMG := hideN hM
        have HEV := hideN hE
        have hss : (S.toList == S.toList) = true := by simp
        clear hP hM hE HG
        go_wp2_with fail
        obtain ⟨W1, hW1⟩ : ∃ W1, w.alloc (.cells #[.string y1, .string y2, .string y3] 37) = W1 := ⟨_, rfl⟩
        rw [hW1] at HBA HT1 ⊢
        have HRW1 : Hid (w.heap.size ≤ W1.heap.size) := by show _ ≤ _; rw [← hW1]; simp
        obtain ⟨RB, hRB⟩ : ∃ RB, w.heap.size = RB := ⟨_, rfl⟩
        rw [hRB] at HBA HFW HGW HRW1 ⊢
        clear hW1 hRB
        refine (HPG.out W1 HT1.out.below HT1.out.node).mono ?_
        rintro e w4 ⟨rfl, hb4⟩
        have HT4 := hideN (HT1.out.next hb4)
        have HBA4 := hideN (HBA.out.next hb4)
        clear hb4 a0 a1 a2 HPG
        have b1 := HBA4.out.cell (i := 1) rfl
        go_wp2_with fail
        refine (HMG.out w4 HT4.out).mono ?_
        rintro e w5 ⟨rfl, hb5⟩
        have HT5 := hideN (HT4.out.next hb5)
        clear hb5 b1 HMG
        have HCD := hideN (coded2_true a ev _ w5 (HEE.out _ HT5.out.below) (HEV.out w5))
        go_wp2_with fail
        refine HCD.out.mono ?_
        rintro e w6 ⟨rfl, hb6⟩
        have HT6 := hideN (HT5.out.next hb6)
        clear hb6 HCD
        obtain ⟨s1, s2, s3, s4, s5, s6⟩ := HSM.out _ _ _ HIB.out HKH.out
        have HS1 := hideN (nodeSize_any p F st w6 s1 s3 HT6.out.node)
        have HS2 : Hid (∀ W, TwoN w0 W p F st M G sm → Calls Tryz.prog 49 #[.pointer (some ⟨M, 0, none⟩)] W fun e w' => e = .returned (.int .i64 (nSize st.bins)) ∧ w' = W) := fun W h => by
          have := mnSize h.doc s2 s4
          rw [s6] at this
          exact this
        obtain ⟨Z, hZ⟩ : ∃ Z, nSize st.bins = Z := ⟨_, rfl⟩
        rw [hZ] at HS1 HS2
        have hzz : (Z == Z) = true := by simp
        clear s1 s2 s3 s4 s5 s6 hZ
        go_wp2_with fail
        refine HS1.out.mono ?_
        rintro e w7 ⟨rfl, hb7⟩
        have HT7 := hideN (HT6.out.next hb7)
        clear hb7 HS1
        go_wp2_with fail
        refine (HS2.out w7 HT7.out).mono ?_
        rintro e w8 ⟨rfl, hw8⟩
        obtain rfl := hw8.symm
        go_wp2_with fail
        go_ret
        exact ⟨rfl, _, _, _, _, HT7.out, HIB.out⟩
end Go.Proofs.YtjdobbjdlighpabGreatDoor
namespace Go.Proofs.YtjdobbjdlighpabGreatDoor

theorem sorted_names {ss ns : List (List UInt8)} (hp : ss.Perm ns) (hd : ns.Pairwise (fun a b => a ≠ b)) : (ss.mergeSort (fun x y => decide (x ≤ y))).Perm ns ∧ (ss.mergeSort (fun x y => decide (x ≤ y))).Pairwise (fun a b => a < b) := by
  have h1 : (ss.mergeSort (fun x y => decide (x ≤ y))).Perm ns := (List.mergeSort_perm _ _).trans hp
  have tr : ∀ a b c : List UInt8, decide (a ≤ b) = true → decide (b ≤ c) = true → decide (a ≤ c) = true := fun a b c h1 h2 => by simp only [decide_eq_true_eq] at *; exact List.le_trans h1 h2
  have to : ∀ a b : List UInt8, (decide (a ≤ b) || decide (b ≤ a)) = true := fun a b => by simp only [Bool.or_eq_true, decide_eq_true_eq]; exact List.le_total a b
  have h2 := List.pairwise_mergeSort tr to ss
  have h3 := (h1.pairwise_iff (fun {_ _} hne => Ne.symm hne)).2 hd
  refine ⟨h1, (h2.and h3).imp fun {a b} h => ?_⟩
  obtain ⟨hle, hne⟩ := h
  simp only [decide_eq_true_eq] at hle
  exact (List.le_iff_lt_or_eq.1 hle).resolve_right hne
end Go.Proofs.YtjdobbjdlighpabGreatDoor
namespace Go.Proofs.YtjdobbjdlighpabGreatDoor
open Go.RowKit Go.Maps

def AbidesAt {β : Type} (B : Nat) (J : β → World → Prop) : Prop :=
  ∀ s W W' row, J s W → W.grownBy W' row → (∀ r, row = some r → B ≤ r ∧ ∃ o : Obj, W.heap[r]? = some o ∧ o.isWalk = true) → J s W'
def SeqW {α : Type} (F : Fence) (n : Nat) (P : Program) (g : Nat) (lb : Array Value) (encs : α → Array Value) (S : List α → Prop) (N : Nat) (w : World) : Prop :=
  ∀ (l : Nat) (J : List α → World → Prop) (W : World), Below w.heap.size w W → AbidesAt W.heap.size J →
    (∀ pre x W1, J pre W1 → pre.length < N → YieldAt F (n - 1) P l (encs x) W1 fun e W' => e = .returned (.bool true) ∧ J (pre ++ [x]) W' ∧ KeepsWalks W1 W') →
    J [] W → CallsIn F n P g (#[.func (.yield l) #[] #[]] ++ lb) W fun e W' => (∃ v, e = .returned v) ∧ ∃ xs, S xs ∧ J xs W'
theorem range_walk {α : Type} {F : Fence} {n : Nat} {P : Program} {g : Operand} {ps : Array Tmp} {assign body : Code} {Q : Exit → Act → World → Prop} {a : Act} {w : World}
    (hro : F.round = none) (h1 : 1 ≤ n) {gf : Nat} {lb : Array Value} (hg : a.eval g = .func (.func gf) #[] lb) (hFg : F.fn gf) (eg : ∀ args w, (callFunc gf args).run P w = .ok (.enter gf args) w)
    {encs : α → Array Value} {S : List α → Prop} {N : Nat} {w0 : World} (hseq : SeqW F (n - 1) P gf lb encs S N w0)
    (hb0 : Below w0.heap.size w0 w) (hps : ∀ x, (encs x).size = ps.size)
    (I : List α → World → Prop) (hI : AbidesAt w.heap.size I) (hIp : ∀ pre A l o o', w.heap.size ≤ l → I pre A → A.heap[l]? = some o → o.isCells = false → I pre (A.putObj l o')) (h0 : I [] w)
    (Ax : α → Act → World → Prop) (hAx : ∀ x a' A l o, (∃ r, A.heap[l]? = some (.loop r)) → Ax x a' A → Ax x a' (A.putObj l o))
    (hassign : ∀ (l : Nat) (pre : List α) (x : α) (W : World) (K : Act → World → Prop), I pre W → (∀ a' W', KeepsOthers W W' → I pre W' → Ax x a' W' → K a' W') →
      assign.wpIn (F.inRound l) (n - 1 - 1) P (Exit.then K (fun _ _ _ => False)) { tmps := (ps.zip (encs x)).foldl (fun t (p, v) => t.setIfInBounds p v) a.tmps, defers := [] } W)
    (hbody : ∀ (l : Nat) (pre : List α) (x : α) (a' : Act) (W : World), I pre W → Ax x a' W → pre.length < N → body.wpIn (F.inRound l) (n - 1 - 1) P (fun e _ W' => e = .normal ∧ KeepsOthers W W' ∧ I (pre ++ [x]) W') a' W)
    (hdone : ∀ (D : Nat) (xs : List α) (W : World), w.heap.size ≤ D → S xs → I xs W → W.heap[D]? = some (.deferred (some [])) → Q .normal { a with defers := { target := .collected D, args := #[] } :: a.defers } W) :
    (Code.rangeFunc g ps assign body).wpIn F n P Q a w := by
  refine wpIn_rangeFunc ?_
  intro fn hfn
  rw [hro]
  obtain ⟨lp, hlp⟩ : ∃ lp : LoopState → Loop, lp = fun st => { state := st, pending := none, fn, tmps := a.tmps, params := ps, assign, body, defers := w.heap.size } := ⟨_, rfl⟩
  obtain ⟨V, hV⟩ : ∃ V, (w.alloc (.deferred (some []))).alloc (.loop (lp .ready)) = V := ⟨_, rfl⟩
  have hVs : V.heap.size = w.heap.size + 2 := by rw [← hV]; simp
  have hVl : V.heap[w.heap.size + 1]? = some (.loop (lp .ready)) := by
    rw [← hV]
    have := World.alloc_heap_new (w.alloc (.deferred (some []))) (.loop (lp .ready))
    rwa [World.size_alloc] at this
  have hVd : V.heap[w.heap.size]? = some (.deferred (some [])) := by
    rw [← hV]
    exact (Below.heap_alloc _ _ _ (by simp)).trans (World.alloc_heap_new w _)
  have hVb : Below w.heap.size w V := by rw [← hV]; exact ((Below.refl _ w).alloc (Nat.le_refl _) _).alloc (by simp) _
  have hVI : I [] V := hI [] w V none h0 ⟨hVb.os, hVb.tape, hVb.output, hVb.size, fun k hk _ => hVb.block k hk⟩ (fun r e => by cases e)
  refine ⟨w.heap.size + 1, [{ target := .collected w.heap.size, args := #[] }], V, { target := .fn (.func gf) lb, args := #[.func (.yield (w.heap.size + 1)) #[] #[]] }, V, gf,
    #[.func (.yield (w.heap.size + 1)) #[] #[]] ++ lb, V, ?_, ?_, ?_, ?_, fun _ => h1, ?_⟩
  · rw [← hV, hlp]
    exact run_enterLoop_outer _ _ _ _ _
  · simp only [resolve, hg]
    simp [go_sem]
  · intro f' hf'
    simp [Target.leads] at hf'
    subst hf'
    exact hFg
  · simp [invoke, go_sem, eg]
  refine (hseq (w.heap.size + 1) (fun pre W => I pre W ∧ W.heap[w.heap.size + 1]? = some (.loop (lp .ready)) ∧ W.heap[w.heap.size]? = some (.deferred (some []))) V (hb0.trans (hVb.mono hb0.size))
    (fun s A B row h hg hrow => ⟨hI s A B row h.1 hg (fun r e => ⟨by have := (hrow r e).1; omega, (hrow r e).2⟩), (grownBy_keeps hg (fun r e => (hrow r e).2) h.2.1 rfl).trans h.2.1, (grownBy_keeps hg (fun r e => (hrow r e).2) h.2.2 rfl).trans h.2.2⟩) ?_ ⟨hVI, hVl, hVd⟩).mono ?_
  · rintro pre x W ⟨hi, hl, hd⟩ hlen
    have hlt : w.heap.size + 1 < W.heap.size := (Array.getElem?_eq_some_iff.1 hl).1
    have hy := run_yield (P := P) (args := encs x) hl (by rw [hlp]; exact hps x)
    rw [hlp] at hy
    refine ⟨fn, _, assign, body, hy, roundIn_of_wpIn hfn (hassign _ pre x W _ hi ?_)⟩
    clear hy
    intro a' Wa hka hia hax
    have hla := hka.same _ _ hl rfl
    have hda := hka.same _ _ hd rfl
    have hlta : w.heap.size + 1 < Wa.heap.size := (Array.getElem?_eq_some_iff.1 hla).1
    refine ⟨_, run_beginRound hla (by rw [hlp]), ?_⟩
    refine wpIn_mono (hbody _ pre x a' _ (hIp _ _ _ _ _ (by omega) hia hla rfl) (hAx x a' Wa _ _ ⟨_, hla⟩ hax) hlen) ?_
    rintro e a3 W3 ⟨rfl, hkb, hi3⟩
    have hlb := hkb.same _ _ (World.putObj_heap_same hlta) rfl
    have hdb := hkb.same _ _ ((World.putObj_heap_other (w := Wa) (r := w.heap.size + 1) (k := w.heap.size) (by omega)).trans hda) rfl
    have hr := run_endRound (P := P) none hlb
    have hlt3 : w.heap.size + 1 < W3.heap.size := (Array.getElem?_eq_some_iff.1 hlb).1
    refine ⟨_, _, hr, rfl, ⟨hIp _ _ _ _ _ (by omega) hi3 hlb rfl, ?_, (World.putObj_heap_other (by omega)).trans hdb⟩, ?_⟩
    · rw [World.putObj_heap_same hlt3, hlp]
      rfl
    · refine ⟨?_, fun b o hb hw => ?_⟩
      · have h1 := hka.size
        have h2 := hkb.size
        simp at h2 ⊢
        omega
      · have hbl : b ≠ w.heap.size + 1 := fun e => by
          subst e
          rw [hl] at hb
          cases hb
          cases hw
        have hnc : o.isCells = false := by
          cases o <;> first | rfl | cases hw
        exact (World.putObj_heap_other hbl).trans (hkb.same _ _ ((World.putObj_heap_other hbl).trans (hka.same _ _ hb hnc)) hnc)
  · rintro e W2 ⟨⟨v, rfl⟩, xs, hS, hi, hl, hd⟩
    have he := run_endLoop (P := P) hl (by rw [hlp]; simp)
    rw [hlp] at he
    exact ⟨none, _, he, hdone _ xs _ (Nat.le_refl _) hS (hIp _ _ _ _ _ (by omega) hi hl rfl) ((World.putObj_heap_other (by omega)).trans hd)⟩

section
variable {F : Fence} {nF : Nat} {P : Program} {k : TypeId} {κ β : Type}
variable {ops : Array Oper} {rest : List Oper} {o : Oper} {a : Act} {Q : Exit → Act → World → Prop}
theorem wpIn_range_kit [DecidableEq κ] (M : MapKit P k κ β) (w : World) (hg : o.guard = none) (m : Operand) (t : TypeId) (hop : o.op = Op.range t m) (e : TypeId) (ht : P.underlying t = some (.map k e)) (b : Nat) (l : List (κ × β)) (hm : a.eval m = .map (some b)) (h : M.Of w b l)
    (hK : ∀ w', M.Rng w' b w.heap.size l (fun x => decide (x ∈ l.map (·.1))) l.length → w.grownBy w' none → w'.heap.size = w.heap.size + 1 → wpListIn F nF P ops Q rest (a.put o.dst (.pointer (some ⟨w.heap.size, 0, none⟩))) w') :
    wpListIn F nF P ops Q (o :: rest) a w := by
  obtain ⟨ds, ho, hp⟩ := h.own
  refine wpListIn_range_own w hg m t hop k e M.K ht M.R b ds.length (.map ds) hm ho fun w' hr hgr hs => hK w' ⟨⟨ds, ds.length, Maps.has (DataW.map ds), ?_, hp, fun x hx => ?_⟩, h.wf⟩ hgr hs
  · have e : Maps.size (DataW.map ds) = l.length := by show ds.length = _; rw [hp.length_eq, List.length_map]
    rw [← e]
    exact hr
  · rw [Bool.eq_iff_iff, Maps.has_eq, List.any_eq_true, decide_eq_true_eq]
    constructor
    · rintro ⟨p, hm, hs⟩
      obtain ⟨y, hy, rfl⟩ := List.mem_map.1 (hp.mem_iff.1 hm)
      have hxy : y.1 = x := M.kl_inj (h.wf y hy) hx (WideAt.sameKey_eq hs)
      exact List.mem_map.2 ⟨y, hy, hxy⟩
    · intro hm
      obtain ⟨y, hy, rfl⟩ := List.mem_map.1 hm
      exact ⟨M.ent y, hp.mem_iff.2 (List.mem_map.2 ⟨y, hy, rfl⟩), WideAt.sameKey_self (M.isKey hx)⟩
theorem wpIn_next_kit [DecidableEq κ] (M : MapKit P k κ β) (w : World) (hg : o.guard = none) (it : Operand) (hop : o.op = Op.next it false) (b r : Nat) (l : List (κ × β)) (left : κ → Bool) (cnt : Nat) (hit : a.eval it = .pointer (some ⟨r, 0, none⟩)) (h : M.Rng w b r l left cnt)
    (hDone : (∀ h ∈ l, left h.1 = false) → wpListIn F nF P ops Q rest (a.put o.dst (.tuple #[.bool false])) w)
    (hMore : ∀ (x : κ) (c : β) (w' : World) (cnt' : Nat), (x, c) ∈ l → left x = true → M.Rng w' b r l (fun y => left y && !decide (y = x)) cnt' → cnt' < cnt → w.grownBy w' (some r) → w'.heap.size = w.heap.size →
      (Instr.entry (.pointer (some ⟨r, 0, none⟩))).run P w' = .ok (.tuple #[M.mkK x, M.mkV c]) w' → wpListIn F nF P ops Q rest (a.put o.dst (.tuple #[.bool true, M.mkK x, M.mkV c])) w') :
    wpListIn F nF P ops Q (o :: rest) a w := by
  obtain ⟨ds, n, lf, hr, hp, hl⟩ := h.at'
  refine wpListIn_next_ranges w hg it hop k M.K M.R M.mkK M.mkV (fun key kl hk => ?_) (fun v y hv => ?_) b r n (.map ds) lf cnt hit hr (fun _ h0 => hDone (fun y hy => by rw [← hl _ (h.wf y hy)]; exact h0 _)) ?_
  · obtain ⟨x, _, rfl⟩ := M.inv key kl hk
    exact ⟨x, rfl⟩
  · obtain ⟨c, rfl, _⟩ := M.R_inv hv
    exact ⟨c, rfl⟩
  · intro x c kl y w' cnt' hkey hlk hv hat hrg hlt hgr hsz hen
    obtain ⟨x', hx', e⟩ := M.inv _ _ hkey
    obtain rfl := M.inj _ _ e
    have ekl : kl = M.kl x := Option.some.inj (hkey.symm.trans (M.key_kl hx'))
    subst ekl
    have ey : y = (.held (M.mkV c), []) := by rw [M.R_mk] at hv; exact (Option.some.inj hv).symm
    have hm : (x, c) ∈ l := by
      have hh := Maps.has_true_of_atKey (fun z => hat z)
      rw [Maps.has_eq, List.any_eq_true] at hh
      obtain ⟨p, hpm, hs⟩ := hh
      obtain ⟨q, hq, rfl⟩ := List.mem_map.1 (hp.mem_iff.1 hpm)
      have hqx : q.1 = x := M.kl_inj (h.wf q hq) hx' (WideAt.sameKey_eq hs)
      obtain ⟨es, e, hap, _⟩ := hr.owns.entries M.K
      cases e
      have h2 := WideAt.atKey_mem (DataW.nil) (M.isKey (h.wf q hq)) hap hpm
      have h3 := hat DataW.nil
      rw [← hqx, h2, ey] at h3
      have h4 : M.mkV q.2 = M.mkV c := DataW.held.inj h3
      have h5 : q.2 = c := by have := M.un q.2; rw [h4, M.un] at this; exact (Option.some.inj this).symm
      rw [← hqx, ← h5]
      exact hq
    refine hMore x c w' cnt' hm (by rw [← hl x hx']; exact hlk) ⟨⟨ds, n, _, hrg, hp, fun z hz => ?_⟩, h.wf⟩ hlt hgr hsz hen
    rw [hl z hz, M.same hz hx']
theorem MapKit.Rng.of_walks {M : MapKit P k κ β} {w w' : World} {b r : Nat} {l : List (κ × β)} {left : κ → Bool} {cnt : Nat} (h : M.Rng w b r l left cnt) (hk : KeepsWalks w w') : M.Rng w' b r l left cnt := by
  obtain ⟨ds, n, lf, h1, hp, hl⟩ := h.at'
  exact ⟨⟨ds, n, lf, h1.of_walks hk, hp, hl⟩, h.wf⟩
theorem MapKit.Rng.iter_walk {M : MapKit P k κ β} {w : World} {b r : Nat} {l : List (κ × β)} {left : κ → Bool} {cnt : Nat} (h : M.Rng w b r l left cnt) : ∃ o : Obj, w.heap[r]? = some o ∧ o.isWalk = true := by
  obtain ⟨ds, n, lf, h1, hp, hl⟩ := h.at'
  exact h1.iter_walk
end
end Go.Proofs.YtjdobbjdlighpabGreatDoor
