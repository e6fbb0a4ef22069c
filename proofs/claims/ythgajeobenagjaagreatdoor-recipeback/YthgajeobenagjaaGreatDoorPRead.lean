/-
  Own text. The program's recipe.readLen, recipe.readWords and recipe.Read by contracts, where a right recipe is read.
-/
import Derived.Test.YthgajeobenagjaaGreatDoorPText
import Derived.Lib.SplitLaws
namespace Go.Proofs.YthgajeobenagjaaGreatDoor
open Go.RowKit

theorem splitK_cut (c : UInt8) : ∀ (k : Nat) (s : List UInt8), Lib.count s [c] = k → Lib.splitK [c] 0 k s = cutBy c s
  | 0, s, h => by
    have hi : Lib.index s [c] = -1 := by
      have hge := Lib.index_ge s [c]
      rcases Int.lt_or_le (Lib.index s [c]) 0 with h0 | h0
      · omega
      · obtain ⟨i, hi⟩ := Int.eq_ofNat_of_zero_le h0
        have := Lib.count_hit (by simp) hi
        omega
    rw [Lib.index_one] at hi
    have hn : c ∉ s := fun hm => by
      obtain ⟨j, hj, e⟩ := List.getElem_of_mem hm
      exact Lib.indexByte_none hi j (by rw [List.getElem?_eq_getElem hj, e])
    rw [cutBy_noc c s hn]
    rfl
  | k + 1, s, h => by
    have hge := Lib.index_ge s [c]
    have hne : Lib.index s [c] ≠ -1 := fun e => by rw [Lib.count_miss e] at h; omega
    obtain ⟨i, hi⟩ : ∃ i : Nat, Lib.index s [c] = i := ⟨(Lib.index s [c]).toNat, by omega⟩
    have hc := Lib.count_hit (by simp) hi
    have hi2 := hi
    rw [Lib.index_one] at hi2
    obtain ⟨h1, h2⟩ := Lib.indexByte_some hi2
    obtain ⟨hlt, hsi⟩ := List.getElem?_eq_some_iff.1 h1
    have hn : c ∉ s.take i := fun hm => by
      obtain ⟨j, hj, e⟩ := List.getElem_of_mem hm
      have hji : j < i := by simp at hj; omega
      refine h2 j hji ?_
      rw [List.getElem?_eq_getElem (by omega)]
      rw [List.getElem_take] at e
      rw [e]
    have hs : s = s.take i ++ c :: s.drop (i + 1) := by
      rw [← hsi, ← List.drop_eq_getElem_cons hlt, List.take_append_drop]
    rw [Lib.splitK, if_neg (by rw [hi]; simp), hi]
    have e1 : ((i : Int)).toNat = i := Int.toNat_natCast i
    rw [e1, Nat.add_zero]
    have hlen : ([c] : List UInt8).length = 1 := rfl
    rw [hlen] at hc ⊢
    rw [splitK_cut c k _ (by omega)]
    conv => rhs; rw [hs]
    rw [cutBy_split c _ _ hn]
theorem split_words (s : ByteArray) : (Lib.splitB ⟨#[32]⟩ 0 (Lib.countB s ⟨#[32]⟩) s) = (cutBy 32 s.data.toList).map fun l => (⟨l.toArray⟩ : ByteArray) := by
  have h := Lib.splitB_data ⟨#[32]⟩ 0 (Lib.countB s ⟨#[32]⟩) s
  have h2 : Lib.splitK [32] 0 (Lib.count s.data.toList [32]) s.data.toList = cutBy 32 s.data.toList := splitK_cut 32 _ _ rfl
  have h3 : (Lib.splitB ⟨#[32]⟩ 0 (Lib.countB s ⟨#[32]⟩) s).map (·.data.toList) = cutBy 32 s.data.toList := h.trans h2
  rw [← h3, List.map_map]
  have : ((fun (l : List UInt8) => (⟨l.toArray⟩ : ByteArray)) ∘ fun (x : ByteArray) => x.data.toList) = id := by funext x; simp
  rw [this, List.map_id]

theorem num_first {l : List UInt8} {n : Nat} (h : numOf l 6 = some n) : l.length ≤ 6 ∧ areN l = true ∧ numOf l 9 = some n ∧ Lib.hasPrefix l [45] = false := by
  have hl : l.length ≤ 6 := by
    unfold numOf at h
    split at h
    · cases h
    · omega
  have ha : areN l = true := by
    unfold areN
    rw [← numOf_areN l 6 hl, h]
    rfl
  obtain ⟨m, hm, hmo⟩ := areN_some ha
  have e : m = n := by have := hmo 6 hl; rw [h] at this; exact (Option.some.inj this).symm
  subst e
  refine ⟨hl, ha, hmo 9 (by omega), ?_⟩
  unfold Lib.hasPrefix
  cases l with
  | nil => rfl
  | cons x r =>
    cases hx : ([45] : List UInt8).isPrefixOf (x :: r) with
    | false => rfl
    | true =>
      have hx45 : x = 45 := by simp [List.isPrefixOf] at hx; exact hx.symm
      subst hx45
      simp [undec, undec1] at hm

set_option maxRecDepth 100000 in
set_option maxHeartbeats 4000000 in
theorem readLen_fine (s : ByteArray) (n : Nat) (h : numOf s.data.toList 6 = some n) (w : World) :
    Calls Tryz.prog 62 #[.string s] w fun e w' => e = .returned (.tuple #[.int .i64 n, .bool true]) ∧ w' = w := by
  obtain ⟨h6, ha, h9, hp⟩ := num_first h
  have HS : Hid (s.size ≤ maxLen) := by
    show _ ≤ _
    have : s.data.toList.length = s.size := len_toList s
    unfold maxLen
    omega
  have HC : Hid (∀ w : World, Calls Tryz.prog 76 #[.string s, .string ⟨#[45]⟩] w fun e w' => e = .returned (.tuple #[.string s, .bool false]) ∧ w' = w) := fun w => by
    refine (Tryz.strings_CutPrefix s ⟨#[45]⟩ w).mono fun e w' ⟨h1, h2⟩ => ⟨?_, h2⟩
    have e1 : Lib.hasPrefix s.data.toList (⟨#[45]⟩ : ByteArray).data.toList = false := hp
    have e2 : (⟨(Lib.trimPrefix s.data.toList (⟨#[45]⟩ : ByteArray).data.toList).toArray⟩ : ByteArray) = s := by
      unfold Lib.trimPrefix
      rw [e1]
      simp
    rw [h1, e1, e2]
  have HA : Hid (areN s.data.toList = true) := ha
  have H9 : Hid (numOf s.data.toList 9 = some n) := h9
  clear h6 ha h9 hp h
  go_enter Tryz.func62, Tryz.ntmps62
  go_wp2_with fail
  refine (HC.out _).mono ?_
  rintro e w1 ⟨rfl, hw1⟩
  subst hw1
  go_wp2_with fail
  refine (are_any s HS.out _).mono ?_
  rintro e w1 ⟨rfl, hw1⟩
  subst hw1
  rw [HA.out]
  go_wp2_with fail
  refine (digRead9 s HS.out _).mono ?_
  rintro e w1 ⟨rfl, hw1⟩
  subst hw1
  rw [H9.out]
  unfold lenRes
  go_wp2_with fail
  go_ret2
  exact ⟨rfl, rfl⟩

theorem sl_three (g n : Nat) (hn : 3 ≤ n) : ∃ P4 c4, (∀ w : World, (Instr.slice 31 (.slice (some ⟨g, 0, none⟩) n n) (some (.int .i64 3)) none none).run Tryz.prog w = .ok (.slice P4 (n - 3) c4) w) ∧ (3 < n → P4 = some ⟨g, 3, none⟩) := by
  have hj2 : (3 : Int) ≤ (n : Int) := by omega
  by_cases hcap : n = 3
  · refine ⟨some ⟨g, 0, none⟩, n - 3, fun w => ?_, fun h => by omega⟩
    go_simp
  · refine ⟨some ⟨g, 3, none⟩, n - 3, fun w => ?_, fun h => rfl⟩
    go_simp

theorem readIds_at : ∀ (l : List (List UInt8)) (ids : List (Nat × Int)), readIds l = some ids → l.length = ids.length ∧ ∀ i (h : i < l.length) (h' : i < ids.length), ∃ x, idRead l[i] = some x ∧ ids[i] = (x.1, (x.2 : Int))
  | [], ids, h => by
    cases h
    exact ⟨rfl, fun i h => by simp at h⟩
  | t :: r, ids, h => by
    rw [readIds] at h
    split at h
    · rename_i x js hx hj
      cases h
      obtain ⟨h1, h2⟩ := readIds_at r js hj
      refine ⟨by simp [h1], fun i hi hi' => ?_⟩
      cases i with
      | zero => exact ⟨x, hx, rfl⟩
      | succ i => exact h2 i (by simpa using hi) (by simpa using hi')
    · cases h
theorem idCells_snoc (ids : List (Nat × Int)) (k : Nat) (h : k < ids.length) : idCells (ids.take (k + 1)) = idCells (ids.take k) ++ [.int .u32 (ids[k].1 : Nat), .int .i64 ids[k].2] := by
  rw [List.take_succ_eq_append_getElem h, idCells_append]
  rfl

set_option maxRecDepth 100000 in
set_option maxHeartbeats 4000000 in
theorem readWords_fine (a : Nat → Addr) (B : Nat) (nm ln pr : List UInt8) (rs : List (List UInt8)) (n p : Nat) (ids : List (Nat × Int)) (w : World) (hE : ErrW w a)
    (hB : Blk w B ((nm :: ln :: pr :: rs).map strV).toArray 9) (hsz : rs.length ≤ 40000) (hrs : ∀ q ∈ rs, q.length ≤ 40000) (hn : numOf ln 6 = some n) (hp : unhex8 pr = some p) (hi : readIds rs = some ids) :
    Calls Tryz.prog 35 #[.slice (some ⟨B, 0, none⟩) (rs.length + 3) (rs.length + 3)] w fun e w' => ∃ v, e = .returned (.tuple #[rcpV ⟨nm.toArray⟩ n (p : Nat) v, .nilIface]) ∧ IdsIn w.heap.size w' v ids ∧ Below w.heap.size w w' := by
  obtain ⟨i0, hi0, hz0, hz1, hz2⟩ := info_parts infoID
  obtain ⟨hil, hia⟩ := readIds_at rs ids hi
  have HG : Hid (∀ W', Below w.heap.size w W' → W'.cell? ⟨5, 0, none⟩ = some (sentV a 0)) := fun W' hb => (hE.below hb (Nat.le_refl _)).glob 0 (by decide)
  have HIA : Hid (∀ i (h : i < rs.length) (h' : i < ids.length), ∃ x, idRead rs[i] = some x ∧ ids[i] = (x.1, (x.2 : Int))) := hia
  have HIL : Hid (rs.length = ids.length) := hil
  have HRS : Hid (∀ i (h : i < rs.length), rs[i].length ≤ 40000) := fun i h => hrs _ (List.getElem_mem h)
  have hsz' : (rs.length : Int) ≤ 40000 := by omega
  obtain ⟨NM, hNM⟩ : ∃ NM : ByteArray, (⟨nm.toArray⟩ : ByteArray) = NM := ⟨_, rfl⟩
  obtain ⟨LN, hLN⟩ : ∃ LN : ByteArray, (⟨ln.toArray⟩ : ByteArray) = LN := ⟨_, rfl⟩
  obtain ⟨PR, hPR⟩ : ∃ PR : ByteArray, (⟨pr.toArray⟩ : ByteArray) = PR := ⟨_, rfl⟩
  rw [hNM]
  have HLN : Hid (numOf LN.data.toList 6 = some n) := by show _ = _; rw [← hLN]; exact hn
  have HPR : Hid (unhex8 PR.data.toList = some p) := by show _ = _; rw [← hPR]; exact hp
  have HC0 : Hid (∀ W', Below w.heap.size w W' → W'.cell? ⟨B, 0, none⟩ = some (.string NM) ∧ W'.cell? ⟨B, 1, none⟩ = some (.string LN) ∧ W'.cell? ⟨B, 2, none⟩ = some (.string PR)) := fun W' hb => by
    have h := hB.next hb
    rw [← hNM, ← hLN, ← hPR]
    exact ⟨h.cell (i := 0) (by simp), h.cell (i := 1) (by simp), h.cell (i := 2) (by simp)⟩
  have HCR : Hid (∀ W', Below w.heap.size w W' → ∀ i (h : i < rs.length), W'.cell? ⟨B, 3 + i, none⟩ = some (strV rs[i])) := fun W' hb i hi => by
    refine (hB.next hb).cell (i := 3 + i) ?_
    rw [Nat.add_comm]
    simp [hi]
  have hBl := hB.lt
  clear hNM hLN hPR hn hp hi hil hia hrs hE hB
  obtain ⟨P4, c4, hsl, hP4⟩ := sl_three B (rs.length + 3) (by omega)
  have HP4 : Hid (0 < rs.length → P4 = some ⟨B, 3, none⟩) := fun h => hP4 (by omega)
  rw [Nat.add_sub_cancel] at hsl
  obtain ⟨N, hN⟩ : ∃ N, rs.length + 3 = N := ⟨_, rfl⟩
  rw [hN] at hsl ⊢
  have hN3 : (3 : Int) ≤ (N : Int) := by omega
  have hN3' : ¬ (N : Int) < 3 := by omega
  clear hP4 hN hsz
  have hbR : Below w.heap.size w (w.alloc (.cells #[.string ⟨#[]⟩, .int .i64 0, .int .u32 0, .slice none 0 0] 26)) := (Below.refl _ w).alloc (Nat.le_refl _) _
  have hR0 := Blk.new w #[.string ⟨#[]⟩, .int .i64 0, .int .u32 0, .slice none 0 0] 26
  obtain ⟨d0, d1, d2⟩ := HC0.out _ hbR
  go_enter Tryz.func35, Tryz.ntmps35
  go_wp2_with fail
  refine (readLen_fine LN n HLN.out _).mono ?_
  rintro e w1 ⟨rfl, hw1⟩
  subst hw1
  go_wp2_with fail
  refine (readHex_any PR _).mono ?_
  rintro e w1 ⟨rfl, hw1⟩
  subst hw1
  rw [HPR.out]
  unfold hexRes
  go_wp2_with fail
  have hX0 := Blk.new (w.alloc (.cells #[.string ⟨#[]⟩, .int .i64 0, .int .u32 0, .slice none 0 0] 26)) #[.string NM, .int .i64 (n : Nat), .int .u32 (p : Nat), .slice none 0 0] 26
  rw [World.size_alloc] at hX0
  have hal2 := (Below.refl (w.alloc (.cells #[.string ⟨#[]⟩, .int .i64 0, .int .u32 0, .slice none 0 0] 26)).heap.size (w.alloc (.cells #[.string ⟨#[]⟩, .int .i64 0, .int .u32 0, .slice none 0 0] 26))).alloc (Nat.le_refl _) (.cells #[.string NM, .int .i64 (n : Nat), .int .u32 (p : Nat), .slice none 0 0] 26)
  replace hR0 := hR0.next hal2
  replace hbR := hbR.trans (hal2.mono (by simp))
  have hZ : ((w.alloc (.cells #[.string ⟨#[]⟩, .int .i64 0, .int .u32 0, .slice none 0 0] 26)).alloc (.cells #[.string NM, .int .i64 (n : Nat), .int .u32 (p : Nat), .slice none 0 0] 26)).heap.size = w.heap.size + 2 := by simp
  obtain ⟨W0, hW0⟩ : ∃ W0, (w.alloc (.cells #[.string ⟨#[]⟩, .int .i64 0, .int .u32 0, .slice none 0 0] 26)).alloc (.cells #[.string NM, .int .i64 (n : Nat), .int .u32 (p : Nat), .slice none 0 0] 26) = W0 := ⟨_, rfl⟩
  rw [hW0] at hX0 hR0 hbR hZ ⊢
  clear hW0 hal2 d0 d1 d2
  go_loopw [49] (fun i wr => ∃ (k : Nat) (v : Value), k ≤ rs.length ∧ i = .int .i64 k ∧ wr.ownsRow (w.heap.size + 2) 40 2 v k (idCells (ids.take k)) ∧ w.heap.size + 2 ≤ wr.heap.size ∧ Below w.heap.size w wr ∧ Blk wr w.heap.size #[.string ⟨#[]⟩, .int .i64 0, .int .u32 0, .slice none 0 0] 26 ∧ Blk wr (w.heap.size + 1) #[.string NM, .int .i64 (n : Nat), .int .u32 (p : Nat), v] 26) (fun i _ => rs.length - (intOf i).toNat)
  case atStart => exact ⟨0, .slice none 0 0, Nat.zero_le _, rfl, World.ownsRow_nil _ _ _ _, by omega, hbR, hR0, hX0⟩
  case round =>
    clear hX0 hR0 hbR
    obtain ⟨k, v, hk, rfl, hown, hwz, hbr, hR, hX⟩ := hrel
    by_cases hlt : k < rs.length
    · have hlt' : (k : Int) < (rs.length : Int) := by omega
      have hki : k < ids.length := by have := HIL.out; omega
      obtain rfl := HP4.out (by omega)
      have hc' := HCR.out wr hbr k hlt
      obtain ⟨x, hx1, hx2⟩ := HIA.out k hlt hki
      have HNX : Hid (idCells (ids.take (k + 1)) = idCells (ids.take k) ++ [.int .u32 (ids[k].1 : Nat), .int .i64 ids[k].2]) := idCells_snoc ids k hki
      rw [hx2] at HNX
      obtain ⟨q, hq⟩ : ∃ q : ByteArray, (⟨rs[k].toArray⟩ : ByteArray) = q := ⟨_, rfl⟩
      have HQM : Hid (q.size ≤ maxLen) := by
        show _ ≤ _
        have h1 := HRS.out k hlt
        have h2 : q.size = rs[k].length := by rw [← hq]; rfl
        unfold maxLen
        omega
      have HIR : Hid (idRead q.data.toList = some x) := by show _ = _; rw [← hq]; exact hx1
      rw [strV, hq] at hc'
      obtain ⟨Q, L⟩ := x
      simp only at HNX
      have hgt := HG.out wr hbr
      clear hq hx1 hx2
      obtain ⟨pv, cv, rfl⟩ : ∃ pv cv, v = .slice pv k cv := by
        obtain ⟨_, h⟩ := hown
        rcases h with ⟨rfl, h0⟩ | ⟨g, cap, cur, rfl, _⟩
        · exact ⟨none, 0, by rw [h0]⟩
        · exact ⟨_, _, rfl⟩
      have hne1 : (Value.slice pv k cv).ownBlock ≠ some (w.heap.size + 1) := fun e => by have := own_base hown e; omega
      have hne0 : (Value.slice pv k cv).ownBlock ≠ some w.heap.size := fun e => by have := own_base hown e; omega
      go_wp2_with fail
      refine (read_any q HQM.out (sentV a 0) _ hgt).mono ?_
      rintro e w2 ⟨rfl, hb2⟩
      rw [HIR.out]
      unfold readRes
      have hX2 := hX.next hb2
      have hR2 := hR.next hb2
      have hown2 := row_below hown hb2
      have hw2 : w.heap.size + 2 ≤ w2.heap.size := Nat.le_trans hwz hb2.size
      have hB2 : Below w.heap.size w w2 := hbr.trans (hb2.mono hbr.size)
      have x32 := hX2.cell (i := 3) rfl
      have hXl := hX2.lt
      clear hown hX hR hbr hwz hgt hc' hb2
      go_wp2_with (at_builtin; refine wpList_append_own _ rfl (.tmp 63) (.tmp 65) 24 rfl (w.heap.size + 2) 40 i0 (idV 0 0) 2 16 Tryz.underlying24 hi0 hz0 hz1 hz2 rfl (by decide) _ _ _ rfl ((hown2.alloc _).alloc _) ⟨w2.heap.size + 1, 0, none⟩ 1 1 [.int .u32 (Q : Nat), .int .i64 (L : Nat)] rfl rfl (two_new _ _ _ _ _ (by simp)) (by simp [Value.oneCell']) (by unfold maxLen; omega) (by omega) (by simp; omega) ?_; intro v' w3 hown' hgrow _; obtain ⟨g', cap', rfl⟩ := ownsRow_succ hown'; have hX3 : Blk w3 (w.heap.size + 1) #[.string NM, .int .i64 (n : Nat), .int .u32 (p : Nat), .slice pv k cv] 26 := (hgrow.block _ (by simp; omega) (fun e => hne1 e.symm)).trans ((hX2.next ((Below.refl _ w2).alloc (Nat.le_refl _) _)).next ((Below.refl _ _).alloc (Nat.le_refl _) _)); have hR3 : Blk w3 w.heap.size #[.string ⟨#[]⟩, .int .i64 0, .int .u32 0, .slice none 0 0] 26 := (hgrow.block _ (by simp; omega) (fun e => hne0 e.symm)).trans ((hR2.next ((Below.refl _ w2).alloc (Nat.le_refl _) _)).next ((Below.refl _ _).alloc (Nat.le_refl _) _)); have x33 := hX3.cell (i := 3) rfl; have f33 := hX3.frozen 3)
      have hB3 : Below w.heap.size w w3 := ((hB2.alloc hB2.size _).alloc (by have := hB2.size; simp; omega) _).grown hgrow (by simp; omega) (fun j e => by have := own_base hown2 e; omega)
      have hw3 : w.heap.size + 2 ≤ w3.heap.size := by have := hgrow.size; simp at this; omega
      have hX4 := hX3.set 3 (.slice (some ⟨g', 0, none⟩) (k + 1) cap')
      have hR4 := hR3.other (a := ⟨w.heap.size + 1, 3, none⟩) (show w.heap.size ≠ w.heap.size + 1 by omega) (.slice (some ⟨g', 0, none⟩) (k + 1) cap')
      have hr4 := ownsRow_setCell_below hown' (a := ⟨w.heap.size + 1, 3, none⟩) (show w.heap.size + 1 < w.heap.size + 2 by omega) (.slice (some ⟨g', 0, none⟩) (k + 1) cap')
      have hb4 := hB3.setCell (p := ⟨w.heap.size + 1, 3, none⟩) (Nat.le_succ _) (.slice (some ⟨g', 0, none⟩) (k + 1) cap')
      have hz4 : w.heap.size + 2 ≤ (w3.setCell ⟨w.heap.size + 1, 3, none⟩ (.slice (some ⟨g', 0, none⟩) (k + 1) cap')).heap.size := by simpa [World.setCell] using hw3
      go_roundw
      case rel => exact ⟨k + 1, .slice (some ⟨g', 0, none⟩) (k + 1) cap', by omega, by go_num, by rw [HNX.out]; exact hr4, hz4, hb4, hR4, hX4⟩
      case measure => simp [intOf]; omega
    · have hge : (rs.length : Int) ≤ (k : Int) := by omega
      rw [List.take_of_length_le (by have := HIL.out; omega)] at hown
      obtain rfl : k = rs.length := by omega
      have x0 := hX.cell (i := 0) rfl
      have x1 := hX.cell (i := 1) rfl
      have x2 := hX.cell (i := 2) rfl
      have x3 := hX.cell (i := 3) rfl
      have r0 := hR.cell (i := 0) rfl
      have r1 := hR.cell (i := 1) rfl
      have r2 := hR.cell (i := 2) rfl
      have r3 := hR.cell (i := 3) rfl
      have g0 := hR.frozen 0
      have g1 := hR.frozen 1
      have g2 := hR.frozen 2
      have g3 := hR.frozen 3
      have hRl := hR.lt
      obtain ⟨pv, cv, rfl⟩ : ∃ pv cv, v = .slice pv rs.length cv := by
        obtain ⟨_, h⟩ := hown
        rcases h with ⟨rfl, h0⟩ | ⟨g, cap, cur, rfl, _⟩
        · exact ⟨none, 0, by rw [h0]⟩
        · exact ⟨_, _, rfl⟩
      have HROW : Hid (wr.ownsRow (w.heap.size + 2) 40 2 (.slice pv rs.length cv) ids.length (idCells ids)) := by show World.ownsRow _ _ _ _ _ _ _; rw [← HIL.out]; exact hown
      clear hown hR hX
      go_wp2_with fail
      refine bodyPost_ret (v := .tuple #[rcpV NM n (p : Nat) (.slice pv rs.length cv), .nilIface]) (by simp [results, Tryz.results35, go_sem, r0, r1, r2, r3]) rfl ⟨.slice pv rs.length cv, rfl, ?_, (((hbr.setCell (p := ⟨w.heap.size, 0, none⟩) (Nat.le_refl _) _).setCell (p := ⟨w.heap.size, 1, none⟩) (Nat.le_refl _) _).setCell (p := ⟨w.heap.size, 2, none⟩) (Nat.le_refl _) _).setCell (p := ⟨w.heap.size, 3, none⟩) (Nat.le_refl _) _⟩
      refine (IdsIn.of_row (base := w.heap.size + 2) (e := 40) ?_).low (by omega)
      have hR0 : w.heap.size < w.heap.size + 2 := by omega
      exact ownsRow_setCell_below (ownsRow_setCell_below (ownsRow_setCell_below (ownsRow_setCell_below HROW.out (a := ⟨w.heap.size, 0, none⟩) hR0 _) (a := ⟨w.heap.size, 1, none⟩) hR0 _) (a := ⟨w.heap.size, 2, none⟩) hR0 _) (a := ⟨w.heap.size, 3, none⟩) hR0 _

theorem rcpRead_ok {t : List UInt8} (h : (rcpRead t).2 = (0, -1)) : ∃ nm ln pr rs n p ids, cutBy 32 t = nm :: ln :: pr :: rs ∧ numOf ln 6 = some n ∧ unhex8 pr = some p ∧ readIds rs = some ids ∧ recFault nm n ids = (0, -1) ∧ rcpRead t = ((nm, (n : Int), p, ids), (0, -1)) := by
  unfold rcpRead at h
  split at h
  · rename_i nm ln pr rs hc
    split at h
    · rename_i n p ids h1 h2 h3
      split at h
      · rename_i hf
        exact ⟨nm, ln, pr, rs, n, p, ids, hc, h1, h2, h3, hf, by rw [rcpRead_all hc h1 h2 h3, if_pos hf]⟩
      · rename_i hf
        exact absurd h hf
    · simp at h
  · simp at h

set_option maxRecDepth 100000 in
set_option maxHeartbeats 4000000 in
theorem rread_fine (a : Nat → Addr) (t : ByteArray) (ht : t.size ≤ 40000) (m : Int) (w : World) (hE : ErrW w a) (hm : w.cell? ⟨13, 0, none⟩ = some (.int .i64 m)) (hr : (rcpRead t.data.toList).2 = (0, -1)) :
    Calls Tryz.prog 10 #[.string t] w fun e w' => ∃ v ev, e = .returned (.tuple #[rcpDV (rcpRead t.data.toList).1 v, ev]) ∧ IdsIn w.heap.size w' v (rcpRead t.data.toList).1.2.2.2 ∧ ErrIn w.heap.size w' a ev (rcpRead t.data.toList).2 ∧ Below w.heap.size w w' := by
  obtain ⟨nm, ln, pr, rs, n, p, ids, hc, h1, h2, h3, hf, hrr⟩ := rcpRead_ok hr
  have hcl := cutBy_len 32 t.data.toList
  rw [hc, Array.length_toList] at hcl
  have hts : t.data.size ≤ 40000 := ht
  have hrl : rs.length ≤ 40000 := by have := hcl.1; simp at this; omega
  have hrs : ∀ q ∈ rs, q.length ≤ 40000 := fun q hq => Nat.le_trans (hcl.2 q (by simp [hq])) hts
  have hnl : nm.length ≤ 40000 := Nat.le_trans (hcl.2 nm (by simp)) hts
  have hbR : ∀ o, Below w.heap.size w (w.alloc o) := fun o => (Below.refl _ w).alloc (Nat.le_refl _) o
  have hlen : (Lib.splitB ⟨#[32]⟩ 0 (Lib.countB t ⟨#[32]⟩) t).length = Lib.countB t ⟨#[32]⟩ + 1 := Lib.splitB_all ⟨#[32]⟩ (by decide) 0 _ t rfl
  rw [split_words, hc, List.length_map] at hlen
  have hlen' : Lib.countB t ⟨#[32]⟩ + 1 = rs.length + 3 := by rw [← hlen]; simp
  have HSP : Hid (∀ W, Below w.heap.size w W → Calls Tryz.prog 36 #[.string t, .string ⟨#[32]⟩] W fun e w' => e = .returned (.slice (some ⟨W.heap.size, 0, none⟩) (rs.length + 3) (rs.length + 3)) ∧ w' = W.alloc (.cells ((nm :: ln :: pr :: rs).map strV).toArray 9)) := fun W hb => by
    refine (Tryz.strings_Split t ⟨#[32]⟩ m W (by omega) ((hb.cell (p := ⟨13, 0, none⟩) (lt_of_cell hm)).trans hm) (by decide)).mono fun e w' ⟨g1, g2⟩ => ⟨?_, ?_⟩
    · rw [g1, hlen']
    · rw [g2, split_words, hc, List.map_map]
      rfl
  have HRW : Hid (∀ (W : World) (B : Nat), Below w.heap.size w W → Blk W B ((nm :: ln :: pr :: rs).map strV).toArray 9 → Calls Tryz.prog 35 #[.slice (some ⟨B, 0, none⟩) (rs.length + 3) (rs.length + 3)] W fun e w' => ∃ v, e = .returned (.tuple #[rcpV ⟨nm.toArray⟩ n (p : Nat) v, .nilIface]) ∧ IdsIn W.heap.size w' v ids ∧ Below W.heap.size W w') := fun W B hb hB => readWords_fine a B nm ln pr rs n p ids W (hE.below hb (Nat.le_refl _)) hB hrl hrs h1 h2 h3
  obtain ⟨NM, hNM⟩ : ∃ NM : ByteArray, (⟨nm.toArray⟩ : ByteArray) = NM := ⟨_, rfl⟩
  rw [hNM] at HRW
  have HNM : Hid ((⟨nm.toArray⟩ : ByteArray) = NM) := hNM
  have HNL : Hid (NM.data.toList = nm) := by show _ = _; rw [← hNM]
  have hil : ids.length ≤ 40000 := by have := (readIds_at rs ids h3).1; omega
  have HCK : Hid (∀ (W : World) (v : Value), Below w.heap.size w W → IdsAt W v ids → Calls Tryz.prog 12 #[rcpV NM n (p : Nat) v] W fun e w' => e = .returned .nilIface ∧ Below W.heap.size W w') := fun W v hb hv => by
    refine (check_any a NM (by rw [← hNM]; show nm.length ≤ _; unfold maxLen; omega) n p v ids W (hE.below hb (Nat.le_refl _)) hv (by unfold maxLen; omega)).mono fun e w' ⟨ev, g1, g2, g3⟩ => ⟨?_, g3⟩
    rw [HNL.out, hf] at g2
    rw [g1, g2.is_nil]
  have HRR : Hid (rcpRead t.data.toList = ((nm, (n : Int), p, ids), (0, -1))) := hrr
  have ht' : ¬ (40000 : Int) < (t.size : Int) := by omega
  clear hc h1 h2 h3 hf hrr hcl hts hrl hrs hnl hlen hlen' hNM hil hE hm hr ht
  go_enter Tryz.func10, Tryz.ntmps10
  go_wp2_with fail
  refine (HSP.out _ (hbR _)).mono ?_
  rintro e w1 ⟨rfl, hw1⟩
  have hR0 := Blk.new w #[.string ⟨#[]⟩, .int .i64 0, .int .u32 0, .slice none 0 0] 26
  have hbR0 := hbR (.cells #[.string ⟨#[]⟩, .int .i64 0, .int .u32 0, .slice none 0 0] 26)
  obtain ⟨W0, hW0⟩ : ∃ W0, w.alloc (.cells #[.string ⟨#[]⟩, .int .i64 0, .int .u32 0, .slice none 0 0] 26) = W0 := ⟨_, rfl⟩
  rw [hW0] at hR0 hbR0 hw1 ⊢
  have hB1 := Blk.new W0 ((nm :: ln :: pr :: rs).map strV).toArray 9
  have hal1 : Below W0.heap.size W0 (W0.alloc (.cells ((nm :: ln :: pr :: rs).map strV).toArray 9)) := (Below.refl _ W0).alloc (Nat.le_refl _) _
  rw [← hw1] at hB1 hal1
  have hR1 := hR0.next hal1
  have hb1 : Below w.heap.size w w1 := hbR0.trans (hal1.mono hbR0.size)
  clear hR0 hbR0 hW0 hw1 hal1 HSP
  obtain ⟨N, hN⟩ : ∃ N, rs.length + 3 = N := ⟨_, rfl⟩
  have HRW1 := HRW.out w1 _ hb1 hB1
  rw [hN] at HRW1 ⊢
  have HRW2 : Hid (Calls Tryz.prog 35 #[.slice (some ⟨W0.heap.size, 0, none⟩) N N] w1 fun e w' => ∃ v, e = .returned (.tuple #[rcpV NM n (p : Nat) v, .nilIface]) ∧ IdsIn w1.heap.size w' v ids ∧ Below w1.heap.size w1 w') := HRW1
  clear HRW1 hB1 hN HRW
  go_wp2_with fail
  refine HRW2.out.mono ?_
  clear HRW2
  rintro e w2 ⟨v, rfl, hids, hb2⟩
  have hR2 := hR1.next hb2
  have hb2w : Below w.heap.size w w2 := hb1.trans (hb2.mono hb1.size)
  have hlt1 := hR1.lt
  obtain ⟨pv, cv, hvv, _⟩ := id hids
  subst hvv
  have hX2 := Blk.new w2 #[.string NM, .int .i64 (n : Nat), .int .u32 (p : Nat), .slice pv ids.length cv] 26
  have hal2 : Below w2.heap.size w2 (w2.alloc (.cells #[.string NM, .int .i64 (n : Nat), .int .u32 (p : Nat), .slice pv ids.length cv] 26)) := (Below.refl _ w2).alloc (Nat.le_refl _) _
  clear hb2 hR1 hb1
  go_wp2_with fail
  replace hids := hids.below hal2
  have hR3 := hR2.next hal2
  have hb3 : Below w.heap.size w _ := hb2w.trans (hal2.mono hb2w.size)
  refine (HCK.out _ _ hb3 hids.at).mono ?_
  rintro e w4 ⟨rfl, hb4⟩
  replace hids := hids.below hb4
  have hX4 := hX2.next hb4
  have hR4 := hR3.next hb4
  have hb4w : Below w.heap.size w w4 := hb3.trans (hb4.mono hb3.size)
  have x0 := hX4.cell (i := 0) rfl
  have x1 := hX4.cell (i := 1) rfl
  have x2 := hX4.cell (i := 2) rfl
  have x3 := hX4.cell (i := 3) rfl
  have r0 := hR4.cell (i := 0) rfl
  have r1 := hR4.cell (i := 1) rfl
  have r2 := hR4.cell (i := 2) rfl
  have r3 := hR4.cell (i := 3) rfl
  have g0 := hR4.frozen 0
  have g1 := hR4.frozen 1
  have g2 := hR4.frozen 2
  have g3 := hR4.frozen 3
  have HIDS : Hid (IdsIn w1.heap.size w4 (.slice pv ids.length cv) ids) := hids
  have HLT : Hid (w.heap.size < w1.heap.size) := hlt1
  clear hids hX4 hR4 hR3 hR2 hX2 hal2 hb4 hb3 hlt1
  go_wp2_with fail
  refine bodyPost_ret (v := .tuple #[rcpV NM n (p : Nat) (.slice pv ids.length cv), .nilIface]) (by simp [results, Tryz.results10, go_sem, r0, r1, r2, r3]) rfl ⟨.slice pv ids.length cv, .nilIface, by rw [HRR.out, rcpDV, HNM.out], ?_, by rw [HRR.out]; exact ErrIn.mkNil _ _ a, (((hb4w.setCell (p := ⟨w.heap.size, 0, none⟩) (Nat.le_refl _) _).setCell (p := ⟨w.heap.size, 1, none⟩) (Nat.le_refl _) _).setCell (p := ⟨w.heap.size, 2, none⟩) (Nat.le_refl _) _).setCell (p := ⟨w.heap.size, 3, none⟩) (Nat.le_refl _) _⟩
  rw [HRR.out]
  exact ((((HIDS.out.setCell (a := ⟨w.heap.size, 0, none⟩) HLT.out _).setCell (a := ⟨w.heap.size, 1, none⟩) HLT.out _).setCell (a := ⟨w.heap.size, 2, none⟩) HLT.out _).setCell (a := ⟨w.heap.size, 3, none⟩) HLT.out _).low (Nat.le_of_lt HLT.out)
end Go.Proofs.YthgajeobenagjaaGreatDoor
