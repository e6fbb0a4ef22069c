/-
  Own text. One more use told of a piece: what is right stays right but for uses; the first error is there.
  Own text. LongHelds, OwnHelds and the document's MarkedError by contracts.
-/
import Derived.Test.YtcbcjefefmbccabGreatDoorS26
import Derived.Test.YtcbcjefefmbccabGreatDoorS03
import Derived.Deep.RegionHeld3
import Derived.OwnWalk
namespace Go.Proofs.YtcbcjefefmbccabGreatDoor
open Go.RowKit Go.Maps

def bare (h : Hd) : Hd := (h.1, 0, h.2.2)
def bareBin (b : NBin) : NBin := (b.1, b.2.map bare)
/- One more use of the first piece of bin i. -/
def more1 (b : NBin) : NBin := match b.2 with | [] => b | h :: r => (b.1, (h.1, h.2.1 + 1, h.2.2) :: r)
def moreAt (bs : List NBin) (i : Nat) : List NBin := bs.modify i more1
theorem firstErr_at {err : Nat → Int} : ∀ (n k j : Nat), k ≤ j → j < k + n → (∀ i, k ≤ i → i < j → err i = 0) → err j ≠ 0 → firstErr err k n = some j
  | 0, k, j, h1, h2, _, _ => by omega
  | n + 1, k, j, h1, h2, h3, h4 => by
    rw [firstErr]
    by_cases e : k = j
    · subst e
      rw [if_pos h4]
    · rw [if_neg (by rw [h3 k (Nat.le_refl _) (by omega)]; simp)]
      exact firstErr_at n (k + 1) j (by omega) (by omega) (fun i h5 h6 => h3 i (by omega) h6) h4
theorem moreAt_eq {bs : List NBin} {i : Nat} (h : i < (moreAt bs i).length) : (moreAt bs i)[i]'h = more1 (bs[i]'(by unfold moreAt at h; rwa [List.length_modify] at h)) := by
  revert h
  unfold moreAt
  intro h
  rw [List.getElem_modify_eq]
theorem moreAt_ne {bs : List NBin} {i j : Nat} (e : i ≠ j) {h : j < (moreAt bs i).length} : (moreAt bs i)[j]'h = bs[j]'(by unfold moreAt at h; rwa [List.length_modify] at h) := by
  revert h
  unfold moreAt
  intro h
  rw [List.getElem_modify_ne _ _ e]
/- The bins in memory behind the store. -/
theorem BnsSt.more {base : Nat} {W : World} {v : Value} {ps : List BP} (h : BnsSt base W v ps) {i : Nat} (hi : i < ps.length) {x : Hd} {l : List Hd} (hx : ps[i].1.2 = x :: l) {g c n : Nat} (hv : ps[i].2 = .slice (some ⟨g, 0, none⟩) n c) : LoadsAt (W.setCell ⟨g, 2, none⟩ (.int .i64 (x.2.1 + 1))) v (moreAt (ps.map (·.1)) i) := by
  have hne : ps[i].1.2 ≠ [] := by rw [hx]; simp
  have hown : ps[i].2.ownBlock = some g := by rw [hv]; rfl
  have hof := h.off _ (List.getElem_mem hi) hne g hown
  have hoff : Off (fun k => k = g) W (W.setCell ⟨g, 2, none⟩ (.int .i64 (x.2.1 + 1))) := Off.setCell (F := fun k => k = g) (p := ⟨g, 2, none⟩) (Off.refl _ W) (.inl rfl) _
  obtain ⟨p, cc, hp, hcell⟩ := h.at
  refine ⟨p, cc, by rw [hp]; unfold moreAt; rw [List.length_modify], fun j hj => ?_⟩
  have hj' : j < ps.length := by unfold moreAt at hj; rw [List.length_modify, List.length_map] at hj; exact hj
  obtain ⟨b, o, vj, hpj, hL⟩ := hcell j (by rw [List.length_map]; exact hj')
  rw [List.getElem_map] at hL
  have hbg : b ≠ g := fun e => by
    subst e hpj
    rcases h.row.2 with ⟨e, e2⟩ | ⟨g', cap, cur, e, _⟩
    · omega
    · rw [hp] at e
      have : b = g' := by simp at e; exact e.1.1
      subst this
      apply hof
      rw [hp]
      have : o = 0 := by simp at e; exact e.1
      subst this
      rfl
  have hvj : vj = ps[j].2 := by
    rcases h.row.2 with ⟨e, e2⟩ | ⟨g', cap, cur, e, _⟩
    · omega
    · have a2 := (ldCells_at ps j hj').2.2
      have c2 := h.row.cells (g := g') (by rw [e]; rfl) (j * 3 + 2) _ a2
      simp only [add_plain] at c2
      rw [hp] at e
      have eb : b = g' ∧ o = 0 := by rw [hpj] at e; simp at e; exact ⟨e.1.1, e.1.2⟩
      obtain ⟨rfl, rfl⟩ := eb
      have := hL.c2
      rw [Nat.zero_add, c2] at this
      exact (Option.some.inj this).symm
  subst hvj
  refine ⟨b, o, ps[j].2, hpj, ?_⟩
  have eb := hoff.block b hL.lt hbg
  have hc := fun q => World.cell?_of_block (w := W) (w' := W.setCell ⟨g, 2, none⟩ (.int .i64 (x.2.1 + 1))) (a := ⟨b, q, none⟩) eb
  by_cases e : j = i
  · subst e
    have em : (moreAt (ps.map (·.1)) j)[j]'hj = more1 ps[j].1 := by
      rw [moreAt_eq, List.getElem_map]
    rw [em]
    have hm : more1 ps[j].1 = (ps[j].1.1, (x.1, x.2.1 + 1, x.2.2) :: l) := by unfold more1; rw [hx]
    rw [hm]
    refine ⟨Nat.lt_of_lt_of_le hL.lt hoff.size, (hc _).trans hL.c0, (hc _).trans hL.c1, (hc _).trans hL.c2, ?_⟩
    obtain ⟨pq, cq, hq, hqc⟩ := hL.helds
    refine ⟨pq, cq, by rw [hq, hx]; rfl, fun y hy => ?_⟩
    have hy' : y < ps[j].1.2.length := by rw [hx]; exact hy
    obtain ⟨b2, o2, hp2, ⟨hb2, hb3⟩, e0, e1, e2, e3⟩ := hqc y hy'
    obtain ⟨rfl, rfl⟩ : b2 = g ∧ o2 = 0 := by
      rw [hv, hp2] at hq
      simp at hq
      exact ⟨hq.1.1.symm, hq.1.2.symm⟩
    have hget : ∀ (z : Nat) (hz : z < ps[j].1.2.length) (hz2 : z < (x :: l).length), ps[j].1.2[z] = (x :: l)[z] := fun z hz hz2 => by
      congr 1
    rw [hget y hy' hy] at e0 e1 e2 e3
    cases y with
    | zero =>
      refine ⟨b2, 0, hp2, ⟨Nat.lt_of_lt_of_le hb2 hoff.size, by rw [hx] at hb3; exact hb3⟩, ?_, ?_, ?_, ?_⟩
      · rw [World.cell?_setCell_other _ _ _ _ (by simp)]; exact e0
      · rw [World.cell?_setCell_other _ _ _ _ (by simp)]; exact e1
      · exact World.cell?_setCell_same _ _ _ e2
      · rw [World.cell?_setCell_other _ _ _ _ (by simp)]; exact e3
    | succ y =>
      refine ⟨b2, 0, hp2, ⟨Nat.lt_of_lt_of_le hb2 hoff.size, by rw [hx] at hb3; exact hb3⟩, ?_, ?_, ?_, ?_⟩
      · rw [World.cell?_setCell_other _ _ _ _ (by simp)]; exact e0
      · rw [World.cell?_setCell_other _ _ _ _ (by simp)]; exact e1
      · rw [World.cell?_setCell_other _ _ _ _ (by simp)]; exact e2
      · rw [World.cell?_setCell_other _ _ _ _ (by simp)]; exact e3
  · have em : (moreAt (ps.map (·.1)) i)[j]'hj = ps[j].1 := by
      rw [moreAt_ne (fun e2 => e e2.symm), List.getElem_map]
    rw [em]
    have hgj : ps[j].1.2 ≠ [] → ∀ k, ps[j].2.ownBlock = some k → ¬ k = g := fun hnj k hk ek => by
      subst ek
      have hap := List.pairwise_iff_getElem.1 h.apart
      rcases Nat.lt_or_gt_of_ne e with e | e
      · exact hap j i hj' hi e hnj hne _ hk hown
      · exact hap i j hi hj' e hne hnj _ hown hk
    exact ⟨Nat.lt_of_lt_of_le hL.lt hoff.size, (hc _).trans hL.c0, (hc _).trans hL.c1, (hc _).trans hL.c2, ((h.helds _ (List.getElem_mem hj')).off hoff hgj).1⟩
end Go.Proofs.YtcbcjefefmbccabGreatDoor
namespace Go.Proofs.YtcbcjefefmbccabGreatDoor
open Go.RowKit

def LongHPost (w : World) (l : List Hd) (e : Ending) (w' : World) : Prop := ∃ n : Int, e = .returned (.int .i64 n) ∧ w' = w ∧ (n = 0 ∨ n = 1) ∧ (n = 0 → (l.length ≤ 40 ∨ l.length = 251) ∧ ∀ i (h : i < l.length), l[i].2.2.length ≤ 100)

set_option maxRecDepth 100000 in
set_option maxHeartbeats 4000000 in
theorem longHelds_any (v : Value) (l : List Hd) (w : World) (hv : HeldsAt w v l) :
    Calls Tryz.prog 21 #[v] w (LongHPost w l) := by
  obtain ⟨p, c, rfl, hcell⟩ := hv
  by_cases hl : l.length ≤ 40 ∨ l.length = 251
  · have HL : Hid (l.length ≤ 40 ∨ l.length = 251) := hl
    have hl' : ¬ (40 : Int) < (l.length : Int) ∨ ((40 : Int) < (l.length : Int) ∧ (l.length : Int) = 251) := by omega
    clear hl
    have main : ∀ (h : (40 : Int) < (l.length : Int) → (l.length : Int) = 251), Calls Tryz.prog 21 #[.slice p l.length c] w (LongHPost w l) := by
      intro hq
      rcases hl' with h1 | ⟨h1, h2⟩
      · clear hq
        go_enter Tryz.func21, Tryz.ntmps21
        go_wp2_with fail
        go_loopw [3] (fun i wr => ∃ j : Nat, j ≤ l.length ∧ i = .int .i64 j ∧ wr = w ∧ ∀ k (hk : k < l.length), k < j → l[k].2.2.length ≤ 100) (fun i _ => l.length - (intOf i).toNat)
        case atStart => exact ⟨0, Nat.zero_le _, rfl, rfl, fun k _ h => by omega⟩
        case round =>
          obtain ⟨j, hj, rfl, rfl, hall⟩ := hrel
          have HA : Hid (∀ k (hk : k < l.length), k < j → l[k].2.2.length ≤ 100) := hall
          clear hall
          by_cases hlt : j < l.length
          · have hlt' : (j : Int) < (l.length : Int) := by omega
            obtain ⟨b, o, rfl, _, _, _, _, c3⟩ := hcell j hlt
            have HNX : Hid (l[j].2.2.length ≤ 100 → ∀ k (hk : k < l.length), k < j + 1 → l[k].2.2.length ≤ 100) := fun h k hk hkj => by
              rcases Nat.lt_or_ge k j with h' | h'
              · exact HA.out k hk h'
              · obtain rfl : k = j := by omega
                exact h
            obtain ⟨y, hy⟩ : ∃ y : ByteArray, (⟨(l[j]'hlt).2.2.toArray⟩ : ByteArray) = y := ⟨_, rfl⟩
            have hys : y.size = (l[j]'hlt).2.2.length := by rw [← hy]; simp [ByteArray.size]
            have HYS : Hid (y.size = (l[j]'hlt).2.2.length) := hys
            rw [hy] at c3
            clear hy hys
            by_cases h1 : y.size ≤ 100
            · have h1' : ¬ (100 : Int) < (y.size : Int) := by omega
              have HN3 : Hid (∀ k (hk : k < l.length), k < j + 1 → l[k].2.2.length ≤ 100) := HNX.out (by rw [← HYS.out]; exact h1)
              clear HNX HYS
              go_wp2_with fail
              go_roundw
              case rel => exact ⟨j + 1, by omega, by go_num, trivial, HN3.out⟩
              case measure => simp [intOf]; omega
            · have h1' : (100 : Int) < (y.size : Int) := by omega
              clear HNX HYS
              go_wp2_with fail
              go_ret
              exact ⟨1, rfl, rfl, .inr rfl, fun h => by cases h⟩
          · have hge : ¬ ((j : Int) < (l.length : Int)) := by omega
            go_wp2_with fail
            go_ret
            exact ⟨0, rfl, rfl, .inl rfl, fun _ => ⟨HL.out, fun i hi => HA.out i hi (by omega)⟩⟩
      · clear hq
        go_enter Tryz.func21, Tryz.ntmps21
        go_wp2_with fail
        go_loopw [3] (fun i wr => ∃ j : Nat, j ≤ l.length ∧ i = .int .i64 j ∧ wr = w ∧ ∀ k (hk : k < l.length), k < j → l[k].2.2.length ≤ 100) (fun i _ => l.length - (intOf i).toNat)
        case atStart => exact ⟨0, Nat.zero_le _, rfl, rfl, fun k _ h => by omega⟩
        case round =>
          obtain ⟨j, hj, rfl, rfl, hall⟩ := hrel
          have HA : Hid (∀ k (hk : k < l.length), k < j → l[k].2.2.length ≤ 100) := hall
          clear hall
          by_cases hlt : j < l.length
          · have hlt' : (j : Int) < (l.length : Int) := by omega
            obtain ⟨b, o, rfl, _, _, _, _, c3⟩ := hcell j hlt
            have HNX : Hid (l[j].2.2.length ≤ 100 → ∀ k (hk : k < l.length), k < j + 1 → l[k].2.2.length ≤ 100) := fun h k hk hkj => by
              rcases Nat.lt_or_ge k j with h' | h'
              · exact HA.out k hk h'
              · obtain rfl : k = j := by omega
                exact h
            obtain ⟨y, hy⟩ : ∃ y : ByteArray, (⟨(l[j]'hlt).2.2.toArray⟩ : ByteArray) = y := ⟨_, rfl⟩
            have hys : y.size = (l[j]'hlt).2.2.length := by rw [← hy]; simp [ByteArray.size]
            have HYS : Hid (y.size = (l[j]'hlt).2.2.length) := hys
            rw [hy] at c3
            clear hy hys
            by_cases h1 : y.size ≤ 100
            · have h1' : ¬ (100 : Int) < (y.size : Int) := by omega
              have HN3 : Hid (∀ k (hk : k < l.length), k < j + 1 → l[k].2.2.length ≤ 100) := HNX.out (by rw [← HYS.out]; exact h1)
              clear HNX HYS
              go_wp2_with fail
              go_roundw
              case rel => exact ⟨j + 1, by omega, by go_num, trivial, HN3.out⟩
              case measure => simp [intOf]; omega
            · have h1' : (100 : Int) < (y.size : Int) := by omega
              clear HNX HYS
              go_wp2_with fail
              go_ret
              exact ⟨1, rfl, rfl, .inr rfl, fun h => by cases h⟩
          · have hge : ¬ ((j : Int) < (l.length : Int)) := by omega
            go_wp2_with fail
            go_ret
            exact ⟨0, rfl, rfl, .inl rfl, fun _ => ⟨HL.out, fun i hi => HA.out i hi (by omega)⟩⟩
    exact main (by omega)
  · have h1 : (40 : Int) < (l.length : Int) := by omega
    have h2 : ((l.length : Int) == 251) = false := by rw [beq_eq_false_iff_ne]; omega
    go_enter Tryz.func21, Tryz.ntmps21
    go_wp2_with fail
    go_ret
    exact ⟨1, rfl, rfl, .inr rfl, fun h => by cases h⟩

set_option maxRecDepth 100000 in
set_option maxHeartbeats 4000000 in
theorem ownHelds_any (v : Value) (l : List Hd) (w : World) (hlen : l.length ≤ 50000) (hv : HeldsAt w v l) :
    Calls Tryz.prog 22 #[v] w fun e w' => ∃ v', e = .returned v' ∧ w'.ownsRow w.heap.size 78 4 v' l.length (heldCells l) ∧ Below w.heap.size w w' := by
  obtain ⟨ti, hi, hz0, hz1, hz2⟩ := info_parts infoHeld
  obtain ⟨p, c, rfl, hcell⟩ := hv
  have HL : Hid (l.length ≤ 50000) := hlen
  clear hlen
  by_cases hn : l = []
  · subst hn
    clear hcell
    cases p with
    | none =>
      go_enter Tryz.func22, Tryz.ntmps22
      go_wp2_with fail
      go_ret
      exact ⟨_, rfl, World.ownsRow_nil _ _ _ _, Below.refl _ _⟩
    | some ad =>
      obtain ⟨b, o, sp⟩ := ad
      go_enter Tryz.func22, Tryz.ntmps22
      go_wp2_with fail
      go_ret
      exact ⟨_, rfl, World.ownsRow_nil _ _ _ _, Below.refl _ _⟩
  · have hn1 : 1 ≤ l.length := by
      rcases Nat.eq_zero_or_pos l.length with h | h
      · exact (hn (List.eq_nil_of_length_eq_zero h)).elim
      · exact h
    clear hn
    obtain ⟨b, o, hp, _⟩ := hcell 0 hn1
    cases hp
    have HC : Hid (∀ j u, (heldCells l)[j]? = some u → w.cell? ((⟨b, o, none⟩ : Addr).add j) = some u) := heldCells_cells (fun i hi => by
      obtain ⟨b', o', hp, _, a⟩ := hcell i hi
      cases hp
      exact a)
    clear hcell
    have HM : Hid ((heldCells l).length = l.length * 4) := heldCells_length l
    go_enter Tryz.func22, Tryz.ntmps22
    go_wp2_with (at_builtin; refine wpList_append_own _ rfl (.tmp 4) (.tmp 5) 56 rfl w.heap.size 78 ti (heldV ((0, 0), 0, [])) 4 40 Tryz.underlying56 hi hz0 hz1 hz2 rfl (by decide) (.slice none 0 0) 0 [] rfl (World.ownsRow_nil _ _ _ _) ⟨b, o, none⟩ l.length c (heldCells l) rfl HM.out HC.out (heldCells_one l) (by have := HL.out; unfold maxLen; omega) (by have := HL.out; omega) (Nat.le_refl _) ?_; intro v' w1 ho1 hg1 _; rw [Nat.zero_add, List.nil_append] at ho1; have HO1 : Hid (w1.ownsRow w.heap.size 78 4 v' l.length (heldCells l)) := ho1; have HB1 : Hid (Below w.heap.size w w1) := below_of_grown hg1; clear ho1 hg1)
    go_ret
    exact ⟨_, rfl, HO1.out, HB1.out⟩

/- The error of a piece at a place. -/
def markE (l : List Hd) (i : Nat) : Int :=
  match l[i]? with
  | none => 0
  | some h => if idOfL h.2.2 ≠ h.1 then 9 else if i = 0 then 0 else
    match l[i - 1]? with
    | none => 0
    | some g => if lessB g.1 h.1 = true then 0 else 8

set_option maxRecDepth 100000 in
set_option maxHeartbeats 4000000 in
theorem marked_any (v : Value) (l : List Hd) (k : Nat) (w : World) (hk : k < l.length) (hlen : l.length ≤ 50000) (ht : (l[k]'hk).2.2.length ≤ 50000) (hv : HeldsAt w v l) :
    Calls Tryz.prog 128 #[v, .int .i64 (k : Int)] w fun e w' => e = .returned (.int .i64 (markE l k)) ∧ Below w.heap.size w w' := by
  obtain ⟨p, c, rfl, hcell⟩ := hv
  have HC : Hid (∀ W', Below w.heap.size w W' → ∀ i (h : i < l.length), ∃ b o, p = some ⟨b, o, none⟩ ∧ W'.cell? ⟨b, o + i * 4, none⟩ = some (.int .u32 (l[i].1.1 : Nat)) ∧ W'.cell? ⟨b, o + i * 4 + 1, none⟩ = some (.int .i64 l[i].1.2) ∧
    W'.cell? ⟨b, o + i * 4 + 2, none⟩ = some (.int .i64 l[i].2.1) ∧ W'.cell? ⟨b, o + i * 4 + 3, none⟩ = some (.string ⟨l[i].2.2.toArray⟩)) := fun W' hb i hi => by
    obtain ⟨b, o, hp, ⟨hl', _⟩, a0, a1, a2, a3⟩ := hcell i hi
    exact ⟨b, o, hp, (hb.cell (p := ⟨b, o + i * 4, none⟩) hl').trans a0, (hb.cell (p := ⟨b, o + i * 4 + 1, none⟩) hl').trans a1, (hb.cell (p := ⟨b, o + i * 4 + 2, none⟩) hl').trans a2, (hb.cell (p := ⟨b, o + i * 4 + 3, none⟩) hl').trans a3⟩
  clear hcell
  obtain ⟨b, o, rfl, a0, a1, _, a3⟩ := HC.out w (Below.refl _ _) k hk
  have hk' : (k : Int) < (l.length : Int) := by omega
  have hk0 : (0 : Int) ≤ (k : Int) := by omega
  have HLK : Hid (l[k]? = some (l[k]'hk)) := List.getElem?_eq_getElem hk
  obtain ⟨t, htt⟩ : ∃ t : ByteArray, (⟨(l[k]'hk).2.2.toArray⟩ : ByteArray) = t := ⟨_, rfl⟩
  have htl : t.data.toList = (l[k]'hk).2.2 := by rw [← htt]
  have htz : t.size ≤ maxLen := by
    rw [← htt]
    show (l[k]'hk).2.2.toArray.size ≤ maxLen
    rw [List.size_toArray]
    unfold maxLen
    omega
  have HTZ : Hid (t.size ≤ maxLen) := htz
  have HTS : Hid (idOfL (l[k]'hk).2.2 = (pmore 2166136261 t.data.toList, (t.size : Int))) := by show _ = _; unfold idOfL; rw [← htl, Array.length_toList]; rfl
  rw [htt] at a3
  obtain ⟨P, hP⟩ : ∃ P, pmore 2166136261 t.data.toList = P := ⟨_, rfl⟩
  have HP : Hid (pmore 2166136261 t.data.toList = P) := hP
  rw [hP] at HTS
  have HCK : Hid (∀ W', Below w.heap.size w W' → W'.cell? ⟨b, o + k * 4, none⟩ = some (.int .u32 ((l[k]'hk).1.1 : Nat)) ∧ W'.cell? ⟨b, o + k * 4 + 1, none⟩ = some (.int .i64 (l[k]'hk).1.2) ∧ W'.cell? ⟨b, o + k * 4 + 3, none⟩ = some (.string t)) := fun W' hb => by
    obtain ⟨b', o', hp, x0, x1, _, x3⟩ := HC.out W' hb k hk
    cases hp
    rw [htt] at x3
    exact ⟨x0, x1, x3⟩
  obtain ⟨ip, hip⟩ : ∃ ip, (l[k]'hk).1.1 = ip := ⟨_, rfl⟩
  obtain ⟨il, hil⟩ : ∃ il, (l[k]'hk).1.2 = il := ⟨_, rfl⟩
  have HID : Hid ((l[k]'hk).1 = (ip, il)) := by show _ = _; rw [← hip, ← hil]
  rw [hip] at a0 HCK
  rw [hil] at a1 HCK
  have HLN : Hid (l.length ≤ 50000) := hlen
  clear htt htl htz hP hip hil ht hlen
  by_cases e1 : (P : Int) = (ip : Int)
  · by_cases e2 : (t.size : Int) = il
    · have HEQ : Hid (idOfL (l[k]'hk).2.2 = (l[k]'hk).1) := by show _ = _; rw [HTS.out, HID.out, e2, show P = ip by omega]
      obtain rfl : P = ip := by omega
      subst e2
      by_cases hk1 : k = 0
      · have HM : Hid (markE l k = 0) := by
          show _ = _
          unfold markE
          rw [HLK.out]
          simp only
          rw [if_neg (by rw [HEQ.out]; simp), if_pos hk1]
        have hk2 : ¬ (0 : Int) < (k : Int) := by omega
        clear hk1
        go_enter Tryz.func128, Tryz.ntmps128
        go_wp2_with fail
        go_region_held3 (fun w' => w'.cell? ⟨b, o + k * 4, none⟩ = some (.int .u32 (P : Nat)) ∧ w'.cell? ⟨b, o + k * 4 + 1, none⟩ = some (.int .i64 (t.size : Int)) ∧ w'.cell? ⟨b, o + k * 4 + 3, none⟩ = some (.string t)) (go_keep) (first
          | (go_at_call 40; refine (idOf_any t _ HTZ.out).mono ?_; rintro e w1 ⟨rfl, hb1⟩; rw [HP.out]; have hB1 : Below w.heap.size w w1 := (Below.refl _ w).drew.trans hb1; have HB1 : Hid (Below w.heap.size w w1) := hB1; obtain ⟨x0, x1, x3⟩ := HCK.out w1 hB1; clear hb1 hB1))
        go_wp2_with fail
        go_ret
        exact ⟨by rw [HM.out]; rfl, HB1.out⟩
      · have hk2 : (0 : Int) < (k : Int) := by omega
        have hj : k - 1 < l.length := by omega
        have hjk : IntKind.i64.wrap ((k : Int) - 1) = ((k - 1 : Nat) : Int) := by have := HLN.out; rw [IntKind.wrap_i64]; omega
        have hj' : ((k - 1 : Nat) : Int) < (l.length : Int) := by omega
        have hj0 : (0 : Int) ≤ ((k - 1 : Nat) : Int) := by omega
        obtain ⟨gp, hgp⟩ : ∃ gp, (l[k - 1]'hj).1.1 = gp := ⟨_, rfl⟩
        obtain ⟨gl, hgl⟩ : ∃ gl, (l[k - 1]'hj).1.2 = gl := ⟨_, rfl⟩
        have HCG : Hid (∀ W', Below w.heap.size w W' → W'.cell? ⟨b, o + (k - 1) * 4, none⟩ = some (.int .u32 (gp : Nat)) ∧ W'.cell? ⟨b, o + (k - 1) * 4 + 1, none⟩ = some (.int .i64 gl)) := fun W' hb => by
          obtain ⟨b', o', hp, x0, x1, _⟩ := HC.out W' hb (k - 1) hj
          cases hp
          rw [hgp] at x0
          rw [hgl] at x1
          exact ⟨x0, x1⟩
        obtain ⟨Lb, hLb⟩ : ∃ Lb, (if (gp : Int) = (P : Int) then decide (gl < (t.size : Int)) else decide ((gp : Int) < (P : Int))) = Lb := ⟨_, rfl⟩
        have HLb : Hid ((if (gp : Int) = (P : Int) then decide (gl < (t.size : Int)) else decide ((gp : Int) < (P : Int))) = Lb) := hLb
        have HM : Hid (markE l k = if Lb = true then 0 else 8) := by
          show _ = _
          have hLs : lessB (l[k - 1]'hj).1 (l[k]'hk).1 = Lb := by
            rw [HID.out, show (l[k - 1]'hj).1 = (gp, gl) by rw [← hgp, ← hgl]]
            exact hLb
          unfold markE
          rw [HLK.out]
          simp only
          rw [if_neg (by rw [HEQ.out]; simp), if_neg hk1, List.getElem?_eq_getElem hj]
          simp only [hLs]
        obtain ⟨kj, hkj⟩ : ∃ kj, k - 1 = kj := ⟨_, rfl⟩
        rw [hkj] at hjk hj' hj0 HCG
        clear hLb hgp hgl hk1 HC
        cases Lb with
        | true =>
          go_enter Tryz.func128, Tryz.ntmps128
          go_wp2_with fail
          go_region_held3 (fun w' => w'.cell? ⟨b, o + k * 4, none⟩ = some (.int .u32 (P : Nat)) ∧ w'.cell? ⟨b, o + k * 4 + 1, none⟩ = some (.int .i64 (t.size : Int)) ∧ w'.cell? ⟨b, o + k * 4 + 3, none⟩ = some (.string t)) (go_keep) (first
            | (go_at_call 40; refine (idOf_any t _ HTZ.out).mono ?_; rintro e w1 ⟨rfl, hb1⟩; rw [HP.out]; have hB1 : Below w.heap.size w w1 := (Below.refl _ w).drew.trans hb1; have HB1 : Hid (Below w.heap.size w w1) := hB1; obtain ⟨x0, x1, x3⟩ := HCK.out w1 hB1; clear hb1 hB1))
          obtain ⟨y0, y1⟩ := HCG.out w1 HB1.out
          clear hkj
          go_wp2_with fail
          go_region_held3 (fun w' => w'.cell? ⟨b, o + kj * 4, none⟩ = some (.int .u32 (gp : Nat)) ∧ w'.cell? ⟨b, o + kj * 4 + 1, none⟩ = some (.int .i64 gl) ∧ w'.cell? ⟨b, o + k * 4, none⟩ = some (.int .u32 (P : Nat)) ∧ w'.cell? ⟨b, o + k * 4 + 1, none⟩ = some (.int .i64 (t.size : Int))) (go_keep) (first
            | (go_at_call 68; refine (isLess_any _ _ _ _ _).mono ?_; rintro e w2 ⟨rfl, hb2⟩; rw [HLb.out]; have hB2 : Below w.heap.size w w2 := HB1.out.trans (((Below.refl _ w1).drew.trans hb2).mono HB1.out.size); have HB2 : Hid (Below w.heap.size w w2) := hB2; obtain ⟨z0, z1, _⟩ := HCK.out w2 hB2; obtain ⟨z2, z3⟩ := HCG.out w2 hB2; clear hb2 hB2))
          go_wp2_with fail
          go_ret
          exact ⟨by rw [HM.out]; rfl, HB2.out⟩
        | false =>
          go_enter Tryz.func128, Tryz.ntmps128
          go_wp2_with fail
          go_region_held3 (fun w' => w'.cell? ⟨b, o + k * 4, none⟩ = some (.int .u32 (P : Nat)) ∧ w'.cell? ⟨b, o + k * 4 + 1, none⟩ = some (.int .i64 (t.size : Int)) ∧ w'.cell? ⟨b, o + k * 4 + 3, none⟩ = some (.string t)) (go_keep) (first
            | (go_at_call 40; refine (idOf_any t _ HTZ.out).mono ?_; rintro e w1 ⟨rfl, hb1⟩; rw [HP.out]; have hB1 : Below w.heap.size w w1 := (Below.refl _ w).drew.trans hb1; have HB1 : Hid (Below w.heap.size w w1) := hB1; obtain ⟨x0, x1, x3⟩ := HCK.out w1 hB1; clear hb1 hB1))
          obtain ⟨y0, y1⟩ := HCG.out w1 HB1.out
          clear hkj
          go_wp2_with fail
          go_region_held3 (fun w' => w'.cell? ⟨b, o + kj * 4, none⟩ = some (.int .u32 (gp : Nat)) ∧ w'.cell? ⟨b, o + kj * 4 + 1, none⟩ = some (.int .i64 gl) ∧ w'.cell? ⟨b, o + k * 4, none⟩ = some (.int .u32 (P : Nat)) ∧ w'.cell? ⟨b, o + k * 4 + 1, none⟩ = some (.int .i64 (t.size : Int))) (go_keep) (first
            | (go_at_call 68; refine (isLess_any _ _ _ _ _).mono ?_; rintro e w2 ⟨rfl, hb2⟩; rw [HLb.out]; have hB2 : Below w.heap.size w w2 := HB1.out.trans (((Below.refl _ w1).drew.trans hb2).mono HB1.out.size); have HB2 : Hid (Below w.heap.size w w2) := hB2; obtain ⟨z0, z1, _⟩ := HCK.out w2 hB2; obtain ⟨z2, z3⟩ := HCG.out w2 hB2; clear hb2 hB2))
          go_wp2_with fail
          go_ret
          exact ⟨by rw [HM.out]; rfl, HB2.out⟩
    · have HM : Hid (markE l k = 9) := by
        show _ = _
        unfold markE
        rw [HLK.out]
        simp only
        rw [if_pos (by rw [HTS.out, HID.out]; exact fun e => e2 (Prod.mk.inj e).2)]
      obtain rfl : P = ip := by omega
      have e2' : ((t.size : Int) == il) = false := beq_eq_false_iff_ne.2 e2
      go_enter Tryz.func128, Tryz.ntmps128
      go_wp2_with fail
      go_region_held3 (fun w' => w'.cell? ⟨b, o + k * 4, none⟩ = some (.int .u32 (P : Nat)) ∧ w'.cell? ⟨b, o + k * 4 + 1, none⟩ = some (.int .i64 il) ∧ w'.cell? ⟨b, o + k * 4 + 3, none⟩ = some (.string t)) (go_keep) (first
        | (go_at_call 40; refine (idOf_any t _ HTZ.out).mono ?_; rintro e w1 ⟨rfl, hb1⟩; rw [HP.out]; have hB1 : Below w.heap.size w w1 := (Below.refl _ w).drew.trans hb1; have HB1 : Hid (Below w.heap.size w w1) := hB1; obtain ⟨x0, x1, x3⟩ := HCK.out w1 hB1; clear hb1 hB1))
      go_wp2_with fail
      go_ret
      exact ⟨by rw [HM.out]; rfl, HB1.out⟩
  · have HM : Hid (markE l k = 9) := by
      show _ = _
      unfold markE
      rw [HLK.out]
      simp only
      rw [if_pos (by rw [HTS.out, HID.out]; exact fun e => e1 (by rw [(Prod.mk.inj e).1]))]
    have e1' : ((P : Int) == (ip : Int)) = false := beq_eq_false_iff_ne.2 e1
    go_enter Tryz.func128, Tryz.ntmps128
    go_wp2_with fail
    go_region_held3 (fun w' => w'.cell? ⟨b, o + k * 4, none⟩ = some (.int .u32 (ip : Nat)) ∧ w'.cell? ⟨b, o + k * 4 + 1, none⟩ = some (.int .i64 il) ∧ w'.cell? ⟨b, o + k * 4 + 3, none⟩ = some (.string t)) (go_keep) (first
      | (go_at_call 40; refine (idOf_any t _ HTZ.out).mono ?_; rintro e w1 ⟨rfl, hb1⟩; rw [HP.out]; have hB1 : Below w.heap.size w w1 := (Below.refl _ w).drew.trans hb1; have HB1 : Hid (Below w.heap.size w w1) := hB1; obtain ⟨x0, x1, x3⟩ := HCK.out w1 hB1; clear hb1 hB1))
    go_wp2_with fail
    go_ret
    exact ⟨by rw [HM.out]; rfl, HB1.out⟩
end Go.Proofs.YtcbcjefefmbccabGreatDoor
