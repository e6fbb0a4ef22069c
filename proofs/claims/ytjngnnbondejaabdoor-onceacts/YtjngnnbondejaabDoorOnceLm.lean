/-
  Own text. Calls of clients in memory; longCalls, onced, coded of cornbinlaw3 by contracts; the table beside the first world (OSt).
-/
import Derived.Test.YtjngnnbondejaabDoorOnceQ
import Derived.Test.YtjngnnbondejaabDoorRecErr
namespace Go.Proofs.YtjngnnbondejaabDoor
open Go.RowKit Go.Maps

/- A call: note, or ask; its client; what is noted; its number. -/
abbrev Call4 := Bool × ByteArray × ByteArray × Int
def CallsAt (w : World) (v : Value) (l : List Call4) : Prop :=
  ∃ (p : Option Addr) (c : Nat), v = .slice p l.length c ∧ ∀ i (h : i < l.length), ∃ b o, p = some ⟨b, o, none⟩ ∧ b < w.heap.size ∧ w.cell? ⟨b, o + i * 4, none⟩ = some (.bool l[i].1) ∧ w.cell? ⟨b, o + i * 4 + 1, none⟩ = some (.string l[i].2.1) ∧
    w.cell? ⟨b, o + i * 4 + 2, none⟩ = some (.string l[i].2.2.1) ∧ w.cell? ⟨b, o + i * 4 + 3, none⟩ = some (.int .i64 l[i].2.2.2)
theorem CallsAt.below {w w' : World} {v : Value} {l : List Call4} (h : CallsAt w v l) (hb : Below w.heap.size w w') : CallsAt w' v l := by
  obtain ⟨p, c, rfl, h⟩ := h
  refine ⟨p, c, rfl, fun i hi => ?_⟩
  obtain ⟨b, o, hp, hlt, h1, h2, h3, h4⟩ := h i hi
  exact ⟨b, o, hp, Nat.lt_of_lt_of_le hlt hb.size, (hb.cell (p := ⟨b, o + i * 4, none⟩) hlt).trans h1, (hb.cell (p := ⟨b, o + i * 4 + 1, none⟩) hlt).trans h2, (hb.cell (p := ⟨b, o + i * 4 + 2, none⟩) hlt).trans h3, (hb.cell (p := ⟨b, o + i * 4 + 3, none⟩) hlt).trans h4⟩
def LongCPost (w : World) (l : List Call4) (e : Ending) (w' : World) : Prop := ∃ b, e = .returned (.bool b) ∧ w' = w ∧ (b = false → l.length ≤ 80 ∧ ∀ i (h : i < l.length), l[i].2.1.size ≤ 30 ∧ l[i].2.2.1.size ≤ 100)
set_option maxRecDepth 100000 in
set_option maxHeartbeats 4000000 in
theorem longCalls_any (v : Value) (l : List Call4) (w : World) (hv : CallsAt w v l) :
    Calls Tryd.prog 22 #[v] w (LongCPost w l) := by
  obtain ⟨p, c, rfl, hcell⟩ := hv
  by_cases hl : l.length ≤ 80
  · have hl' : ¬ (80 : Int) < (l.length : Int) := by omega
    go_enter Tryd.func22, Tryd.ntmps22
    go_wp2_with fail
    go_loopw [3] (fun i wr => ∃ j : Nat, j ≤ l.length ∧ i = .int .i64 j ∧ wr = w ∧ ∀ k (hk : k < l.length), k < j → l[k].2.1.size ≤ 30 ∧ l[k].2.2.1.size ≤ 100) (fun i _ => l.length - (intOf i).toNat)
    case atStart => exact ⟨0, Nat.zero_le _, rfl, rfl, fun k _ h => by omega⟩
    case round =>
      obtain ⟨j, hj, rfl, rfl, hall⟩ := hrel
      have HA : Hid (∀ k (hk : k < l.length), k < j → l[k].2.1.size ≤ 30 ∧ l[k].2.2.1.size ≤ 100) := hall
      clear hall
      by_cases hlt : j < l.length
      · have hlt' : (j : Int) < (l.length : Int) := by omega
        obtain ⟨b, o, rfl, _, c0, c1, c2, c3⟩ := hcell j hlt
        have HNX : Hid (l[j].2.1.size ≤ 30 ∧ l[j].2.2.1.size ≤ 100 → ∀ k (hk : k < l.length), k < j + 1 → l[k].2.1.size ≤ 30 ∧ l[k].2.2.1.size ≤ 100) := fun h k hk hkj => by
          rcases Nat.lt_or_ge k j with h' | h'
          · exact HA.out k hk h'
          · obtain rfl : k = j := by omega
            exact h
        obtain ⟨y, hy⟩ : ∃ y, l[j] = y := ⟨_, rfl⟩
        rw [hy] at c0 c1 c2 c3 HNX
        clear hy
        obtain ⟨y0, y1, y2, y3⟩ := y
        by_cases h1 : y1.size ≤ 30
        · have h1' : ¬ (30 : Int) < (y1.size : Int) := by omega
          by_cases h2 : y2.size ≤ 100
          · have h2' : ¬ (100 : Int) < (y2.size : Int) := by omega
            have HN2 := HNX.out ⟨h1, h2⟩
            have HN3 : Hid (∀ k (hk : k < l.length), k < j + 1 → l[k].2.1.size ≤ 30 ∧ l[k].2.2.1.size ≤ 100) := HN2
            clear HN2 HNX
            go_wp2_with fail
            go_roundw
            case rel => exact ⟨j + 1, by omega, by go_num, trivial, HN3.out⟩
            case measure => simp [intOf]; omega
          · have h2' : (100 : Int) < (y2.size : Int) := by omega
            go_wp2_with fail
            go_ret
            exact ⟨true, rfl, rfl, fun h => by cases h⟩
        · have h1' : (30 : Int) < (y1.size : Int) := by omega
          go_wp2_with fail
          go_ret
          exact ⟨true, rfl, rfl, fun h => by cases h⟩
      · have hge : ¬ ((j : Int) < (l.length : Int)) := by omega
        go_wp2_with fail
        go_ret
        exact ⟨false, rfl, rfl, fun _ => ⟨hl, fun i hi => HA.out i hi (by omega)⟩⟩
  · have hl' : (80 : Int) < (l.length : Int) := by omega
    go_enter Tryd.func22, Tryd.ntmps22
    go_wp2_with fail
    go_ret
    exact ⟨true, rfl, rfl, fun h => by cases h⟩
set_option maxHeartbeats 2000000 in
theorem coded3_true (a : Nat → Addr) (v : Value) (c : Int) (w : World) (hE : ErrW w a) (h : ErrIs w a v (c, -1)) :
    Calls Tryd.prog 26 #[v, .int .i64 c] w fun e w' => e = .returned (.bool true) ∧ Below w.heap.size w w' := by
  have HE : Hid (ErrW w a) := hE
  have HI : Hid (ErrIs w a v (c, -1)) := h
  have hcc : (c == c) = true := by simp
  clear hE h
  go_enter Tryd.func26, Tryd.ntmps26
  go_wp2_with fail
  refine (HI.out.code HE.out).mono ?_
  rintro e w1 ⟨rfl, hb1⟩
  go_wp2_with fail
  go_ret
  exact ⟨rfl, hb1⟩
structure OSt (w W : World) (T m : Nat) (l : OL) : Prop where
  below : Below w.heap.size w W
  tab : OTab W T m l
  newT : w.heap.size ≤ T
  newm : w.heap.size ≤ m
theorem OSt.next {w W W' : World} {T m : Nat} {l : OL} (h : OSt w W T m l) (hb : Below W.heap.size W W') : OSt w W' T m l := ⟨h.below.trans (hb.mono h.below.size), h.tab.below hb, h.newT, h.newm⟩
theorem OSt.note {w W W' : World} {T m : Nat} {l l' : OL} (h : OSt w W T m l) (ho : Off (fun k => k = m) W W') (ht : OTab W' T m l') : OSt w W' T m l' := ⟨h.below.trans (ho.below h.below.size (fun k hk e => by have := h.newm; omega)), ht, h.newT, h.newm⟩
theorem OSt.at {w W : World} {T m : Nat} {l l' : OL} (h : OSt w W T m l) (e : l = l') : OSt w W T m l' := e ▸ h
set_option maxRecDepth 100000 in
set_option maxHeartbeats 4000000 in
theorem onced_any (a : Nat → Addr) (w : World) (hE : ErrW w a) : Calls Tryd.prog 21 #[] w fun e w' => e = .returned (.bool true) ∧ Below w.heap.size w w' := by
  have HE := hideN (fun W (hb : Below w.heap.size w W) => hE.below hb (Nat.le_refl _))
  have HNW := hideN (onceNew_any w)
  clear hE
  go_enter Tryd.func21, Tryd.ntmps21
  go_wp2_with fail
  refine HNW.out.mono ?_
  rintro e w1 ⟨rfl, ht, hb⟩
  have HS1 : Hid (OSt w w1 (w.heap.size + 1) w.heap.size []) := ⟨hb, ht, by omega, Nat.le_refl _⟩
  have HEE : Hid (ErrW w1 a) := HE.out w1 hb
  have HKK : Hid (OOk 1000 []) := OOk.nil.more (by omega)
  clear ht hb
  go_wp2_with fail
  refine (onceNote_any a ⟨#[97]⟩ ⟨#[104, 105]⟩ 1 _ _ [] w1 (by decide) HKK.out (HEE.out.on (by decide)) HS1.out.tab).mono ?_
  rintro e w2 ⟨ev, rfl, he, ht2, ho2⟩
  have hn : oNote [] (⟨#[97]⟩ : ByteArray).data.toList 1 (⟨#[104, 105]⟩ : ByteArray).data.toList = (0, [([97], (1, [104, 105]))]) := by decide
  rw [hn] at he ht2
  obtain rfl := he.nil
  have HS2 := hideN (HS1.out.note ho2 ht2)
  have HE2 := hideN (HE.out w2 HS2.out.below)
  have HK2 : Hid (OOk 1000 [([97], (1, [104, 105]))]) := by
    have h : OOk (0 + 1) (oNote [] (⟨#[97]⟩ : ByteArray).data.toList 1 (⟨#[104, 105]⟩ : ByteArray).data.toList).2 := OOk.nil.note (Int.le_refl _)
    rw [hn] at h
    exact h.more (by omega)
  clear he ht2 ho2 hn
  go_wp2_with fail
  refine (onceAsk_any a ⟨#[97]⟩ 1 _ _ _ w2 (by decide) HK2.out (HE2.out.on (by decide)) HS2.out.tab).mono ?_
  rintro e w3 ⟨ev, rfl, he, hb3⟩
  have hn : oAsk [([97], (1, [104, 105]))] (⟨#[97]⟩ : ByteArray).data.toList 1 = ([104, 105], true, 0) := by decide
  rw [hn] at he ⊢
  obtain rfl := he.nil
  have HB3 : Hid (Below w.heap.size w w3) := HS2.out.below.trans (hb3.mono HS2.out.below.size)
  clear he hb3 hn
  go_wp2_with fail
  go_ret
  exact ⟨rfl, HB3.out⟩
end Go.Proofs.YtjngnnbondejaabDoor
