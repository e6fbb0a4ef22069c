/-
  Own text. Errors by their numbers and places, in one word (ErrIs); faulted and coded at the right ones by contracts; LongRecipe.
-/
import Derived.Test.YteefjbdejcpepaaGreatDoorCode
import Derived.Test.YteefjbdejcpepaaGreatDoorRecFault
namespace Go.Proofs.YteefjbdejcpepaaGreatDoor
open Go.RowKit

/- The error v has the number f.1 and the place f.2 (0: nil; -1: no place). -/
def ErrIs (w : World) (a : Nat → Addr) (v : Value) (f : Int × Int) : Prop :=
  (v = .nilIface ∧ f = (0, -1)) ∨ (∃ k : Nat, k < 12 ∧ v = sentV a k ∧ f = ((k : Int) + 1, -1)) ∨
  (∃ (k pb po : Nat) (at0 : Int), k < 12 ∧ v = .iface 98 (.pointer (some ⟨pb, po, none⟩)) ∧ w.cell? ⟨pb, po, none⟩ = some (.int .i64 at0) ∧ w.cell? ⟨pb, po + 1, none⟩ = some (sentV a k) ∧ f = ((k : Int) + 1, at0))
theorem ErrIs.below {w w' : World} {a : Nat → Addr} {v : Value} {f : Int × Int} (h : ErrIs w a v f) (hb : Below w.heap.size w w') : ErrIs w' a v f := by
  rcases h with h | h | ⟨k, pb, po, at0, hk, hv, h0, h1, hf⟩
  · exact .inl h
  · exact .inr (.inl h)
  · exact .inr (.inr ⟨k, pb, po, at0, hk, hv, (hb.cell (p := ⟨pb, po, none⟩) (lt_of_cell h0)).trans h0, (hb.cell (p := ⟨pb, po + 1, none⟩) (lt_of_cell h1)).trans h1, hf⟩)
/- The same, and a fault lies from block 'base' on. -/
def ErrIn (base : Nat) (w : World) (a : Nat → Addr) (v : Value) (f : Int × Int) : Prop :=
  (v = .nilIface ∧ f = (0, -1)) ∨ (∃ k : Nat, k < 12 ∧ v = sentV a k ∧ f = ((k : Int) + 1, -1)) ∨
  (∃ (k pb po : Nat) (at0 : Int), k < 12 ∧ base ≤ pb ∧ v = .iface 98 (.pointer (some ⟨pb, po, none⟩)) ∧ w.cell? ⟨pb, po, none⟩ = some (.int .i64 at0) ∧ w.cell? ⟨pb, po + 1, none⟩ = some (sentV a k) ∧ f = ((k : Int) + 1, at0))
theorem ErrIn.at {base : Nat} {w : World} {a : Nat → Addr} {v : Value} {f : Int × Int} (h : ErrIn base w a v f) : ErrIs w a v f := by
  rcases h with h | h | ⟨k, pb, po, at0, hk, _, hv, h0, h1, hf⟩
  · exact .inl h
  · exact .inr (.inl h)
  · exact .inr (.inr ⟨k, pb, po, at0, hk, hv, h0, h1, hf⟩)
theorem ErrIn.below {base : Nat} {w w' : World} {a : Nat → Addr} {v : Value} {f : Int × Int} (h : ErrIn base w a v f) (hb : Below w.heap.size w w') : ErrIn base w' a v f := by
  rcases h with h | h | ⟨k, pb, po, at0, hk, hl, hv, h0, h1, hf⟩
  · exact .inl h
  · exact .inr (.inl h)
  · exact .inr (.inr ⟨k, pb, po, at0, hk, hl, hv, (hb.cell (p := ⟨pb, po, none⟩) (lt_of_cell h0)).trans h0, (hb.cell (p := ⟨pb, po + 1, none⟩) (lt_of_cell h1)).trans h1, hf⟩)
theorem ErrIn.setCell {base : Nat} {w : World} {a : Nat → Addr} {v : Value} {f : Int × Int} (h : ErrIn base w a v f) {x : Addr} (hx : x.block < base) (u : Value) : ErrIn base (w.setCell x u) a v f := by
  rcases h with h | h | ⟨k, pb, po, at0, hk, hl, hv, h0, h1, hf⟩
  · exact .inl h
  · exact .inr (.inl h)
  · have hn : ∀ j, x ≠ ⟨pb, j, none⟩ := fun j e => by rw [e] at hx; simp at hx; omega
    exact .inr (.inr ⟨k, pb, po, at0, hk, hl, hv, by rw [World.cell?_setCell_other _ _ _ _ (hn _)]; exact h0, by rw [World.cell?_setCell_other _ _ _ _ (hn _)]; exact h1, hf⟩)
theorem ErrIn.nil {base : Nat} {w : World} {a : Nat → Addr} {v : Value} {x : Int} (h : ErrIn base w a v (0, x)) : v = .nilIface := by
  rcases h with h | ⟨k, _, _, hf⟩ | ⟨k, pb, po, at0, _, _, _, _, _, hf⟩
  · exact h.1
  · have := congrArg Prod.fst hf
    simp only at this
    omega
  · have := congrArg Prod.fst hf
    simp only at this
    omega
theorem ErrIs.code {w : World} {a : Nat → Addr} {v : Value} {f : Int × Int} (h : ErrIs w a v f) (hE : ErrW w a) :
    Calls Tryz.prog 64 #[v] w fun e w' => e = .returned (.tuple #[.int .i64 f.1, .int .i64 f.2]) ∧ Below w.heap.size w w' := by
  rcases h with ⟨rfl, rfl⟩ | ⟨k, hk, rfl, rfl⟩ | ⟨k, pb, po, at0, hk, rfl, h0, h1, rfl⟩
  · exact (code_nil w).mono fun e w' ⟨h1, h2⟩ => ⟨h1, by rw [h2]; exact Below.refl _ _⟩
  · exact code_sent a k hk w hE
  · exact code_fault a k hk pb po at0 w hE h0 h1

set_option maxHeartbeats 2000000 in
theorem faulted_true (a : Nat → Addr) (v : Value) (f : Int × Int) (w : World) (hE : ErrW w a) (h : ErrIs w a v f) :
    Calls Tryz.prog 18 #[v, faultV f.1 f.2] w fun e w' => e = .returned (.bool true) ∧ Below w.heap.size w w' := by
  obtain ⟨c, p⟩ := f
  have HB : Hid (∀ o, Below w.heap.size w (w.alloc o)) := fun o => (Below.refl _ w).alloc (Nat.le_refl _) o
  have HE : Hid (ErrW w a) := hE
  have HI : Hid (ErrIs w a v (c, p)) := h
  have hcc : (c == c) = true := by simp
  have hpp : (p == p) = true := by simp
  clear hE h
  go_enter Tryz.func18, Tryz.ntmps18
  go_wp2_with fail
  refine ((HI.out.below (HB.out _)).code (HE.out.below (HB.out _) (Nat.le_refl _))).mono ?_
  rintro e w1 ⟨rfl, hb1⟩
  have hb : Below w.heap.size w w1 := (HB.out _).trans (hb1.mono (by simp))
  have k0 : w1.cell? ⟨w.heap.size, 0, none⟩ = some (.int .i64 c) := (hb1.cell (p := ⟨w.heap.size, 0, none⟩) (by simp)).trans (by simp)
  have k1 : w1.cell? ⟨w.heap.size, 1, none⟩ = some (.int .i64 p) := (hb1.cell (p := ⟨w.heap.size, 1, none⟩) (by simp)).trans (by simp)
  clear hb1
  by_cases h0 : c = 0
  · have hc0 : (c == 0) = true := by rw [beq_iff_eq]; exact h0
    clear h0
    go_wp2_with fail
    go_ret
    exact ⟨rfl, hb⟩
  · have hc0 : (c == 0) = false := by rw [beq_eq_false_iff_ne]; exact h0
    clear h0
    go_wp2_with fail
    go_ret
    exact ⟨rfl, hb⟩

set_option maxHeartbeats 2000000 in
theorem coded_is (a : Nat → Addr) (v : Value) (c : Int) (w : World) (hE : ErrW w a) (h : ErrIs w a v (c, -1)) :
    Calls Tryz.prog 21 #[v, .int .i64 c] w fun e w' => e = .returned (.bool true) ∧ Below w.heap.size w w' := by
  have HE : Hid (ErrW w a) := hE
  have HI : Hid (ErrIs w a v (c, -1)) := h
  have hcc : (c == c) = true := by simp
  clear hE h
  go_enter Tryz.func21, Tryz.ntmps21
  go_wp2_with fail
  refine (HI.out.code HE.out).mono ?_
  rintro e w1 ⟨rfl, hb1⟩
  go_wp2_with fail
  go_ret
  exact ⟨rfl, hb1⟩

def longR (nm : ByteArray) (ids : List (Nat × Int)) : Int := if 30 < nm.size ∨ (60 < ids.length ∧ ids.length ≠ 251) then 1 else 0
set_option maxHeartbeats 2000000 in
theorem longRecipe_any (nm : ByteArray) (len p : Int) (v : Value) (ids : List (Nat × Int)) (w : World) (hv : IdsAt w v ids) :
    Calls Tryz.prog 19 #[rcpV nm len p v] w fun e w' => e = .returned (.int .i64 (longR nm ids)) ∧ Below w.heap.size w w' := by
  obtain ⟨pa, c, rfl, _⟩ := hv
  by_cases h1 : 30 < nm.size
  · have h1' : (30 : Int) < (nm.size : Int) := by omega
    have HV : Hid (longR nm ids = 1) := by show _ = _; unfold longR; rw [if_pos (.inl h1)]
    clear h1
    go_enter Tryz.func19, Tryz.ntmps19
    go_wp2_with fail
    go_ret
    exact ⟨by rw [HV.out]; rfl, (Below.refl _ w).alloc (Nat.le_refl _) _⟩
  · have h1' : ¬ (30 : Int) < (nm.size : Int) := by omega
    by_cases h2 : 60 < ids.length
    · have h2' : (60 : Int) < (ids.length : Int) := by omega
      by_cases h3 : ids.length = 251
      · have h3' : ((ids.length : Int) == 251) = true := by rw [beq_iff_eq]; omega
        have h3n : ((ids.length : Int) != 251) = false := by rw [bne, h3']; rfl
        have HV : Hid (longR nm ids = 0) := by show _ = _; unfold longR; rw [if_neg (by omega)]
        clear h1 h2 h3
        go_enter Tryz.func19, Tryz.ntmps19
        go_wp2_with fail
        go_ret
        exact ⟨by rw [HV.out]; rfl, (Below.refl _ w).alloc (Nat.le_refl _) _⟩
      · have h3' : ((ids.length : Int) == 251) = false := by rw [beq_eq_false_iff_ne]; omega
        have h3n : ((ids.length : Int) != 251) = true := by rw [bne, h3']; rfl
        have HV : Hid (longR nm ids = 1) := by show _ = _; unfold longR; rw [if_pos (.inr ⟨h2, h3⟩)]
        clear h1 h2 h3
        go_enter Tryz.func19, Tryz.ntmps19
        go_wp2_with fail
        go_ret
        exact ⟨by rw [HV.out]; rfl, (Below.refl _ w).alloc (Nat.le_refl _) _⟩
    · have h2' : ¬ (60 : Int) < (ids.length : Int) := by omega
      have HV : Hid (longR nm ids = 0) := by show _ = _; unfold longR; rw [if_neg (by omega)]
      clear h1 h2
      go_enter Tryz.func19, Tryz.ntmps19
      go_wp2_with fail
      go_ret
      exact ⟨by rw [HV.out]; rfl, (Below.refl _ w).alloc (Nat.le_refl _) _⟩
end Go.Proofs.YteefjbdejcpepaaGreatDoor
