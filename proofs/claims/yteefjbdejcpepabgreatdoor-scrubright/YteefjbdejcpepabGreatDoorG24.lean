/-
  Own text. (*node.Node).Recipe by a contract.
  Own text. What is joined of a recipe and pieces, pure, and the document's JoinOf by a contract.
  Own text. The document's Cut of a text by a byte, by a contract: it returns the pieces, in new memory.
  Own text. Hex digits read: digits.ReadHex and the document's Unhex by contracts.
  Own text. Decimal digits read: digits.Are, digits.Read and the document's NumberOf by contracts.
  Own text. print.Read by contracts: an ID, or the zero ID and what api.ErrText holds.
  Own text. The document's ReadID by a contract: it reads just what print.Read reads.
-/
import Derived.Test.YteefjbdejcpepabGreatDoorG23
import Derived.Test.YteefjbdejcpepabGreatDoorG05
import Derived.Test.YteefjbdejcpepabGreatDoorG10
import Derived.Test.YteefjbdejcpepabGreatDoorG03
import Derived.Lib.Strings
import Derived.Test.YteefjbdejcpepabGreatDoorG07
import Derived.RegionTactic
namespace Go.Proofs.YteefjbdejcpepabGreatDoor
open Go.RowKit Go.Maps

def RecPost (a : Nat → Addr) (nm : ByteArray) (w : World) (r : Option (List UInt8)) (e : Ending) (w' : World) : Prop :=
  (match r with
    | none => ∃ ev, e = .returned (.tuple #[rcpV ⟨#[]⟩ 0 0 (.slice none 0 0), ev]) ∧ ErrIn w.heap.size w' a ev (5, -1)
    | some s => ∃ v, e = .returned (.tuple #[rcpV nm (s.length : Int) ((pmore 2166136261 s : Nat) : Int) v, .nilIface]) ∧ IdsIn w.heap.size w' v (idsOf s)) ∧ Below w.heap.size w w'
theorem IdsIn.off {base : Nat} {F : Nat → Prop} {w w' : World} {v : Value} {ids : List (Nat × Int)} (h : IdsIn base w v ids) (ho : Off F w w') (hn : ∀ k, base ≤ k → ¬ F k) : IdsIn base w' v ids := by
  obtain ⟨p, c, rfl, h⟩ := h
  refine ⟨p, c, rfl, fun i hi => ?_⟩
  obtain ⟨b, o, rfl, hb0, hb, h0, h1⟩ := h i hi
  have he : w'.heap[b]? = w.heap[b]? := ho.block b hb (hn b hb0)
  exact ⟨b, o, rfl, hb0, Nat.lt_of_lt_of_le hb ho.size, (World.cell?_of_block (w := w) he).trans h0, (World.cell?_of_block (w := w) he).trans h1⟩
set_option maxRecDepth 100000 in
set_option maxHeartbeats 2000000 in
theorem nodeRecipe_any (a : Nat → Addr) (nm : ByteArray) (p : Addr) (F : Nat → Prop) (st : NSt) (w : World) (hnm : nm.size ≤ 50000) (hlen : ∀ f ∈ st.files, (idsOf f.2).length ≤ 50000) (hE : ErrE [4] w a) (hP : PNode w p F st) :
    Calls Tryz.prog 10 #[.pointer (some p), .string nm] w (RecPost a nm w (nFile st.files nm.data.toList)) := by
  obtain ⟨N, mf, mb, vi, pi, Fi, rfl, h, _⟩ := hP
  have HEE : Hid (∀ W, Below w.heap.size w W → ErrE [4] W a) := fun W hb => hE.below hb (Nat.le_refl _)
  have hal := (Below.refl w.heap.size w).alloc (Nat.le_refl _) (.cells #[.string ⟨#[]⟩, .int .i64 0, .int .u32 0, .slice none 0 0] 40)
  have hbr := Blk.new w #[.string ⟨#[]⟩, .int .i64 0, .int .u32 0, .slice none 0 0] 40
  have h1 := h.below hal
  have q0 := h1.blk.cell (i := 0) rfl
  have HH := hideN h1
  have hnw : WfNm nm.data.toList := by show nm.data.toList.length ≤ maxLen; rw [Array.length_toList]; show nm.size ≤ maxLen; unfold maxLen; omega
  have hnmE : (⟨nm.data.toList.toArray⟩ : ByteArray) = nm := by simp
  cases hf : nFile st.files nm.data.toList with
  | none =>
    have l0 : (Instr.lookup 82 (.map (some mf)) (.string nm) true).run Tryz.prog (w.alloc (.cells #[.string ⟨#[]⟩, .int .i64 0, .int .u32 0, .slice none 0 0] 40)) = .ok (.tuple #[.agg #[.string ⟨#[]⟩, .int .i64 0, .int .u32 0, .slice none 0 0], .bool false]) (w.alloc (.cells #[.string ⟨#[]⟩, .int .i64 0, .int .u32 0, .slice none 0 0] 40)) := by
      have := h1.files.look_none Tryz.underlying82 (rcpZero _) hnw (fun y hy => by
        obtain ⟨f, hfm, rfl⟩ := List.mem_map.1 hy
        exact nFile_none hf f hfm)
      change (Instr.lookup _ _ (.string ⟨nm.data.toList.toArray⟩) true).run _ _ = _ at this
      rw [hnmE] at this
      exact this
    clear h h1 hf hnmE hE hlen
    go_enter Tryz.func10, Tryz.ntmps10
    have hal2 := (Below.refl (w.alloc (.cells #[.string ⟨#[]⟩, .int .i64 0, .int .u32 0, .slice none 0 0] 40)).heap.size (w.alloc (.cells #[.string ⟨#[]⟩, .int .i64 0, .int .u32 0, .slice none 0 0] 40))).alloc (Nat.le_refl _) (.cells #[.string ⟨#[]⟩, .int .i64 0, .int .u32 0, .slice none 0 0] 40)
    have HB2 : Hid (Below w.heap.size w _) := hideN (hal.trans (hal2.mono hal.size))
    have hbr2 := hbr.next hal2
    have g4 := (HEE.out _ HB2.out).glob 4 rfl
    change World.cell? _ ⟨0, 0, none⟩ = _ at g4
    have hgl : 0 < w.heap.size := lt_of_cell ((HEE.out w (Below.refl _ _)).glob 4 rfl)
    have hgl2 : 0 ≠ w.heap.size := by omega
    clear hal hal2 hbr
    go_wp2_with fail
    generalize ((w.alloc (.cells #[.string ⟨#[]⟩, .int .i64 0, .int .u32 0, .slice none 0 0] 40)).alloc (.cells #[.string ⟨#[]⟩, .int .i64 0, .int .u32 0, .slice none 0 0] 40)) = W2 at *
    have k0 := hbr2.cell (i := 0) rfl
    have k1 := hbr2.cell (i := 1) rfl
    have k2 := hbr2.cell (i := 2) rfl
    have k3 := hbr2.cell (i := 3) rfl
    have f0 := hbr2.frozen 0
    have f1 := hbr2.frozen 1
    have f2 := hbr2.frozen 2
    have f3 := hbr2.frozen 3
    go_region
    all_goals
      go_wp2_with fail
      have hRs := (((hbr2.set 0 (.string ⟨#[]⟩)).set 1 (.int .i64 0)).set 2 (.int .u32 0)).set 3 (.slice none 0 0)
      have s0 := hRs.cell (i := 0) rfl
      have s1 := hRs.cell (i := 1) rfl
      have s2 := hRs.cell (i := 2) rfl
      have s3 := hRs.cell (i := 3) rfl
      exact bodyPost_ret (v := .tuple #[.agg #[.string ⟨#[]⟩, .int .i64 0, .int .u32 0, .slice none 0 0], sentV a 4]) (by simp [results, Tryz.results10, go_sem, s0, s1, s2, s3]) rfl ⟨⟨_, rfl, .inr (.inl ⟨4, by decide, rfl, rfl⟩)⟩, ((((HB2.out.setCell (p := ⟨w.heap.size, 0, none⟩) (Nat.le_refl _) _).setCell (p := ⟨w.heap.size, 1, none⟩) (Nat.le_refl _) _).setCell (p := ⟨w.heap.size, 2, none⟩) (Nat.le_refl _) _).setCell (p := ⟨w.heap.size, 3, none⟩) (Nat.le_refl _) _).drew⟩
  | some s =>
    obtain ⟨pv0, cv0, hv0, _⟩ := h1.ids _ (nFile_some hf)
    have HL := hideN (hlen _ (nFile_some hf))
    have HI := hideN (h1.ids _ (nFile_some hf))
    simp only at hv0 HL HI
    have l0 : (Instr.lookup 82 (.map (some mf)) (.string nm) true).run Tryz.prog (w.alloc (.cells #[.string ⟨#[]⟩, .int .i64 0, .int .u32 0, .slice none 0 0] 40)) = .ok (.tuple #[.agg #[.string nm, .int .i64 (s.length : Int), .int .u32 ((pmore 2166136261 s : Nat) : Int), .slice pv0 (idsOf s).length cv0], .bool true]) (w.alloc (.cells #[.string ⟨#[]⟩, .int .i64 0, .int .u32 0, .slice none 0 0] 40)) := by
      have := h1.files.look_some Tryz.underlying82 (rcpZero _) (List.mem_map.2 ⟨_, nFile_some hf, rfl⟩)
      change (Instr.lookup _ _ (.string ⟨nm.data.toList.toArray⟩) true).run _ _ = .ok (.tuple #[rcpV ⟨nm.data.toList.toArray⟩ (s.length : Int) ((pmore 2166136261 s : Nat) : Int) (vi nm.data.toList), .bool true]) _ at this
      rw [hnmE, hv0] at this
      exact this
    rw [hv0] at HI
    obtain ⟨P, hPP⟩ : ∃ P, pmore 2166136261 s = P := ⟨_, rfl⟩
    obtain ⟨L, hLL⟩ : ∃ L, (s.length : Int) = L := ⟨_, rfl⟩
    obtain ⟨idl, hidl⟩ : ∃ idl, (idsOf s).length = idl := ⟨_, rfl⟩
    have HPP := hideN hPP
    have HLL := hideN hLL
    have HID := hideN hidl
    rw [hPP, hLL, hidl] at l0
    rw [hidl] at HI
    clear h h1 hf hnmE hE hlen hv0 hPP hLL hidl
    have hal2 := (Below.refl (w.alloc (.cells #[.string ⟨#[]⟩, .int .i64 0, .int .u32 0, .slice none 0 0] 40)).heap.size (w.alloc (.cells #[.string ⟨#[]⟩, .int .i64 0, .int .u32 0, .slice none 0 0] 40))).alloc (Nat.le_refl _) (.cells #[.string nm, .int .i64 L, .int .u32 (P : Nat), .slice pv0 idl cv0] 40)
    go_enter Tryz.func10, Tryz.ntmps10
    have hbr2 := hbr.next hal2
    have hr2 := Blk.new (w.alloc (.cells #[.string ⟨#[]⟩, .int .i64 0, .int .u32 0, .slice none 0 0] 40)) #[.string nm, .int .i64 L, .int .u32 (P : Nat), .slice pv0 idl cv0] 40
    have hs1 : (w.alloc (.cells #[.string ⟨#[]⟩, .int .i64 0, .int .u32 0, .slice none 0 0] 40)).heap.size = w.heap.size + 1 := by simp
    rw [hs1] at hr2
    have HB2 : Hid (Below w.heap.size w _) := hideN (hal.trans (hal2.mono hal.size))
    have HI2 := hideN (HI.out.below hal2)
    clear hal hal2 hbr HI hs1
    go_wp2_with fail
    generalize ((w.alloc (.cells #[.string ⟨#[]⟩, .int .i64 0, .int .u32 0, .slice none 0 0] 40)).alloc (.cells #[.string nm, .int .i64 L, .int .u32 (P : Nat), .slice pv0 idl cv0] 40)) = W2 at *
    refine (cloneIds_any (.slice pv0 idl cv0) (idsOf s) W2 HI2.out HL.out).mono ?_
    rintro e w3 ⟨v3, rfl, hi3, hb3⟩
    have HI3 := hideN hi3
    have HB3 : Hid (Below w.heap.size w w3) := HB2.out.trans (hb3.mono HB2.out.size)
    have hbr3 := hbr2.next hb3
    have hr3 := hr2.next hb3
    have hlt3 := hr2.lt
    obtain ⟨p3, c3, hv3, _⟩ := hi3
    rw [HID.out] at hv3
    subst hv3
    clear hb3 HI2 hbr2 hr2
    have hr4 := hr3.set 3 (.slice p3 idl c3)
    have hbr4 := hbr3.other (a := ⟨w.heap.size + 1, 3, none⟩) (by simp only; omega) (.slice p3 idl c3)
    have y3 := hr3.cell (i := 3) rfl
    have z3 := hr3.frozen 3
    have k0 := hbr4.cell (i := 0) rfl
    have k1 := hbr4.cell (i := 1) rfl
    have k2 := hbr4.cell (i := 2) rfl
    have k3 := hbr4.cell (i := 3) rfl
    have f0 := hbr4.frozen 0
    have f1 := hbr4.frozen 1
    have f2 := hbr4.frozen 2
    have f3 := hbr4.frozen 3
    have r0 := hr4.cell (i := 0) rfl
    have r1 := hr4.cell (i := 1) rfl
    have r2 := hr4.cell (i := 2) rfl
    have r3 := hr4.cell (i := 3) rfl
    go_wp2_with fail
    have hRs := (((hbr4.set 0 (.string nm)).set 1 (.int .i64 L)).set 2 (.int .u32 (P : Nat))).set 3 (.slice p3 idl c3)
    have s0 := hRs.cell (i := 0) rfl
    have s1 := hRs.cell (i := 1) rfl
    have s2 := hRs.cell (i := 2) rfl
    have s3 := hRs.cell (i := 3) rfl
    have hO := (((((Off.of_below (F := fun k => k = w.heap.size ∨ k = w.heap.size + 1) (Below.refl w3.heap.size w3)).setCell (p := ⟨w.heap.size + 1, 3, none⟩) (.inl (.inr rfl)) (.slice p3 idl c3)).setCell (p := ⟨w.heap.size, 0, none⟩) (.inl (.inl rfl)) (.string nm)).setCell (p := ⟨w.heap.size, 1, none⟩) (.inl (.inl rfl)) (.int .i64 L)).setCell (p := ⟨w.heap.size, 2, none⟩) (.inl (.inl rfl)) (.int .u32 (P : Nat))).setCell (p := ⟨w.heap.size, 3, none⟩) (.inl (.inl rfl)) (.slice p3 idl c3)
    have hi9 := (HI3.out.off hO (fun k hk e => by rcases e with e | e <;> omega)).low (show w.heap.size ≤ W2.heap.size by omega)
    exact bodyPost_ret (v := .tuple #[.agg #[.string nm, .int .i64 L, .int .u32 (P : Nat), .slice p3 idl c3], .nilIface]) (by simp [results, Tryz.results10, go_sem, s0, s1, s2, s3]) rfl ⟨⟨.slice p3 idl c3, by rw [HLL.out, HPP.out], hi9⟩, HB3.out.trans (hO.below HB3.out.size (fun j hj e => by rcases e with e | e <;> omega))⟩
end Go.Proofs.YteefjbdejcpepabGreatDoor
namespace Go.Proofs.YteefjbdejcpepabGreatDoor
open Go.RowKit

/- The first piece that has another ID. -/
def firstOdd : Nat → List (List UInt8) → List (Nat × Int) → Option Nat
  | i, p :: l, x :: r => if idOfL p = x then firstOdd (i + 1) l r else some i
  | _, _, _ => none
def joinOf (nm : List UInt8) (len : Int) (p : Nat) (ids : List (Nat × Int)) (ls : List (List UInt8)) : List UInt8 × (Int × Int) :=
  if recFault nm len ids ≠ (0, -1) then ([], recFault nm len ids) else if ls.length ≠ ids.length then ([], (3, -1)) else
    match firstOdd 0 ls ids with
    | some i => ([], (9, (i : Int)))
    | none => if pmore 2166136261 ls.flatten = p then (ls.flatten, (0, -1)) else ([], (9, -1))
theorem recFault_code (nm : List UInt8) (len : Int) (ids : List (Nat × Int)) : recFault nm len ids = (0, -1) ∨ 0 < (recFault nm len ids).1 := by
  unfold recFault
  split
  · exact .inr (by decide)
  · split
    · exact .inr (by decide)
    · split
      · exact .inr (by decide)
      · split
        · exact .inr (by show (0 : Int) < 3; decide)
        · split
          · exact .inl rfl
          · exact .inr (by decide)
theorem recFault_zero {nm : List UInt8} {len : Int} {ids : List (Nat × Int)} (h : recFault nm len ids = (0, -1)) : isName nm = true ∧ (0 ≤ len ∧ len ≤ 4000) ∧ ids.length ≤ 250 ∧ firstBad 0 ids = none ∧ lenSum ids = len := by
  unfold recFault at h
  split at h
  · cases h
  · rename_i h1
    split at h
    · cases h
    · rename_i h2
      split at h
      · cases h
      · rename_i h3
        split at h
        · cases h
        · rename_i h4
          split at h
          · rename_i h5
            exact ⟨by simpa using h1, by omega, by omega, h4, h5⟩
          · cases h
theorem firstOdd_at : ∀ (ls : List (List UInt8)) (ids : List (Nat × Int)) (i k : Nat) (h : k < ls.length) (h' : k < ids.length), (∀ j (hj : j < ls.length) (hj' : j < ids.length), j < k → idOfL ls[j] = ids[j]) → idOfL ls[k] ≠ ids[k] → firstOdd i ls ids = some (i + k)
  | [], _, _, _, h, _, _, _ => by simp at h
  | _ :: _, [], _, _, _, h', _, _ => by simp at h'
  | p :: l, x :: r, i, 0, _, _, _, hb => by
    have hb' : idOfL p ≠ x := hb
    rw [firstOdd, if_neg hb']
    rfl
  | p :: l, x :: r, i, k + 1, h, h', ha, hb => by
    have h0 : idOfL p = x := ha 0 (by simp) (by simp) (by omega)
    rw [firstOdd, if_pos h0, firstOdd_at l r (i + 1) k (by simpa using h) (by simpa using h') (fun j hj hj' hk => by have := ha (j + 1) (by simpa using hj) (by simpa using hj') (by omega); simpa using this) (by simpa using hb)]
    congr 1
    omega
theorem firstOdd_none : ∀ (ls : List (List UInt8)) (ids : List (Nat × Int)) (i : Nat), (∀ j (hj : j < ls.length) (hj' : j < ids.length), idOfL ls[j] = ids[j]) → firstOdd i ls ids = none
  | [], _, _, _ => by simp [firstOdd]
  | _ :: _, [], _, _ => by simp [firstOdd]
  | p :: l, x :: r, i, ha => by
    have h0 : idOfL p = x := ha 0 (by simp) (by simp)
    rw [firstOdd, if_pos h0, firstOdd_none l r (i + 1) (fun j hj hj' => by have := ha (j + 1) (by simpa using hj) (by simpa using hj'); simpa using this)]

/- The recipe's box, the result, and a fault in a block of its own. -/
structure JoinW (w W : World) (nm : ByteArray) (len p : Int) (v : Value) (B : Nat) (c a : Int) : Prop where
  fault : FaultW w W nm len p v
  lo : w.heap.size + 1 < B
  hi : B < W.heap.size
  q0 : W.cell? ⟨B, 0, none⟩ = some (.int .i64 c)
  q1 : W.cell? ⟨B, 1, none⟩ = some (.int .i64 a)
theorem JoinW.next {w W W' : World} {nm : ByteArray} {len p : Int} {v : Value} {B : Nat} {c a : Int} (h : JoinW w W nm len p v B c a) (hb : Below W.heap.size W W') : JoinW w W' nm len p v B c a :=
  ⟨h.fault.next hb, h.lo, Nat.lt_of_lt_of_le h.hi hb.size, (hb.cell (p := ⟨B, 0, none⟩) h.hi).trans h.q0, (hb.cell (p := ⟨B, 1, none⟩) h.hi).trans h.q1⟩
theorem JoinW.new {w W : World} {nm : ByteArray} {len p : Int} {v : Value} (h : FaultW w W nm len p v) (c a : Int) (t : TypeId) : JoinW w (W.alloc (.cells #[.int .i64 c, .int .i64 a] t)) nm len p v W.heap.size c a :=
  ⟨h.next ((Below.refl _ W).alloc (Nat.le_refl _) _), h.size, by simp, new_cell W _ _ rfl rfl, new_cell W _ _ rfl rfl⟩

end Go.Proofs.YteefjbdejcpepabGreatDoor
namespace Go.Proofs.YteefjbdejcpepabGreatDoor
open Go.RowKit

def cutBy (c : UInt8) : List UInt8 → List (List UInt8)
  | [] => [[]]
  | x :: l => if x = c then [] :: cutBy c l else match cutBy c l with | p :: r => (x :: p) :: r | [] => [[x]]
theorem cutBy_noc (c : UInt8) (l : List UInt8) (h : c ∉ l) : cutBy c l = [l] := by
  induction l with
  | nil => rfl
  | cons x l ih =>
    simp only [List.mem_cons, not_or] at h
    rw [cutBy, if_neg (fun e => h.1 e.symm), ih h.2]
theorem cutBy_split (c : UInt8) (p r : List UInt8) (h : c ∉ p) : cutBy c (p ++ c :: r) = p :: cutBy c r := by
  induction p with
  | nil => rw [List.nil_append, cutBy, if_pos rfl]
  | cons x p ih =>
    simp only [List.mem_cons, not_or] at h
    rw [List.cons_append, cutBy, if_neg (fun e => h.1 e.symm), ih h.2]
abbrev strV (p : List UInt8) : Value := .string ⟨p.toArray⟩
theorem extract_str (s : ByteArray) (a b : Nat) : s.extract a b = ⟨((s.data.toList.drop a).take (b - a)).toArray⟩ := by
  apply ByteArray.ext
  apply Array.toList_inj.1
  rw [Lib.extract_data]
theorem not_mem_seg (l : List UInt8) (c : UInt8) (f k : Nat) (h : ∀ j, f ≤ j → j < k → l[j]? ≠ some c) : c ∉ (l.drop f).take (k - f) := by
  intro hm
  obtain ⟨i, hi, e⟩ := List.getElem_of_mem hm
  have hi' : i < k - f := by simp at hi; omega
  have := h (f + i) (by omega) (by omega)
  apply this
  have e2 : ((l.drop f).take (k - f))[i]? = some c := by rw [List.getElem?_eq_getElem hi, e]
  rw [List.getElem?_take, if_pos hi', List.getElem?_drop] at e2
  exact e2
/- One more byte: it is not c. -/
theorem seg_next (l : List UInt8) (c : UInt8) (f k : Nat) (h : ∀ j, f ≤ j → j < k → l[j]? ≠ some c) (hk : l[k]? ≠ some c) : ∀ j, f ≤ j → j < k + 1 → l[j]? ≠ some c := by
  intro j h1 h2
  by_cases e : j = k
  · subst e; exact hk
  · exact h j h1 (by omega)
/- One more piece. -/
theorem cut_next (l : List UInt8) (c : UInt8) (ps : List (List UInt8)) (f k : Nat) (hf : f ≤ k) (hc : cutBy c l = ps ++ cutBy c (l.drop f)) (h : ∀ j, f ≤ j → j < k → l[j]? ≠ some c) (hk : l[k]? = some c) :
    cutBy c l = (ps ++ [(l.drop f).take (k - f)]) ++ cutBy c (l.drop (k + 1)) := by
  have e : l.drop f = (l.drop f).take (k - f) ++ c :: l.drop (k + 1) := by
    have h1 := List.take_append_drop (k - f) (l.drop f)
    rw [List.drop_drop, show f + (k - f) = k by omega] at h1
    have hkl : k < l.length := (List.getElem?_eq_some_iff.1 hk).1
    have h2 : l.drop k = c :: l.drop (k + 1) := by
      rw [List.drop_eq_getElem_cons hkl]
      rw [List.getElem?_eq_getElem hkl] at hk
      rw [Option.some.inj hk]
    rw [h2] at h1
    exact h1.symm
  rw [hc]
  conv => lhs; rw [e]
  rw [cutBy_split _ _ _ (not_mem_seg l c f k h)]
  simp
theorem cut_last (l : List UInt8) (c : UInt8) (ps : List (List UInt8)) (f k : Nat) (hkl : l.length ≤ k) (hc : cutBy c l = ps ++ cutBy c (l.drop f)) (h : ∀ j, f ≤ j → j < k → l[j]? ≠ some c) :
    cutBy c l = ps ++ [l.drop f] := by
  rw [hc, cutBy_noc]
  have := not_mem_seg l c f k h
  rw [List.take_of_length_le (by rw [List.length_drop]; omega)] at this
  exact this

theorem own_ge {w : World} {base : Nat} {e : TypeId} {size : Nat} {v : Value} {n : Nat} {xs : List Value} (h : w.ownsRow base e size v n xs) {j : Nat} (hj : v.ownBlock = some j) : base ≤ j := by
  obtain ⟨_, h⟩ := h
  rcases h with ⟨rfl, _⟩ | ⟨g, cap, cur, rfl, hg, _⟩
  · simp [Value.ownBlock] at hj
  · simp [Value.ownBlock] at hj; omega
theorem infoStr : (Tryz.prog.info? 9).map (fun i => (i.zero, i.size, i.bytes)) = some (some (.string ⟨#[]⟩), 1, 16) := by kernel_rfl

end Go.Proofs.YteefjbdejcpepabGreatDoor
namespace Go.Proofs.YteefjbdejcpepabGreatDoor
open Go.RowKit

def hexRes : Option Nat → Value
  | some v => .tuple #[.int .u32 v, .bool true]
  | none => .tuple #[.int .u32 0, .bool false]

theorem unhex_stop (l : List UInt8) (k : Nat) (h : k < l.length) (hn : unhex1 l[k] = none) (n : Nat) : unhex n l = none := by
  induction l generalizing n k with
  | nil => simp at h
  | cons c l ih =>
    cases k with
    | zero => simp at hn; simp [unhex, hn]
    | succ k =>
      simp only [unhex]
      cases unhex1 c with
      | none => rfl
      | some d => exact ih k (by simpa using h) (by simpa using hn) _
theorem unhex_snoc {n m : Nat} {l : List UInt8} {c : UInt8} {d : Nat} (h : unhex n l = some m) (hd : unhex1 c = some d) : unhex n (l ++ [c]) = some (16 * m + d) := by
  rw [unhex_append, h]; simp [unhex, hd]

theorem unhex1_dig {c : UInt8} (h1 : (48 : Int) ≤ c.toNat) (h2 : (c.toNat : Int) ≤ 57) : unhex1 c = some (c.toNat - 48) := by unfold unhex1; rw [if_pos (by omega)]
theorem unhex1_let {c : UInt8} (h1 : (97 : Int) ≤ c.toNat) (h2 : (c.toNat : Int) ≤ 102) : unhex1 c = some (c.toNat - 87) := by unfold unhex1; rw [if_neg (by omega), if_pos (by omega)]
theorem unhex1_no {c : UInt8} (h1 : (c.toNat : Int) < 48 ∨ 57 < (c.toNat : Int)) (h2 : (c.toNat : Int) < 97 ∨ 102 < (c.toNat : Int)) : unhex1 c = none := by unfold unhex1; rw [if_neg (by omega), if_neg (by omega)]
theorem or16 (m d : Nat) (x : Int) (hx : x = d) (hm : m < 268435456) (hd : d < 16) : bits .or .u32 ((m : Int) * 16) x = ((16 * m + d : Nat) : Int) := by
  subst hx
  rw [bits_join .u32 32 (by decide) (fun n h0 h1 => by rw [IntKind.wrap_u32]; omega) 4 _ _ (by omega) (by omega) (by omega) (by omega) (by omega) (by omega)]
  omega
theorem unhex_fail (s : ByteArray) (k : Nat) (h : k < s.size) (hn : unhex1 s[k] = none) : hexRes (unhex 0 s.data.toList) = .tuple #[.int .u32 0, .bool false] := by
  rw [unhex_stop s.data.toList k (by simpa using h) hn]; rfl

def unhex8 (l : List UInt8) : Option Nat := if l.length = 8 then unhex 0 l else none
theorem unhex8_of (s : ByteArray) (h : s.size = 8) : unhex8 s.data.toList = unhex 0 s.data.toList := by
  unfold unhex8
  rw [if_pos (by rw [Array.length_toList]; exact h)]
theorem unhex8_no (s : ByteArray) (h : s.size ≠ 8) : unhex8 s.data.toList = none := by
  unfold unhex8
  rw [if_neg (by rw [Array.length_toList]; exact h)]
end Go.Proofs.YteefjbdejcpepabGreatDoor
namespace Go.Proofs.YteefjbdejcpepabGreatDoor
open Go.RowKit

/- Decimal. -/
def lenRes : Option Nat → Value
  | some v => .tuple #[.int .i64 v, .bool true]
  | none => .tuple #[.int .i64 0, .bool false]
def numRes : Option Nat → Int
  | some v => v
  | none => -1
theorem undec_stop (l : List UInt8) (k : Nat) (h : k < l.length) (hn : undec1 l[k] = none) (n : Nat) : undec n l = none := by
  induction l generalizing n k with
  | nil => simp at h
  | cons c l ih =>
    cases k with
    | zero => simp at hn; simp [undec, hn]
    | succ k =>
      simp only [undec]
      cases undec1 c with
      | none => rfl
      | some d => exact ih k (by simpa using h) (by simpa using hn) _
theorem undec_snoc {n m : Nat} {l : List UInt8} {c : UInt8} {d : Nat} (h : undec n l = some m) (hd : undec1 c = some d) : undec n (l ++ [c]) = some (10 * m + d) := by
  rw [undec_append, h]; simp [undec, hd]
theorem undec1_yes {c : UInt8} (h1 : (48 : Int) ≤ c.toNat) (h2 : (c.toNat : Int) ≤ 57) : undec1 c = some (c.toNat - 48) := by unfold undec1; rw [if_pos (by omega)]
theorem undec1_no {c : UInt8} (h1 : (c.toNat : Int) < 48 ∨ 57 < (c.toNat : Int)) : undec1 c = none := by unfold undec1; rw [if_neg (by omega)]
theorem len_toList (s : ByteArray) : s.data.toList.length = s.size := by rw [Array.length_toList]; rfl
theorem numOf_bad (s : ByteArray) (most : Nat) (h : s.size < 1 ∨ most < s.size) : numOf s.data.toList most = none := by
  unfold numOf
  rw [if_pos]
  rcases h with h | h
  · exact Or.inl (by simpa using h)
  · exact Or.inr (Or.inl (by simpa using h))
theorem numOf_zero (s : ByteArray) (most : Nat) (h : 1 < s.size) (h0 : s[0].toNat = 48) : numOf s.data.toList most = none := by
  unfold numOf
  rw [if_pos]
  refine Or.inr (Or.inr ⟨by simpa using h, ?_⟩)
  have e : s.data.toList.head? = some s[0] := by
    rw [List.head?_eq_getElem?, List.getElem?_eq_getElem (by simpa using (by omega : 0 < s.size))]; rfl
  rw [e, UInt8.toNat_inj.1 (h0.trans (by decide : (48 : Nat) = (48 : UInt8).toNat))]
theorem numOf_good (s : ByteArray) (most : Nat) (h1 : 1 ≤ s.size) (h2 : s.size ≤ most) (h3 : ∀ _ : 1 < s.size, s[0].toNat ≠ 48) : numOf s.data.toList most = undec 0 s.data.toList := by
  unfold numOf
  rw [if_neg]
  rintro (h | h | ⟨h, h4⟩)
  · rw [len_toList] at h; omega
  · rw [len_toList] at h; omega
  · have hs : 1 < s.size := by rw [len_toList] at h; exact h
    have e : s.data.toList.head? = some s[0] := by
      rw [List.head?_eq_getElem?, List.getElem?_eq_getElem (by simpa using (by omega : 0 < s.size))]; rfl
    rw [e] at h4
    exact h3 hs (by rw [Option.some.inj h4]; decide)
theorem undec_fail (s : ByteArray) (k : Nat) (h : k < s.size) (hn : undec1 s[k] = none) : undec 0 s.data.toList = none :=
  undec_stop s.data.toList k (by rw [len_toList]; exact h) hn 0
theorem undec_small (s : ByteArray) (k m d : Nat) (hs : s.size ≤ d) (h : undec 0 (s.data.toList.take k) = some m) : m < 10 ^ d := by
  have h1 := undec_lt _ _ _ h
  have h2 : (s.data.toList.take k).length ≤ d := by simp; omega
  have h3 : 10 ^ (s.data.toList.take k).length ≤ 10 ^ d := Nat.pow_le_pow_right (by decide) h2
  omega

theorem undec_small17 (s : ByteArray) (k m : Nat) (hk : k ≤ 17) (h : undec 0 (s.data.toList.take k) = some m) : m < 100000000000000000 := by
  have h1 := undec_lt _ _ _ h
  have h2 : (s.data.toList.take k).length ≤ 17 := by simp; omega
  have h3 : 10 ^ (s.data.toList.take k).length ≤ 10 ^ 17 := Nat.pow_le_pow_right (by decide) h2
  have h4 : (10 : Nat) ^ 17 = 100000000000000000 := by decide
  omega
theorem ne_empty {s : ByteArray} (h : 1 ≤ s.size) : s.toList.isEmpty = false := by
  rw [← decide_eq_emptyBytes, decide_eq_false_iff_not]
  rintro rfl
  simp at h

/- Is it a number of digits without needless zeros? -/
def areN (l : List UInt8) : Bool := (numOf l l.length).isSome
theorem numOf_areN (l : List UInt8) (most : Nat) (h : l.length ≤ most) : numOf l most = numOf l l.length := by
  unfold numOf
  by_cases hb : l.length < 1 ∨ (1 < l.length ∧ l.head? = some 48)
  · rw [if_pos (by rcases hb with h | h <;> simp [h]), if_pos (by rcases hb with h | h <;> simp [h])]
  · rw [if_neg (by rintro (h1 | h1 | h1) <;> simp_all <;> omega), if_neg (by rintro (h1 | h1 | h1) <;> simp_all)]
theorem areN_none {l : List UInt8} (h : areN l = false) (most : Nat) : numOf l most = none := by
  by_cases hl : l.length ≤ most
  · rw [numOf_areN l most hl]
    unfold areN at h
    simpa using h
  · unfold numOf
    rw [if_pos (by omega)]
theorem areN_some {l : List UInt8} (h : areN l = true) : ∃ n, undec 0 l = some n ∧ ∀ most, l.length ≤ most → numOf l most = some n := by
  unfold areN at h
  obtain ⟨n, hn⟩ := Option.isSome_iff_exists.1 h
  have h2 := hn
  unfold numOf at h2
  split at h2
  · cases h2
  · exact ⟨n, h2, fun most hm => by rw [numOf_areN l most hm]; exact hn⟩

end Go.Proofs.YteefjbdejcpepabGreatDoor
namespace Go.Proofs.YteefjbdejcpepabGreatDoor
open Go.RowKit

def readRes (v : Value) : Option (Nat × Nat) → Value
  | some x => .tuple #[idV x.1 x.2, .nilIface]
  | none => .tuple #[idV 0 0, v]
theorem readRes_none (v : Value) : readRes v none = .tuple #[idV 0 0, v] := rfl
theorem idRead_short (s : ByteArray) (h : s.size ≤ 8) : idRead s.data.toList = none := by
  unfold idRead
  rw [if_pos (Or.inl (by rw [len_toList]; exact h))]
theorem idRead_dash (s : ByteArray) (h : 8 < s.size) (h8 : s[8].toNat ≠ 45) : idRead s.data.toList = none := by
  unfold idRead
  rw [if_pos (Or.inr ?_)]
  rw [List.getElem?_eq_getElem (by rw [len_toList]; exact h)]
  intro e
  have e2 : s[8] = 45 := Option.some.inj e
  rw [e2] at h8
  exact h8 rfl
theorem idRead_parts (s : ByteArray) (h : 8 < s.size) (h8 : s[8].toNat = 45) :
    idRead s.data.toList = (match unhex 0 (s.extract 0 8).data.toList, numOf (s.extract 9 s.size).data.toList 6 with | some n, some l => some (n, l) | _, _ => none) := by
  unfold idRead
  rw [if_neg, Lib.extract_data, Lib.extract_data]
  · have h9 : (s.data.toList.drop 9).take (s.size - 9) = s.data.toList.drop 9 := List.take_of_length_le (by rw [List.length_drop, len_toList]; exact Nat.le_refl _)
    rw [h9, List.drop_zero, Nat.sub_zero]
    cases unhex 0 (List.take 8 s.data.toList) <;> cases numOf (List.drop 9 s.data.toList) 6 <;> rfl
  · rintro (e | e)
    · rw [len_toList] at e; omega
    · apply e
      rw [List.getElem?_eq_getElem (by rw [len_toList]; exact h)]
      have : s.data.toList[8]'(by rw [len_toList]; exact h) = s[8] := rfl
      rw [this, UInt8.toNat_inj.1 (h8.trans (by decide : (45 : Nat) = (45 : UInt8).toNat))]

theorem errText_cell {v : Value} {w : World} (hv : w.cell? ⟨4, 0, none⟩ = some v) : ∀ o, (w.alloc o).cell? ⟨4, 0, none⟩ = some v := fun o => by
  have hlt : 4 < w.heap.size := by
    rcases Nat.lt_or_ge 4 w.heap.size with h' | h'
    · exact h'
    · simp [World.cell?, Array.getElem?_eq_none h'] at hv
  rw [World.cell?_alloc_lt _ _ ⟨4, 0, none⟩ hlt]; exact hv

end Go.Proofs.YteefjbdejcpepabGreatDoor
namespace Go.Proofs.YteefjbdejcpepabGreatDoor
open Go.RowKit

theorem str_size (L : List UInt8) : (⟨L.toArray⟩ : ByteArray).size = L.length := by simp [ByteArray.size]
theorem str_list (L : List UInt8) : (⟨L.toArray⟩ : ByteArray).data.toList = L := by simp
def refRead (t : List UInt8) : Option (Nat × Nat) :=
  match cutBy 45 t with
  | [p, q] => if p.length = 8 then (match unhex 0 p, numOf q 6 with | some n, some l => some (n, l) | _, _ => none) else none
  | _ => none
theorem undec_no45 (q : List UInt8) : ∀ (n v : Nat), undec n q = some v → (45 : UInt8) ∉ q := by
  induction q with
  | nil => intro n v _; simp
  | cons c q ih =>
    intro n v h hm
    simp only [undec] at h
    rcases List.mem_cons.1 hm with e | e
    · subst e
      have : undec1 45 = none := by decide
      rw [this] at h
      cases h
    · cases hd : undec1 c with
      | none => rw [hd] at h; cases h
      | some d => rw [hd] at h; exact ih _ _ h e
theorem unhex_no45 (q : List UInt8) : ∀ (n v : Nat), unhex n q = some v → (45 : UInt8) ∉ q := by
  induction q with
  | nil => intro n v _; simp
  | cons c q ih =>
    intro n v h hm
    simp only [unhex] at h
    rcases List.mem_cons.1 hm with e | e
    · subst e
      have : unhex1 45 = none := by decide
      rw [this] at h
      cases h
    · cases hd : unhex1 c with
      | none => rw [hd] at h; cases h
      | some d => rw [hd] at h; exact ih _ _ h e
theorem numOf_no45 (q : List UInt8) (k v : Nat) (h : numOf q k = some v) : (45 : UInt8) ∉ q := by
  unfold numOf at h
  split at h
  · cases h
  · exact undec_no45 q 0 v h
theorem first_of (c : UInt8) (t : List UInt8) (h : c ∈ t) : ∃ a b, t = a ++ c :: b ∧ c ∉ a := by
  induction t with
  | nil => simp at h
  | cons x t ih =>
    by_cases hx : c = x
    · subst hx
      exact ⟨[], t, rfl, by simp⟩
    · rcases List.mem_cons.1 h with e | e
      · exact absurd e hx
      · obtain ⟨a, b, rfl, ha⟩ := ih e
        exact ⟨x :: a, b, rfl, by simp [hx, ha]⟩
theorem cutBy_pos (c : UInt8) (t : List UInt8) : 1 ≤ (cutBy c t).length := by
  cases t with
  | nil => simp [cutBy]
  | cons x t =>
    rw [cutBy]
    split
    · simp
    · split <;> simp
/- Where a text has no such byte it is one piece; where it has one, its pieces are those of what is ahead and behind. -/
theorem cutBy_two (t p q : List UInt8) (h : cutBy 45 t = [p, q]) : t = p ++ 45 :: q := by
  by_cases hm : (45 : UInt8) ∈ t
  · obtain ⟨a, b, rfl, ha⟩ := first_of (45 : UInt8) t hm
    rw [cutBy_split _ _ _ ha] at h
    simp only [List.cons.injEq] at h
    obtain ⟨rfl, h2⟩ := h
    by_cases hb : (45 : UInt8) ∈ b
    · obtain ⟨c, d, rfl, hc⟩ := first_of (45 : UInt8) b hb
      rw [cutBy_split _ _ _ hc] at h2
      have := congrArg List.length h2
      have h3 := cutBy_pos 45 d
      simp only [List.length_cons, List.length_nil] at this
      omega
    · rw [cutBy_noc _ _ hb] at h2
      simp at h2
      rw [h2]
  · rw [cutBy_noc _ _ hm] at h
    simp at h
theorem own_cell {w : World} {base : Nat} {e : TypeId} {v : Value} {n : Nat} {xs : List Value} (h : w.ownsRow base e 1 v n xs) (hn : 1 ≤ n) :
    ∃ g cap, v = .slice (some ⟨g, 0, none⟩) n cap ∧ base ≤ g ∧ g < w.heap.size ∧ ∀ j (hj : j < xs.length), w.cell? ⟨g, j, none⟩ = some xs[j] := by
  obtain ⟨hl, h⟩ := h
  rcases h with ⟨_, h0⟩ | ⟨g, cap, cur, rfl, hg, hb, h1, h2, h3, h4⟩
  · omega
  refine ⟨g, cap, rfl, hg, ?_, fun j hj => ?_⟩
  · rcases Nat.lt_or_ge g w.heap.size with h' | h'
    · exact h'
    · simp [Array.getElem?_eq_none h'] at hb
  · have e1 : cur.toList[j]? = xs[j]? := by
      rw [← h4, List.getElem?_take, if_pos (by omega)]
    simp only [World.cell?, hb]
    rw [← Array.getElem?_toList, e1, List.getElem?_eq_getElem hj]
    simp
theorem refRead_eq (t : List UInt8) : refRead t = idRead t := by
  by_cases hok : 8 < t.length ∧ t[8]? = some 45
  · obtain ⟨h1, h2⟩ := hok
    have hsp : t = t.take 8 ++ 45 :: t.drop 9 := by
      have h3 := List.take_append_drop 8 t
      rw [List.drop_eq_getElem_cons h1] at h3
      rw [List.getElem?_eq_getElem h1] at h2
      rw [Option.some.inj h2] at h3
      exact h3.symm
    have hl8 : (t.take 8).length = 8 := by rw [List.length_take]; omega
    have hid : idRead t = (match unhex 0 (t.take 8), numOf (t.drop 9) 6 with | some n, some l => some (n, l) | _, _ => none) := by
      have hneg : ¬ (t.length ≤ 8 ∨ t[8]? ≠ some 45) := by
        rintro (h | h)
        · omega
        · exact h h2
      unfold idRead
      rw [if_neg hneg]
      cases unhex 0 (t.take 8) <;> cases numOf (t.drop 9) 6 <;> rfl
    rw [hid]
    by_cases hA : (45 : UInt8) ∈ t.take 8
    · have hu : unhex 0 (t.take 8) = none := by
        cases hh : unhex 0 (t.take 8) with
        | none => rfl
        | some v => exact absurd hA (unhex_no45 _ _ _ hh)
      rw [hu]
      unfold refRead
      split
      · rename_i p q hpq
        have e := cutBy_two t p q hpq
        split
        · rename_i hp
          have : t.take 8 = p := by rw [e, List.take_append_of_le_length (by omega), List.take_of_length_le (by omega)]
          rw [← this, hu]
        · rfl
      · rfl
    · by_cases hB : (45 : UInt8) ∈ t.drop 9
      · have hu : numOf (t.drop 9) 6 = none := by
          cases hh : numOf (t.drop 9) 6 with
          | none => rfl
          | some v => exact absurd hB (numOf_no45 _ _ _ hh)
        rw [hu]
        have hc : cutBy 45 t = t.take 8 :: cutBy 45 (t.drop 9) := by
          conv => lhs; rw [hsp]
          exact cutBy_split _ _ _ hA
        unfold refRead
        rw [hc]
        obtain ⟨a, b, e, ha⟩ := first_of (45 : UInt8) _ hB
        rw [e, cutBy_split _ _ _ ha]
        have hp := cutBy_pos 45 b
        cases hcb : cutBy 45 b with
        | nil => rw [hcb] at hp; simp at hp
        | cons x r => cases unhex 0 (t.take 8) <;> rfl
      · have hc : cutBy 45 t = [t.take 8, t.drop 9] := by
          conv => lhs; rw [hsp]
          rw [cutBy_split _ _ _ hA, cutBy_noc _ _ hB]
        unfold refRead
        rw [hc]
        simp only [hl8, if_true]
  · have hid : idRead t = none := by
      unfold idRead
      rw [if_pos]
      by_cases h1 : t.length ≤ 8
      · exact Or.inl h1
      · exact Or.inr (fun h2 => hok ⟨by omega, h2⟩)
    rw [hid]
    unfold refRead
    split
    · rename_i p q hpq
      have e := cutBy_two t p q hpq
      split
      · rename_i hp
        exfalso
        apply hok
        rw [e]
        refine ⟨by simp; omega, ?_⟩
        rw [List.getElem?_append_right (by omega), hp]
        rfl
      · rfl
    · rfl

/- A result's block of two cells, behind a call that leaves it. -/
theorem res_keep {w w1 : World} {c0 c1 : Value} {t : TypeId} (hb : Below (w.alloc (.cells #[c0, c1] t)).heap.size (w.alloc (.cells #[c0, c1] t)) w1) :
    Below w.heap.size w w1 ∧ w.heap.size < w1.heap.size ∧ w1.cell? ⟨w.heap.size, 0, none⟩ = some c0 ∧ w1.cell? ⟨w.heap.size, 1, none⟩ = some c1 ∧ w1.frozen? ⟨w.heap.size, 0, none⟩ = false ∧ w1.frozen? ⟨w.heap.size, 1, none⟩ = false := by
  have hs := hb.size
  refine ⟨((Below.refl _ _).alloc (Nat.le_refl _) _).trans (hb.mono (by simp)), by simp at hs; omega, ?_, ?_, ?_, ?_⟩
  · rw [hb.cell (p := ⟨w.heap.size, 0, none⟩) (by simp)]; simp
  · rw [hb.cell (p := ⟨w.heap.size, 1, none⟩) (by simp)]; simp
  · rw [hb.frozen (p := ⟨w.heap.size, 0, none⟩) (by simp)]; simp
  · rw [hb.frozen (p := ⟨w.heap.size, 1, none⟩) (by simp)]; simp
def refRes : Option (Nat × Nat) → Value
  | some x => .tuple #[idV x.1 x.2, .int .i64 0]
  | none => .tuple #[idV 0 0, .int .i64 1]
theorem refRes_none : refRes none = .tuple #[idV 0 0, .int .i64 1] := rfl
theorem refRead_long (t : List UInt8) (h : (cutBy 45 t).length ≠ 2) : refRead t = none := by
  unfold refRead
  split
  · rename_i p q e; rw [e] at h; exact absurd rfl h
  · rfl

end Go.Proofs.YteefjbdejcpepabGreatDoor
