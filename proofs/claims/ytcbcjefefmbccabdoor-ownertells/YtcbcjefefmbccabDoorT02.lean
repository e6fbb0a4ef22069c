/-
  Own text. From what a row lists of the sentinels and of errors' handle ('laid') to what the walks ask of the world ('ErrW').
  Own text. Plain mathematics of prints: the sum by bytes, its parts, that one other byte makes another sum; hex digits and decimal digits, written and read. No program in it.
  Own text. Whose it is: nodes, errors of nodes, scores, the best of rising nodes; pure.
  Own text. The document's SameTexts and SameInts of two slices that hold the same, by contracts: true; no old memory turns.
-/
import Derived.Test.YtcbcjefefmbccabDoorRows
import Derived.Test.YtcbcjefefmbccabDoorT01
import Derived.LaidLaws
import Derived.LaidHandle
import Derived.LaidSub
import Derived.Stop.LaidErr
import Derived.Stop.Joined
import Derived.Lib.ItoaNum
import Derived.Test.YtcbcjefefmbccabDoorChecked
import Derived.Deep.QuietTactic
import Derived.BigQuiet
import Derived.WalkKit
namespace Go.Proofs.YtcbcjefefmbccabDoor
open Go.RowKit Go.ChangeShapes

/- A listed sentinel. -/
abbrev sentD (x : String × Nat × List UInt8) : String × DataW Unit := (x.1, .iface "*errors.errorString" (.ptr (.agg [.lit (.string x.2.2)])))

/- However many listed sentinels of one type: each variable holds a pointer, its row bears the frozen range (0, 0), no two are one. -/
theorem sents_of_laid {P : Program} {W : World} {ti tp te ts : TypeId} {ms : Array (String × TypeId)} {f : Field}
    (hi : P.underlying ti = some (.interface ms)) (hrow : ∀ u, P.typeName? 3 u = some "*errors.errorString" → u = tp)
    (hp : P.underlying tp = some (.pointer te)) (he : P.underlying te = some (.struct #[f])) (hft : f.type = ts) (hfo : f.offset = 0) (hs : P.underlying ts = some .string) (hc : P.cellsOf te = 1) (hcs : P.cellsOf ts = 1) :
    ∀ (l : List (String × Nat × List UInt8)) (ps : List MemPlace), (∀ x ∈ l, P.globalNamed x.1 = some x.2.1 ∧ (P.globals[x.2.1]?).map (·.type) = some ti) →
      DataW.LaidVars P W (l.map sentD) ps → ps.Nodup →
      (∀ b off, MemPlace.cell b off ∈ ps → (∃ c t, W.heap[b]? = some (.cells c t (0, 0))) ∧ ∀ u v, W.cell? ⟨b, off, none⟩ = some (.iface u v) → Value.okWide P W .any 0 u v) →
      ∃ a : Nat → Addr, (∀ i (h : i < l.length), W.cell? ⟨l[i].2.1, 0, none⟩ = some (.iface tp (.pointer (some (a i)))) ∧ MemPlace.cell (a i).block (a i).off ∈ ps ∧ ∃ c t, W.heap[(a i).block]? = some (.cells c t (0, 0))) ∧
        ∀ i j, i < l.length → j < l.length → a i = a j → i = j
  | [], _, _, _, _, _ => ⟨fun _ => ⟨0, 0, none⟩, fun i h => absurd h (by simp), fun i j h => absurd h (by simp)⟩
  | x :: l, ps, hall, hv, hnd, hrows => by
    obtain ⟨g0, t0, cs0, f0, p0, q0, hg0, ht0, hv0, hd0, hq, rfl⟩ := hv
    obtain ⟨hgx, htx⟩ := hall x (List.mem_cons_self ..)
    obtain rfl := Option.some.inj (hgx.symm.trans hg0)
    obtain rfl := Option.some.inj (htx.symm.trans ht0)
    obtain ⟨l0⟩ := cs0
    have ok0 : ∀ u v, l0 = [.iface u v] → Value.okWide P W .any 0 u v := fun u v e => by
      subst e
      exact (hrows x.2.1 0 (by simp [MemPlace.row])).2 u v (by simpa using World.var?_cell hg0 hv0 0)
    obtain ⟨a0, s0, rfl, hc0, hs0, hz0, rfl⟩ := errorString_of_trod hi hrow hp he hft hfo hs hc hcs hd0 ok0
    have hmem0 : MemPlace.cell a0.block a0.off ∈ MemPlace.row a0 1 := by simp [MemPlace.row]
    obtain ⟨hnd1, hnd2, hdis⟩ := List.nodup_append.1 hnd
    obtain ⟨a, ha, hne⟩ := sents_of_laid hi hrow hp he hft hfo hs hc hcs l q0 (fun y hy => hall y (List.mem_cons_of_mem _ hy)) hq hnd2 (fun b off hm => hrows b off (List.mem_append_right _ hm))
    refine ⟨fun i => match i with | 0 => a0 | i + 1 => a i, ?_, ?_⟩
    · intro i h
      cases i with
      | zero => exact ⟨by simpa using World.var?_cell hg0 hv0 0, List.mem_append_left _ (List.mem_append_right _ hmem0), (hrows a0.block a0.off (List.mem_append_left _ (List.mem_append_right _ hmem0))).1⟩
      | succ i =>
        obtain ⟨h1, h2, h3⟩ := ha i (by simpa using h)
        exact ⟨h1, List.mem_append_right _ h2, h3⟩
    · intro i j hi' hj' e
      cases i with
      | zero =>
        cases j with
        | zero => rfl
        | succ j =>
          exfalso
          simp only at e
          have h2 := (ha j (by simpa using hj')).2.1
          rw [← e] at h2
          exact hdis _ (List.mem_append_right _ hmem0) _ h2 rfl
      | succ i =>
        cases j with
        | zero =>
          exfalso
          simp only at e
          have h2 := (ha i (by simpa using hi')).2.1
          rw [e] at h2
          exact hdis _ (List.mem_append_right _ hmem0) _ h2 rfl
        | succ j => rw [hne i j (by simpa using hi') (by simpa using hj') e]

def errSents : List (String × Nat × List UInt8) := [("cornbin/api.ErrText", 5, [99, 111, 114, 110, 98, 105, 110, 58, 32, 116, 101, 120, 116]), ("cornbin/api.ErrBound", 1, [99, 111, 114, 110, 98, 105, 110, 58, 32, 98, 111, 117, 110, 100]),
  ("cornbin/api.ErrShape", 3, [99, 111, 114, 110, 98, 105, 110, 58, 32, 115, 104, 97, 112, 101]), ("cornbin/api.ErrName", 6, [99, 111, 114, 110, 98, 105, 110, 58, 32, 110, 97, 109, 101]),
  ("cornbin/api.ErrNone", 0, [99, 111, 114, 110, 98, 105, 110, 58, 32, 110, 111, 110, 101]), ("cornbin/api.ErrExist", 4, [99, 111, 114, 110, 98, 105, 110, 58, 32, 101, 120, 105, 115, 116]),
  ("cornbin/api.ErrFull", 7, [99, 111, 114, 110, 98, 105, 110, 58, 32, 102, 117, 108, 108]), ("cornbin/api.ErrOrder", 2, [99, 111, 114, 110, 98, 105, 110, 58, 32, 111, 114, 100, 101, 114]),
  ("cornbin/api.ErrSum", 8, [99, 111, 114, 110, 98, 105, 110, 58, 32, 115, 117, 109]), ("cornbin/api.ErrClash", 9, [99, 111, 114, 110, 98, 105, 110, 58, 32, 99, 108, 97, 115, 104]),
  ("cornbin/api.ErrUsed", 10, [99, 111, 114, 110, 98, 105, 110, 58, 32, 117, 115, 101, 100]), ("cornbin/api.ErrOff", 11, [99, 111, 114, 110, 98, 105, 110, 58, 32, 111, 102, 102])]
def errLaid : List (String × DataW Unit) := ("errors.errorType", .iface "internal/reflectlite.rtype" (.agg [.ptr (.lit (.string [101, 114, 114, 111, 114]))])) :: errSents.map sentD

theorem lEt : Tryd.prog.globalNamed "errors.errorType" = some 12 := by kernel_rfl
theorem lRt : (Tryd.prog.cutTypes.find? (·.1 == "internal/reflectlite.rtype")).map (·.2) = some 94 := by kernel_rfl
theorem lOneRow : ((List.range 155).filter fun t => Tryd.prog.rowNamed t [101, 114, 114, 111, 114]) = [ 28 ] := by kernel_rfl
theorem lSize : Tryd.prog.types.size = 155 := by kernel_rfl
theorem lRowE : ∀ u, Tryd.prog.typeName? 3 u = some "*errors.errorString" → u = 122 := typeName_ptr_named (nm := "errors.errorString") (by kernel_rfl) (by kernel_rfl) (by decide)
theorem lCellsE : Tryd.prog.cellsOf 143 = 1 := by kernel_rfl
theorem lCellsS : Tryd.prog.cellsOf 9 = 1 := by kernel_rfl
theorem lAll : (errSents.all fun x => Tryd.prog.globalNamed x.1 == some x.2.1 && (Tryd.prog.globals[x.2.1]?).map (·.type) == some 28) = true := by kernel_rfl

theorem errW_of_laid {W : World} (h : laidMetH Tryd.prog errLaid W) : ∃ a, ErrW W a := by
  have h' : laidMet Tryd.prog (errSents.map sentD) W ∧ handlesMet Tryd.prog [("errors.errorType", .iface "internal/reflectlite.rtype" (.agg [.ptr (.lit (.string [101, 114, 114, 111, 114]))]))] W := h
  obtain ⟨⟨ps, hv, hnd, hrows⟩, hh⟩ := h'
  obtain ⟨a, ha, hne⟩ := sents_of_laid (P := Tryd.prog) Tryd.underlying28 lRowE Tryd.underlying122 Tryd.underlying143 rfl rfl Tryd.underlying9 lCellsE lCellsS errSents ps
    (fun x hx => by have := List.all_eq_true.1 lAll x hx; simpa using this) hv hnd hrows
  refine ⟨a, ⟨?_, fun i hi => (ha i hi).2.2, hne, ?_⟩⟩
  · intro i hi
    have : i = 0 ∨ i = 1 ∨ i = 2 ∨ i = 3 ∨ i = 4 ∨ i = 5 ∨ i = 6 ∨ i = 7 ∨ i = 8 ∨ i = 9 ∨ i = 10 ∨ i = 11 := by omega
    rcases this with rfl | rfl | rfl | rfl | rfl | rfl | rfl | rfl | rfl | rfl | rfl | rfl <;> exact (ha _ hi).1
  · obtain ⟨name, u, ty, e1, e2, e3, e4, e5⟩ := hh _ (List.mem_singleton.2 rfl)
    have en : name = [101, 114, 114, 111, 114] := (Option.some.inj e1).symm
    subst en
    obtain rfl := Option.some.inj (lRt.symm.trans e2)
    have hm : ty ∈ (List.range 155).filter fun t => Tryd.prog.rowNamed t [101, 114, 114, 111, 114] := List.mem_filter.2 ⟨List.mem_range.2 (by rw [← lSize]; exact e3), e4⟩
    rw [lOneRow] at hm
    obtain rfl := List.mem_singleton.1 hm
    have hth : typeHandle Tryd.prog 28 = .pointer (some ⟨16, 28, none⟩) := by kernel_rfl
    rw [hth] at e5
    simpa using World.var?_cell lEt e5 0
end Go.Proofs.YtcbcjefefmbccabDoor
namespace Go.Proofs.YtcbcjefefmbccabDoor

/- One byte more. -/
def pstep (n : Nat) (c : UInt8) : Nat := ((n ^^^ c.toNat) * 16777619) % 4294967296
def pmore (n : Nat) (l : List UInt8) : Nat := l.foldl pstep n

theorem pstep_lt (n : Nat) (c : UInt8) : pstep n c < 4294967296 := Nat.mod_lt _ (by decide)
theorem pmore_lt (n : Nat) (hn : n < 4294967296) (l : List UInt8) : pmore n l < 4294967296 := by
  unfold pmore
  induction l generalizing n with
  | nil => exact hn
  | cons c l ih => rw [List.foldl_cons]; exact ih _ (pstep_lt n c)
theorem pmore_append (n : Nat) (a b : List UInt8) : pmore n (a ++ b) = pmore (pmore n a) b := List.foldl_append
theorem pmore_cons (n : Nat) (c : UInt8) (l : List UInt8) : pmore n (c :: l) = pmore (pstep n c) l := by simp only [pmore, List.foldl_cons]
theorem pmore_nil (n : Nat) : pmore n [] = n := rfl
theorem pmore_snoc (n : Nat) (l : List UInt8) (c : UInt8) : pmore n (l ++ [c]) = pstep (pmore n l) c := (pmore_append n l [c]).trans ((pmore_cons (pmore n l) c []).trans (pmore_nil _))

theorem mul_inj_of (M m v a b : Nat) (hv : m * v % M = 1) (ha : a < M) (hb : b < M) (h : a * m % M = b * m % M) : a = b := by
  have h1 : a * m * v % M = b * m * v % M := by rw [Nat.mul_mod, h, ← Nat.mul_mod]
  rw [Nat.mul_assoc, Nat.mul_assoc, Nat.mul_mod a, Nat.mul_mod b, hv] at h1
  simpa [Nat.mod_eq_of_lt ha, Nat.mod_eq_of_lt hb] using h1
theorem inv_ok : 16777619 * 899433627 % 4294967296 = 1 := by decide
theorem mul_inj {a b : Nat} (ha : a < 4294967296) (hb : b < 4294967296) (h : a * 16777619 % 4294967296 = b * 16777619 % 4294967296) : a = b :=
  mul_inj_of 4294967296 16777619 899433627 a b inv_ok ha hb h
theorem two32 : (2 : Nat) ^ 32 = 4294967296 := by decide
theorem xor_lt32 {a b : Nat} (ha : a < 4294967296) (hb : b < 4294967296) : a ^^^ b < 4294967296 := by
  rw [← two32] at *
  exact Nat.xor_lt_two_pow ha hb
theorem byte_lt32 (c : UInt8) : c.toNat < 4294967296 := by have := c.toNat_lt; omega
theorem pstep_inj_n {n m : Nat} {c : UInt8} (hn : n < 4294967296) (hm : m < 4294967296) (h : pstep n c = pstep m c) : n = m := by
  have := mul_inj (xor_lt32 hn (byte_lt32 c)) (xor_lt32 hm (byte_lt32 c)) h
  have h2 : (n ^^^ c.toNat) ^^^ c.toNat = (m ^^^ c.toNat) ^^^ c.toNat := by rw [this]
  simpa [Nat.xor_assoc] using h2
theorem pstep_inj_c {n : Nat} {c d : UInt8} (hn : n < 4294967296) (h : pstep n c = pstep n d) : c = d := by
  have := mul_inj (xor_lt32 hn (byte_lt32 c)) (xor_lt32 hn (byte_lt32 d)) h
  have h2 : n ^^^ (n ^^^ c.toNat) = n ^^^ (n ^^^ d.toNat) := by rw [this]
  rw [← Nat.xor_assoc, ← Nat.xor_assoc] at h2
  simp at h2
  exact UInt8.toNat_inj.1 h2
theorem pmore_inj_n {n m : Nat} (hn : n < 4294967296) (hm : m < 4294967296) (l : List UInt8) (h : pmore n l = pmore m l) : n = m := by
  induction l generalizing n m with
  | nil => exact h
  | cons c l ih => rw [pmore_cons, pmore_cons] at h; exact pstep_inj_n hn hm (ih (pstep_lt n c) (pstep_lt m c) h)
/- With one byte another one it is another sum. -/
theorem pmore_ne (n : Nat) (hn : n < 4294967296) (p q : List UInt8) (c d : UInt8) (h : c ≠ d) : pmore n (p ++ c :: q) ≠ pmore n (p ++ d :: q) := by
  intro e
  rw [pmore_append, pmore_append, pmore_cons, pmore_cons] at e
  exact h (pstep_inj_c (pmore_lt n hn p) (pmore_inj_n (pstep_lt _ _) (pstep_lt _ _) q e))

/- Hex digits. -/
def hexDig (d : Nat) : UInt8 := if d < 10 then UInt8.ofNat (48 + d) else UInt8.ofNat (87 + d)
/- The k last hex digits of n. -/
def hexLast : Nat → Nat → List UInt8
  | _, 0 => []
  | n, k + 1 => hexLast (n / 16) k ++ [hexDig (n % 16)]
theorem hexLast_length (n k : Nat) : (hexLast n k).length = k := by
  induction k generalizing n with
  | zero => rfl
  | succ k ih => simp [hexLast, ih]
/- The value of one hex digit, none where it is none. -/
def unhex1 (c : UInt8) : Option Nat :=
  if 48 ≤ c.toNat ∧ c.toNat ≤ 57 then some (c.toNat - 48) else if 97 ≤ c.toNat ∧ c.toNat ≤ 102 then some (c.toNat - 87) else none
def unhex : Nat → List UInt8 → Option Nat
  | n, [] => some n
  | n, c :: l => match unhex1 c with | some d => unhex (16 * n + d) l | none => none
theorem unhex1_hexDig : ∀ d : Fin 16, unhex1 (hexDig d.val) = some d.val := by decide
theorem unhex_append (n : Nat) (a b : List UInt8) : unhex n (a ++ b) = (unhex n a).bind fun m => unhex m b := by
  induction a generalizing n with
  | nil => rfl
  | cons c a ih =>
    simp only [List.cons_append, unhex]
    cases unhex1 c with
    | none => rfl
    | some d => exact ih _
theorem unhex_hexLast (m n k : Nat) (h : n < 16 ^ k) : unhex m (hexLast n k) = some (m * 16 ^ k + n) := by
  induction k generalizing n with
  | zero => simp at h; subst h; simp [hexLast, unhex]
  | succ k ih =>
    rw [hexLast, unhex_append, ih (n / 16) (by rw [Nat.pow_succ] at h; omega)]
    simp only [Option.bind_some, unhex]
    have := unhex1_hexDig ⟨n % 16, by omega⟩
    simp only at this
    rw [this]
    simp only [Option.some.injEq, Nat.pow_succ]
    rw [← Nat.mul_assoc]
    omega
theorem unhex_lt (l : List UInt8) : ∀ (n v : Nat), unhex n l = some v → v < (n + 1) * 16 ^ l.length := by
  induction l with
  | nil => intro n v h; simp [unhex] at h; subst h; simp
  | cons c l ih =>
    intro n v h
    simp only [unhex] at h
    cases hd : unhex1 c with
    | none => rw [hd] at h; cases h
    | some d =>
      rw [hd] at h
      have h1 := ih _ _ h
      have hd16 : d < 16 := by
        unfold unhex1 at hd
        split at hd
        · cases hd; omega
        · split at hd
          · cases hd; omega
          · cases hd
      refine Nat.lt_of_lt_of_le h1 ?_
      rw [List.length_cons, Nat.pow_succ, Nat.mul_comm (16 ^ l.length) 16, ← Nat.mul_assoc]
      exact Nat.mul_le_mul_right _ (by omega)

/- Decimal digits. -/
def undec1 (c : UInt8) : Option Nat := if 48 ≤ c.toNat ∧ c.toNat ≤ 57 then some (c.toNat - 48) else none
def undec : Nat → List UInt8 → Option Nat
  | n, [] => some n
  | n, c :: l => match undec1 c with | some d => undec (10 * n + d) l | none => none
/- What a number's text reads as: at most 'most' digits, no needless zero. -/
def numOf (l : List UInt8) (most : Nat) : Option Nat :=
  if l.length < 1 ∨ most < l.length ∨ (1 < l.length ∧ l.head? = some 48) then none else undec 0 l
theorem undec_append (n : Nat) (a b : List UInt8) : undec n (a ++ b) = (undec n a).bind fun m => undec m b := by
  induction a generalizing n with
  | nil => rfl
  | cons c a ih =>
    simp only [List.cons_append, undec]
    cases undec1 c with
    | none => rfl
    | some d => exact ih _
theorem undec1_dig : ∀ d : Fin 10, undec1 (UInt8.ofNat (48 + d.val)) = some d.val := by decide
theorem undec_decDigits (u : Nat) : undec 0 (Lib.decDigits u) = some u := by
  induction u using Nat.strongRecOn with
  | _ u ih =>
    by_cases h : u < 10
    · rw [Lib.decDigits, dif_pos h]
      have := undec1_dig ⟨u, h⟩
      simp only at this
      simp only [undec, this]
      simp
    · rw [Lib.decDigits, dif_neg h, undec_append, ih (u / 10) (by omega)]
      have := undec1_dig ⟨u % 10, by omega⟩
      simp only at this
      simp only [Option.bind_some, undec, this, Option.some.injEq]
      omega
theorem decDigits_head (u : Nat) (h : 10 ≤ u) : (Lib.decDigits u).head? ≠ some 48 := by
  induction u using Nat.strongRecOn with
  | _ u ih =>
    rw [Lib.decDigits, dif_neg (by omega)]
    by_cases h2 : u / 10 < 10
    · rw [Lib.decDigits, dif_pos h2]
      have : ∀ d : Fin 10, d.val ≠ 0 → UInt8.ofNat (48 + d.val) ≠ 48 := by decide
      have := this ⟨u / 10, h2⟩ (by simp; omega)
      simpa using this
    · have h3 := ih (u / 10) (by omega) (by omega)
      cases hl : Lib.decDigits (u / 10) with
      | nil => simp [← List.length_eq_zero_iff, Lib.decDigits_length] at hl; have := Lib.nDigits_pos (u / 10); omega
      | cons c l => rw [hl] at h3; simpa using h3
theorem decDigits_len_le (u k : Nat) (hk : 1 ≤ k) (h : u < 10 ^ k) : (Lib.decDigits u).length ≤ k := by
  rw [Lib.decDigits_length]
  induction k generalizing u with
  | zero => omega
  | succ k ih =>
    by_cases h2 : u < 10
    · rw [Lib.nDigits_small h2]; omega
    · rw [Lib.nDigits_big h2]
      have : 1 ≤ k := by
        rcases Nat.eq_zero_or_pos k with h0 | h0
        · subst h0; simp at h; omega
        · exact h0
      have := ih (u / 10) this (by rw [Nat.pow_succ] at h; omega)
      omega
theorem numOf_decDigits (u k : Nat) (hk : 1 ≤ k) (h : u < 10 ^ k) : numOf (Lib.decDigits u) k = some u := by
  have h1 := decDigits_len_le u k hk h
  have h2 : 1 ≤ (Lib.decDigits u).length := by rw [Lib.decDigits_length]; exact Lib.nDigits_pos u
  unfold numOf
  rw [if_neg, undec_decDigits]
  rintro (h3 | h3 | ⟨h3, h4⟩)
  · omega
  · omega
  · refine decDigits_head u ?_ h4
    rcases Nat.lt_or_ge u 10 with h5 | h5
    · rw [Lib.decDigits_length, Lib.nDigits_small h5] at h3; omega
    · exact h5
theorem undec_lt (l : List UInt8) : ∀ (n v : Nat), undec n l = some v → v < (n + 1) * 10 ^ l.length := by
  induction l with
  | nil => intro n v h; simp [undec] at h; subst h; simp
  | cons c l ih =>
    intro n v h
    simp only [undec] at h
    cases hd : undec1 c with
    | none => rw [hd] at h; cases h
    | some d =>
      rw [hd] at h
      have h1 := ih _ _ h
      have hd10 : d < 10 := by
        unfold undec1 at hd
        split at hd
        · cases hd; omega
        · cases hd
      refine Nat.lt_of_lt_of_le h1 ?_
      rw [List.length_cons, Nat.pow_succ, Nat.mul_comm (10 ^ l.length) 10, ← Nat.mul_assoc]
      exact Nat.mul_le_mul_right _ (by omega)

/- Texts of IDs. -/
def idText (n l : Nat) : List UInt8 := hexLast n 8 ++ 45 :: Lib.decDigits l
/- An ID out of a text. -/
def idRead (t : List UInt8) : Option (Nat × Nat) :=
  if t.length ≤ 8 ∨ t[8]? ≠ some 45 then none else
    match unhex 0 (t.take 8), numOf (t.drop 9) 6 with
    | some n, some l => some (n, l)
    | _, _ => none
theorem idRead_idText (n l : Nat) (hn : n < 4294967296) (hl : l < 1000000) : idRead (idText n l) = some (n, l) := by
  have h8 := hexLast_length n 8
  unfold idRead idText
  rw [if_neg]
  · have h1 : (hexLast n 8 ++ 45 :: Lib.decDigits l).take 8 = hexLast n 8 := by rw [List.take_append_of_le_length (by omega), List.take_of_length_le (by omega)]
    have h2 : (hexLast n 8 ++ 45 :: Lib.decDigits l).drop 9 = Lib.decDigits l := by
      rw [List.drop_append, h8]; simp [h8]
    rw [h1, h2, unhex_hexLast 0 n 8 (by omega), numOf_decDigits l 6 (by decide) (by omega)]
    simp
  · rintro (h | h)
    · simp [h8] at h
      omega
    · apply h
      rw [List.getElem?_append_right (by omega), h8]; rfl

/- IDs: of a text; by print, then by length. -/
def idOfL (p : List UInt8) : Nat × Int := (pmore 2166136261 p, (p.length : Int))
def lessB (a b : Nat × Int) : Bool := if (a.1 : Int) = (b.1 : Int) then decide (a.2 < b.2) else decide ((a.1 : Int) < (b.1 : Int))
theorem lessB_iff (a b : Nat × Int) : lessB a b = true ↔ a.1 < b.1 ∨ (a.1 = b.1 ∧ a.2 < b.2) := by
  unfold lessB
  split
  · rename_i h
    simp only [decide_eq_true_eq]
    omega
  · rename_i h
    simp only [decide_eq_true_eq]
    omega
end Go.Proofs.YtcbcjefefmbccabDoor
namespace Go.Proofs.YtcbcjefefmbccabDoor

def nodeOk (n : Int) : Bool := decide (1 ≤ n ∧ n ≤ 6)
/- The number of the error of the node at place k (0: none). -/
def nodeErr (l : List Int) (k : Nat) : Int := match l[k]? with
  | none => 0
  | some x => if nodeOk x = false then 2 else if 0 < k ∧ x ≤ (l[k - 1]?).getD 0 then 8 else 0
/- The first place from k on at which err is not 0. -/
def fstErr (err : Nat → Int) : Nat → Nat → Option Nat
  | _, 0 => none
  | k, n + 1 => if err k ≠ 0 then some k else fstErr err (k + 1) n
def ansAt (err : Nat → Int) : Option Nat → Int × Int | none => (0, -1) | some k => (err k, k)
def fstAns (err : Nat → Int) (many : Nat) : Int × Int := ansAt err (fstErr err 0 many)
def nodesAns (l : List Int) : Int × Int := fstAns (nodeErr l) l.length
def checkAns' (l : List Int) : Int × Int := if l.length = 0 then (5, -1) else nodesAns l
theorem fstErr_none {err : Nat → Int} : ∀ {n k : Nat}, fstErr err k n = none → ∀ j, k ≤ j → j < k + n → err j = 0
  | 0, _, _, _, _, _ => by omega
  | n + 1, k, h, j, h1, h2 => by
    rw [fstErr] at h
    split at h
    · cases h
    · rename_i hk
      by_cases e : j = k
      · subst e; exact Classical.not_not.1 hk
      · exact fstErr_none h j (by omega) (by omega)
theorem fstErr_none' {err : Nat → Int} : ∀ {n k : Nat}, (∀ j, k ≤ j → j < k + n → err j = 0) → fstErr err k n = none
  | 0, _, _ => rfl
  | n + 1, k, h => by
    rw [fstErr, if_neg (by rw [h k (by omega) (by omega)]; simp)]
    exact fstErr_none' fun j h1 h2 => h j (by omega) (by omega)
theorem fstErr_some {err : Nat → Int} : ∀ {n k : Nat} {j : Nat}, fstErr err k n = some j → err j ≠ 0
  | 0, _, _, h => by cases h
  | n + 1, k, j, h => by
    rw [fstErr] at h
    split at h
    · rename_i hk
      obtain rfl := Option.some.inj h
      exact hk
    · exact fstErr_some h
theorem nodeErr_cases (l : List Int) (k : Nat) : nodeErr l k = 0 ∨ nodeErr l k = 2 ∨ nodeErr l k = 8 := by
  unfold nodeErr
  split
  · exact .inl rfl
  · split
    · exact .inr (.inl rfl)
    · split
      · exact .inr (.inr rfl)
      · exact .inl rfl
theorem nodesAns_code (l : List Int) : (nodesAns l = (0, -1) ∧ fstErr (nodeErr l) 0 l.length = none) ∨ (∃ k, fstErr (nodeErr l) 0 l.length = some k ∧ nodesAns l = (nodeErr l k, (k : Int)) ∧ (nodeErr l k = 2 ∨ nodeErr l k = 8)) := by
  unfold nodesAns fstAns
  cases h : fstErr (nodeErr l) 0 l.length with
  | none => exact .inl ⟨rfl, rfl⟩
  | some k => exact .inr ⟨k, rfl, rfl, by have := nodeErr_cases l k; have := fstErr_some h; omega⟩
/- Nodes without a fault: rising, from 1 to 6. -/
def Nodes (l : List Int) : Prop := (∀ x ∈ l, 1 ≤ x ∧ x ≤ 6) ∧ ∀ i j (hi : i < l.length) (hj : j < l.length), i < j → l[i] < l[j]
theorem nodes_of {l : List Int} (h : fstErr (nodeErr l) 0 l.length = none) : Nodes l := by
  have h0 : ∀ k (hk : k < l.length), nodeOk l[k] = true ∧ ∀ (h1 : 0 < k), l[k - 1] < l[k] := fun k hk => by
    have h1 := fstErr_none h k (Nat.zero_le _) (by omega)
    unfold nodeErr at h1
    rw [List.getElem?_eq_getElem hk] at h1
    simp only at h1
    split at h1
    · omega
    · rename_i h2
      refine ⟨by simpa using h2, fun h3 => ?_⟩
      split at h1
      · omega
      · rename_i h4
        rw [List.getElem?_eq_getElem (show k - 1 < l.length by omega)] at h4
        simp only [Option.getD_some] at h4
        omega
  refine ⟨fun x hx => ?_, fun i j hi hj hij => ?_⟩
  · obtain ⟨k, hk, rfl⟩ := List.mem_iff_getElem.1 hx
    have := (h0 k hk).1
    unfold nodeOk at this
    exact of_decide_eq_true this
  · have step : ∀ d (hd : i + 1 + d < l.length), l[i] < l[i + 1 + d] := by
      intro d
      induction d with
      | zero => intro hd; exact (h0 (i + 1) hd).2 (by omega)
      | succ d ih =>
        intro hd
        have h1 := ih (by omega)
        have h2 := (h0 (i + 1 + (d + 1)) hd).2 (by omega)
        have h3 : l[i + 1 + (d + 1) - 1]'(by omega) = l[i + 1 + d]'(by omega) := by congr 1
        omega
    have h1 := step (j - (i + 1)) (by omega)
    have h3 : l[i + 1 + (j - (i + 1))]'(by omega) = l[j] := by congr 1; omega
    omega
theorem nodes_to {l : List Int} (h : Nodes l) : fstErr (nodeErr l) 0 l.length = none := by
  refine fstErr_none' fun k _ hk => ?_
  have hk' : k < l.length := by omega
  unfold nodeErr
  rw [List.getElem?_eq_getElem hk']
  simp only
  rw [if_neg (by have := h.1 l[k] (List.getElem_mem hk'); unfold nodeOk; simp; omega), if_neg]
  rintro ⟨h1, h2⟩
  rw [List.getElem?_eq_getElem (show k - 1 < l.length by omega)] at h2
  simp only [Option.getD_some] at h2
  have := h.2 (k - 1) k (by omega) hk' (by omega)
  omega
theorem Nodes.nil : Nodes [] := ⟨fun x hx => (by cases hx), fun i j hi => (by simp at hi)⟩
theorem checkAns_ok {l : List Int} (h : Nodes l) (hne : l ≠ []) : checkAns' l = (0, -1) := by
  unfold checkAns' nodesAns fstAns
  rw [if_neg (fun e => hne (List.length_eq_zero_iff.1 e)), nodes_to h]
  rfl
theorem checkAns_of {l : List Int} {p : Int} (h : checkAns' l = (0, p)) : Nodes l ∧ l ≠ [] := by
  unfold checkAns' at h
  split at h
  · simp at h
  · rename_i hn
    refine ⟨?_, fun e => hn (by rw [e]; rfl)⟩
    rcases nodesAns_code l with ⟨_, h1⟩ | ⟨k, _, h1, h2⟩
    · exact nodes_of h1
    · rw [h1] at h
      have := congrArg Prod.fst h
      simp only at this
      omega
theorem Nodes.length {l : List Int} (h : Nodes l) : l.length ≤ 6 := by
  have step : ∀ k (hk : k < l.length), (k : Int) + 1 ≤ l[k] := by
    intro k
    induction k with
    | zero => intro hk; have := (h.1 _ (List.getElem_mem hk)).1; omega
    | succ k ih =>
      intro hk
      have h1 := ih (by omega)
      have h2 := h.2 k (k + 1) (by omega) hk (by omega)
      omega
  rcases Nat.lt_or_ge 6 l.length with h1 | h1
  · have h2 := step 6 h1
    have h3 := (h.1 _ (List.getElem_mem h1)).2
    omega
  · exact h1
/- Texts of IDs, of any length; scores. -/
def idTx (p : Nat) (l : Int) : List UInt8 := if l < 0 then [] else idText p l.toNat
def score (i : Nat × Int) (n : Int) : Nat := pmore 2166136261 (idTx i.1 i.2 ++ 64 :: Lib.decDigits n.toNat)
theorem score_lt (i : Nat × Int) (n : Int) : score i n < 4294967296 := pmore_lt _ (by decide) _
/- b is the best of l: no score is greater, and of equals it is the least node. -/
def IsB (sc : Int → Nat) (l : List Int) (b : Int) : Prop := b ∈ l ∧ ∀ y ∈ l, sc y ≤ sc b ∧ (sc y = sc b → b ≤ y)
theorem IsB.uniq {sc : Int → Nat} {l : List Int} {a b : Int} (ha : IsB sc l a) (hb : IsB sc l b) : a = b := by
  have h1 := ha.2 b hb.1
  have h2 := hb.2 a ha.1
  have h3 : sc a = sc b := by omega
  have := h1.2 h3.symm
  have := h2.2 h3
  omega
theorem IsB.sub {sc : Int → Nat} {l m : List Int} {a : Int} (h : IsB sc l a) (ha : a ∈ m) (hs : ∀ x ∈ m, x ∈ l) : IsB sc m a := ⟨ha, fun y hy => h.2 y (hs y hy)⟩
/- Whose it is. -/
def pick1 (sc : Int → Nat) (m x : Int) : Int := if sc m < sc x then x else m
def bestOf (sc : Int → Nat) : List Int → Int
  | [] => 0
  | x :: r => r.foldl (pick1 sc) x
theorem bestOf_snoc (sc : Int → Nat) {l : List Int} (h : l ≠ []) (x : Int) : bestOf sc (l ++ [x]) = pick1 sc (bestOf sc l) x := by
  cases l with
  | nil => exact absurd rfl h
  | cons y r => simp only [List.cons_append, bestOf, List.foldl_append, List.foldl_cons, List.foldl_nil]
theorem bestOf_take (sc : Int → Nat) (l : List Int) (k : Nat) (h1 : 1 ≤ k) (h : k < l.length) : bestOf sc (l.take (k + 1)) = pick1 sc (bestOf sc (l.take k)) l[k] := by
  rw [List.take_succ_eq_append_getElem h]
  exact bestOf_snoc sc (fun e => by have := congrArg List.length e; simp only [List.length_take, List.length_nil] at this; omega) _
theorem bestOf_is (sc : Int → Nat) {l : List Int} (hn : Nodes l) : ∀ k, 1 ≤ k → k ≤ l.length → IsB sc (l.take k) (bestOf sc (l.take k)) := by
  intro k h1
  induction k with
  | zero => omega
  | succ k ih =>
    intro hk
    by_cases h0 : k = 0
    · subst h0
      cases l with
      | nil => simp at hk
      | cons x r =>
        simp only [List.take_succ_cons, List.take_zero, bestOf, List.foldl_nil]
        exact ⟨by simp, fun y hy => by simp at hy; subst hy; exact ⟨Nat.le_refl _, fun _ => Int.le_refl _⟩⟩
    · have hb := ih (by omega) (by omega)
      rw [bestOf_take sc l k (by omega) (by omega)]
      obtain ⟨B, hB⟩ : ∃ B, bestOf sc (l.take k) = B := ⟨_, rfl⟩
      rw [hB] at hb ⊢
      have hlt : ∀ y ∈ l.take k, y < l[k] := fun y hy => by
        obtain ⟨i, hi, rfl⟩ := List.mem_iff_getElem.1 hy
        rw [List.length_take] at hi
        rw [List.getElem_take]
        exact hn.2 i k (by omega) (by omega) (by omega)
      rw [List.take_succ_eq_append_getElem (show k < l.length by omega)]
      unfold pick1
      split
      · rename_i hc
        refine ⟨List.mem_append_right _ (List.mem_singleton.2 rfl), fun y hy => ?_⟩
        rcases List.mem_append.1 hy with hy | hy
        · have := (hb.2 y hy).1
          exact ⟨by omega, fun e => by omega⟩
        · simp at hy
          subst hy
          exact ⟨Nat.le_refl _, fun _ => Int.le_refl _⟩
      · rename_i hc
        refine ⟨List.mem_append_left _ hb.1, fun y hy => ?_⟩
        rcases List.mem_append.1 hy with hy | hy
        · exact hb.2 y hy
        · simp at hy
          subst hy
          have := hlt B hb.1
          exact ⟨by omega, fun _ => by omega⟩
theorem bestOf_isB (sc : Int → Nat) {l : List Int} (hn : Nodes l) (hne : l ≠ []) : IsB sc l (bestOf sc l) := by
  have := bestOf_is sc hn l.length (List.length_pos_iff.2 hne) (Nat.le_refl _)
  rwa [List.take_length] at this
/- From behind: the best of what is from k on. -/
theorem isB_back (sc : Int → Nat) {l : List Int} (hn : Nodes l) {k : Nat} (hk : k < l.length) {b : Int} (hb : IsB sc (l.drop (k + 1)) b) : IsB sc (l.drop k) (if sc b ≤ sc l[k] then l[k] else b) := by
  rw [List.drop_eq_getElem_cons hk]
  have hlt : ∀ y ∈ l.drop (k + 1), l[k] < y := fun y hy => by
    obtain ⟨i, hi, rfl⟩ := List.mem_iff_getElem.1 hy
    rw [List.length_drop] at hi
    rw [List.getElem_drop]
    exact hn.2 k (k + 1 + i) hk (by omega) (by omega)
  split
  · refine ⟨List.mem_cons_self .., fun y hy => ?_⟩
    rcases List.mem_cons.1 hy with rfl | hy
    · exact ⟨Nat.le_refl _, fun _ => Int.le_refl _⟩
    · have := (hb.2 y hy).1
      have := hlt y hy
      exact ⟨by omega, fun _ => by omega⟩
  · refine ⟨List.mem_cons_of_mem _ hb.1, fun y hy => ?_⟩
    rcases List.mem_cons.1 hy with rfl | hy
    · exact ⟨by omega, fun e => by omega⟩
    · exact hb.2 y hy
/- Where a node is, or would be. -/
def nPlace (l : List Int) (n : Int) : Nat := (l.takeWhile fun x => decide (x < n)).length
theorem nPlace_le (l : List Int) (n : Int) : nPlace l n ≤ l.length := (List.takeWhile_sublist _).length_le
theorem nPlace_lt {l : List Int} {n : Int} {k : Nat} (h : k < nPlace l n) : l[k]'(Nat.lt_of_lt_of_le h (nPlace_le l n)) < n := by
  have h1 : (l.takeWhile fun x => decide (x < n))[k]'h ∈ l.takeWhile fun x => decide (x < n) := List.getElem_mem h
  have h2 := List.all_eq_true.1 (List.all_takeWhile (p := fun x => decide (x < n)) (l := l)) _ h1
  have h3 : (l.takeWhile fun x => decide (x < n))[k]'h = l[k]'(Nat.lt_of_lt_of_le h (nPlace_le l n)) := by
    have := (List.takeWhile_prefix (p := fun x => decide (x < n)) (l := l)).getElem h
    exact this
  rw [h3] at h2
  simpa using h2
theorem nPlace_ge {l : List Int} {n : Int} (hn : Nodes l) {k : Nat} (hk : k < l.length) (h : nPlace l n ≤ k) : n ≤ l[k] := by
  have h1 : ∀ (l : List Int) (hp : nPlace l n < l.length), n ≤ l[nPlace l n] := by
    intro l
    induction l with
    | nil => intro hp; simp at hp
    | cons x r ih =>
      intro hp
      unfold nPlace at hp ⊢
      by_cases hx : x < n
      · simp only [List.takeWhile_cons, hx, decide_true, if_true, List.length_cons, List.getElem_cons_succ] at hp ⊢
        exact ih (by unfold nPlace; omega)
      · simp only [List.takeWhile_cons, hx, decide_false, Bool.false_eq_true, if_false, List.length_nil, List.getElem_cons_zero] at hp ⊢
        omega
  have h2 := h1 l (by omega)
  rcases Nat.lt_or_ge (nPlace l n) k with h3 | h3
  · have := hn.2 (nPlace l n) k (by omega) hk h3
    omega
  · obtain rfl : k = nPlace l n := by omega
    exact h2
def nIns (l : List Int) (n : Int) : List Int := l.take (nPlace l n) ++ n :: l.drop (nPlace l n)
def nDel (l : List Int) (n : Int) : List Int := l.filter fun x => !decide (x = n)
theorem nPlace_mem {l : List Int} {n : Int} (hn : Nodes l) (h : n ∈ l) : ∃ hp : nPlace l n < l.length, l[nPlace l n] = n := by
  obtain ⟨k, hk, rfl⟩ := List.mem_iff_getElem.1 h
  have h1 : nPlace l l[k] ≤ k := by
    rcases Nat.lt_or_ge k (nPlace l l[k]) with h2 | h2
    · have := nPlace_lt h2
      omega
    · exact h2
  refine ⟨by omega, ?_⟩
  have h2 := nPlace_ge (n := l[k]) hn (show nPlace l l[k] < l.length by omega) (Nat.le_refl _)
  rcases Nat.lt_or_ge (nPlace l l[k]) k with h3 | h3
  · have := hn.2 (nPlace l l[k]) k (by omega) hk h3
    omega
  · have : nPlace l l[k] = k := by omega
    simp only [this]
theorem mem_nIns {l : List Int} {n x : Int} : x ∈ nIns l n ↔ x = n ∨ x ∈ l := by
  unfold nIns
  rw [List.mem_append, List.mem_cons]
  constructor
  · rintro (h | h | h)
    · exact .inr (List.mem_of_mem_take h)
    · exact .inl h
    · exact .inr (List.mem_of_mem_drop h)
  · rintro (h | h)
    · exact .inr (.inl h)
    · rw [← List.take_append_drop (nPlace l n) l, List.mem_append] at h
      rcases h with h | h
      · exact .inl h
      · exact .inr (.inr h)
theorem nodes_iff {l : List Int} : Nodes l ↔ (∀ x ∈ l, 1 ≤ x ∧ x ≤ 6) ∧ l.Pairwise (· < ·) := by
  unfold Nodes
  rw [List.pairwise_iff_getElem]
theorem nodes_ins {l : List Int} {n : Int} (hn : Nodes l) (h1 : 1 ≤ n ∧ n ≤ 6) (h2 : n ∉ l) : Nodes (nIns l n) := by
  have hp := (nodes_iff.1 hn).2
  refine nodes_iff.2 ⟨fun x hx => ?_, ?_⟩
  · rcases mem_nIns.1 hx with rfl | hx
    · exact h1
    · exact hn.1 x hx
  · unfold nIns
    rw [List.pairwise_append, List.pairwise_cons]
    have ha : ∀ a ∈ l.take (nPlace l n), a < n := fun a ha => by
      obtain ⟨i, hi, rfl⟩ := List.mem_iff_getElem.1 ha
      rw [List.length_take] at hi
      rw [List.getElem_take]
      exact nPlace_lt (by omega)
    have hb : ∀ b ∈ l.drop (nPlace l n), n < b := fun b hb => by
      have hm := List.mem_of_mem_drop hb
      obtain ⟨i, hi, rfl⟩ := List.mem_iff_getElem.1 hb
      rw [List.length_drop] at hi
      rw [List.getElem_drop] at hm ⊢
      have := nPlace_ge (n := n) hn (show nPlace l n + i < l.length by omega) (by omega)
      have : n ≠ l[nPlace l n + i] := fun e => h2 (e ▸ hm)
      omega
    refine ⟨hp.sublist (List.take_sublist _ _), ⟨hb, hp.sublist (List.drop_sublist _ _)⟩, fun a hm b hm2 => ?_⟩
    have h3 := ha a hm
    rcases List.mem_cons.1 hm2 with rfl | hm2
    · exact h3
    · have := hb b hm2
      omega
theorem nodes_del {l : List Int} {n : Int} (hn : Nodes l) : Nodes (nDel l n) := by
  have hp := (nodes_iff.1 hn).2
  refine nodes_iff.2 ⟨fun x hx => hn.1 x (List.mem_filter.1 hx).1, hp.sublist (List.filter_sublist)⟩
theorem mem_nDel {l : List Int} {n x : Int} : x ∈ nDel l n ↔ x ∈ l ∧ x ≠ n := by
  unfold nDel
  rw [List.mem_filter]
  simp
theorem nDel_ins {l : List Int} {n : Int} (h2 : n ∉ l) : nDel (nIns l n) n = l := by
  unfold nIns nDel
  have hf : ∀ m : List Int, (∀ x ∈ m, x ∈ l) → m.filter (fun x => !decide (x = n)) = m := fun m hm => List.filter_eq_self.2 fun x hx => by
    have : x ≠ n := fun e => h2 (e ▸ hm x hx)
    simp [this]
  rw [List.filter_append, List.filter_cons_of_neg (by simp), hf _ (fun x hx => List.mem_of_mem_take hx), hf _ (fun x hx => List.mem_of_mem_drop hx), List.take_append_drop]
theorem nDel_at {l : List Int} {n : Int} (hn : Nodes l) (h : n ∈ l) : nDel l n = l.take (nPlace l n) ++ l.drop (nPlace l n + 1) := by
  obtain ⟨hp, he⟩ := nPlace_mem hn h
  have hd : l.drop (nPlace l n) = n :: l.drop (nPlace l n + 1) := by rw [List.drop_eq_getElem_cons hp, he]
  have hx : l = l.take (nPlace l n) ++ n :: l.drop (nPlace l n + 1) := by rw [← hd, List.take_append_drop]
  have hne1 : ∀ x ∈ l.take (nPlace l n), (!decide (x = n)) = true := fun x hx => by
    obtain ⟨i, hi, rfl⟩ := List.mem_iff_getElem.1 hx
    rw [List.length_take] at hi
    rw [List.getElem_take]
    have := nPlace_lt (l := l) (n := n) (k := i) (by omega)
    have : l[i]'(by omega) ≠ n := by omega
    simp [this]
  have hne2 : ∀ x ∈ l.drop (nPlace l n + 1), (!decide (x = n)) = true := fun x hx => by
    obtain ⟨i, hi, rfl⟩ := List.mem_iff_getElem.1 hx
    rw [List.length_drop] at hi
    rw [List.getElem_drop]
    have := hn.2 (nPlace l n) (nPlace l n + 1 + i) hp (by omega) (by omega)
    have : l[nPlace l n + 1 + i]'(by omega) ≠ n := by omega
    simp [this]
  conv => lhs; unfold nDel; rw [hx]
  rw [List.filter_append, List.filter_cons_of_neg (by simp), List.filter_eq_self.2 hne1, List.filter_eq_self.2 hne2]
theorem nDel_no {l : List Int} {n : Int} (h : n ∉ l) : nDel l n = l := List.filter_eq_self.2 fun x hx => by
  have : x ≠ n := fun e => h (e ▸ hx)
  simp [this]
theorem nDel_len {l : List Int} {n : Int} (h : n ∈ l) : (nDel l n).length < l.length := by
  have h1 : (nDel l n).length ≤ l.length := List.length_filter_le _ _
  rcases Nat.lt_or_ge (nDel l n).length l.length with h2 | h2
  · exact h2
  · have h3 := List.length_filter_eq_length_iff.1 (show (l.filter fun x => !decide (x = n)).length = l.length by unfold nDel at h1 h2; omega) n h
    simp at h3
end Go.Proofs.YtcbcjefefmbccabDoor
namespace Go.Proofs.YtcbcjefefmbccabDoor
open Go.RowKit

abbrev txtV (p : List UInt8) : Value := .string ⟨p.toArray⟩
/- v is a slice whose elements are xs. -/
def CellsAt (w : World) (v : Value) (xs : List Value) : Prop :=
  ∃ (p : Option Addr) (c : Nat), v = .slice p xs.length c ∧ ∀ i (h : i < xs.length), ∃ b o, p = some ⟨b, o, none⟩ ∧ (b < w.heap.size ∧ xs.length ≤ c) ∧ w.cell? ⟨b, o + i, none⟩ = some xs[i]
theorem CellsAt.below {w w' : World} {v : Value} {xs : List Value} (h : CellsAt w v xs) (hb : Below w.heap.size w w') : CellsAt w' v xs := by
  obtain ⟨p, c, rfl, h⟩ := h
  refine ⟨p, c, rfl, fun i hi => ?_⟩
  obtain ⟨b, o, hp, ⟨hlt, hcap⟩, hc⟩ := h i hi
  exact ⟨b, o, hp, ⟨Nat.lt_of_lt_of_le hlt hb.size, hcap⟩, (hb.cell (p := ⟨b, o + i, none⟩) hlt).trans hc⟩
theorem CellsAt.of_row {w : World} {base : Nat} {e : TypeId} {v : Value} {n : Nat} {xs : List Value} (h : w.ownsRow base e 1 v n xs) : CellsAt w v xs := by
  obtain ⟨hl, h⟩ := h
  rw [Nat.mul_one] at hl
  rcases h with ⟨rfl, h0⟩ | ⟨g, cap, cur, rfl, hg, hb, h1, h2, h3, h4⟩
  · exact ⟨none, 0, by rw [hl, h0], fun i hi => by omega⟩
  · refine ⟨some ⟨g, 0, none⟩, cap, by rw [hl], fun i hi => ⟨g, 0, rfl, ⟨?_, by omega⟩, ?_⟩⟩
    · rcases Nat.lt_or_ge g w.heap.size with h' | h'
      · exact h'
      · simp [Array.getElem?_eq_none h'] at hb
    · have e1 : cur.toList[i]? = xs[i]? := by
        rw [← h4, List.getElem?_take, if_pos (by omega)]
      simp only [World.cell?, hb, Nat.zero_add]
      rw [← Array.getElem?_toList, e1, List.getElem?_eq_getElem hi]
      simp

/- A row that holds something: its slice written out. -/
theorem row_open {w : World} {base : Nat} {e : TypeId} {v : Value} {n : Nat} {xs : List Value} (h : w.ownsRow base e 1 v n xs) (hn : 1 ≤ n) :
    ∃ g cap, v = .slice (some ⟨g, 0, none⟩) n cap ∧ n ≤ cap ∧ cap ≤ maxLen ∧ g < w.heap.size ∧ ∀ j (hj : j < xs.length), w.cell? ⟨g, j, none⟩ = some xs[j] := by
  obtain ⟨p, c, hv, hc⟩ := CellsAt.of_row h
  obtain ⟨hl, h⟩ := h
  rw [Nat.mul_one] at hl
  rcases h with ⟨_, h0⟩ | ⟨g, cap, cur, rfl, hg, hb, h1, h2, h3, h4⟩
  · omega
  have hp : p = some ⟨g, 0, none⟩ := by
    have := hv
    simp at this
    exact this.1.symm
  refine ⟨g, cap, rfl, h1, h2, ?_, fun j hj => ?_⟩
  · obtain ⟨b, o, hp', ⟨hlt, _⟩, _⟩ := hc 0 (by omega)
    rw [hp] at hp'
    cases hp'
    exact hlt
  · obtain ⟨b, o, hp', _, hcell⟩ := hc j hj
    rw [hp] at hp'
    cases hp'
    rw [Nat.zero_add] at hcell
    exact hcell
set_option maxHeartbeats 2000000 in
theorem sameIntsC (va vb : Value) (xs : List Int) (w : World) (hn : (xs.length : Int) ≤ 9223372036854775807) (ha : CellsAt w va (xs.map (Value.int .i64))) (hb : CellsAt w vb (xs.map (Value.int .i64))) :
    Calls Tryd.prog 11 #[va, vb] w fun e w' => e = .returned (.bool true) ∧ Below w.heap.size w w' := by
  obtain ⟨pa, ca, rfl, ha⟩ := ha
  obtain ⟨pb, cb, rfl, hb⟩ := hb
  simp only [List.length_map, List.getElem_map] at ha hb ⊢
  go_enter Tryd.func11, Tryd.ntmps11
  go_wp2_with fail
  go_loopw [5] (fun i wr => ∃ j m : Nat, j ≤ xs.length ∧ i = .int .i64 j ∧ wr = w.drewN m) (fun i _ => xs.length - (intOf i).toNat)
  case atStart => exact ⟨0, 0, Nat.zero_le _, rfl, rfl⟩
  case round =>
    obtain ⟨j, m, hj, rfl, rfl⟩ := hrel
    by_cases hlt : j < xs.length
    · obtain ⟨ba, oa, rfl, _, hca⟩ := ha j hlt
      obtain ⟨bb, ob, rfl, _, hcb⟩ := hb j hlt
      have hlt' : (j : Int) < (xs.length : Int) := by omega
      go_wp2_with fail
      go_quiet (fail)
      go_wp2_with fail
      go_roundw
      case rel => exact ⟨j + 1, _, by omega, by go_num, rfl⟩
      case measure => simp [intOf]; omega
    · have hge : (xs.length : Int) ≤ (j : Int) := by omega
      go_wp2_with fail
      go_ret
      exact ⟨rfl, ⟨rfl, rfl, rfl, Nat.le_refl _, fun _ _ => rfl⟩⟩

end Go.Proofs.YtcbcjefefmbccabDoor
