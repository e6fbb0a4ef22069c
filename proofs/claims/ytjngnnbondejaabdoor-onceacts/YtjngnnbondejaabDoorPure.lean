/-
  Own text. Plain mathematics of prints: the sum by bytes, its parts, that one other byte makes another sum; hex digits and decimal digits, written and read. No program in it.
-/
import Derived.Lib.ItoaNum
namespace Go.Proofs.YtjngnnbondejaabDoor

/- One byte more. -/
def pstep (n : Nat) (c : UInt8) : Nat := ((n ^^^ c.toNat) * 16777619) % 4294967296
def pmore (n : Nat) (l : List UInt8) : Nat := l.foldl pstep n

theorem pstep_lt (n : Nat) (c : UInt8) : pstep n c < 4294967296 := Nat.mod_lt _ (by decide)
theorem pmore_lt (n : Nat) (hn : n < 4294967296) (l : List UInt8) : pmore n l < 4294967296 := by
  unfold pmore
  induction l generalizing n with
  | nil => exact hn
  | cons c l ih => rw [List.foldl_cons]; exact ih _ (pstep_lt n c)
theorem pmore_append (n : Nat) (a b : List UInt8) : pmore n (a ++ b) = pmore (pmore n a) b := List.foldl_append
theorem pmore_cons (n : Nat) (c : UInt8) (l : List UInt8) : pmore n (c :: l) = pmore (pstep n c) l := by simp only [pmore, List.foldl_cons]
theorem pmore_nil (n : Nat) : pmore n [] = n := rfl
theorem pmore_snoc (n : Nat) (l : List UInt8) (c : UInt8) : pmore n (l ++ [c]) = pstep (pmore n l) c := (pmore_append n l [c]).trans ((pmore_cons (pmore n l) c []).trans (pmore_nil _))

theorem mul_inj_of (M m v a b : Nat) (hv : m * v % M = 1) (ha : a < M) (hb : b < M) (h : a * m % M = b * m % M) : a = b := by
  have h1 : a * m * v % M = b * m * v % M := by rw [Nat.mul_mod, h, ← Nat.mul_mod]
  rw [Nat.mul_assoc, Nat.mul_assoc, Nat.mul_mod a, Nat.mul_mod b, hv] at h1
  simpa [Nat.mod_eq_of_lt ha, Nat.mod_eq_of_lt hb] using h1
theorem inv_ok : 16777619 * 899433627 % 4294967296 = 1 := by decide
theorem mul_inj {a b : Nat} (ha : a < 4294967296) (hb : b < 4294967296) (h : a * 16777619 % 4294967296 = b * 16777619 % 4294967296) : a = b :=
  mul_inj_of 4294967296 16777619 899433627 a b inv_ok ha hb h
theorem two32 : (2 : Nat) ^ 32 = 4294967296 := by decide
theorem xor_lt32 {a b : Nat} (ha : a < 4294967296) (hb : b < 4294967296) : a ^^^ b < 4294967296 := by
  rw [← two32] at *
  exact Nat.xor_lt_two_pow ha hb
theorem byte_lt32 (c : UInt8) : c.toNat < 4294967296 := by have := c.toNat_lt; omega
theorem pstep_inj_n {n m : Nat} {c : UInt8} (hn : n < 4294967296) (hm : m < 4294967296) (h : pstep n c = pstep m c) : n = m := by
  have := mul_inj (xor_lt32 hn (byte_lt32 c)) (xor_lt32 hm (byte_lt32 c)) h
  have h2 : (n ^^^ c.toNat) ^^^ c.toNat = (m ^^^ c.toNat) ^^^ c.toNat := by rw [this]
  simpa [Nat.xor_assoc] using h2
theorem pstep_inj_c {n : Nat} {c d : UInt8} (hn : n < 4294967296) (h : pstep n c = pstep n d) : c = d := by
  have := mul_inj (xor_lt32 hn (byte_lt32 c)) (xor_lt32 hn (byte_lt32 d)) h
  have h2 : n ^^^ (n ^^^ c.toNat) = n ^^^ (n ^^^ d.toNat) := by rw [this]
  rw [← Nat.xor_assoc, ← Nat.xor_assoc] at h2
  simp at h2
  exact UInt8.toNat_inj.1 h2
theorem pmore_inj_n {n m : Nat} (hn : n < 4294967296) (hm : m < 4294967296) (l : List UInt8) (h : pmore n l = pmore m l) : n = m := by
  induction l generalizing n m with
  | nil => exact h
  | cons c l ih => rw [pmore_cons, pmore_cons] at h; exact pstep_inj_n hn hm (ih (pstep_lt n c) (pstep_lt m c) h)
/- With one byte another one it is another sum. -/
theorem pmore_ne (n : Nat) (hn : n < 4294967296) (p q : List UInt8) (c d : UInt8) (h : c ≠ d) : pmore n (p ++ c :: q) ≠ pmore n (p ++ d :: q) := by
  intro e
  rw [pmore_append, pmore_append, pmore_cons, pmore_cons] at e
  exact h (pstep_inj_c (pmore_lt n hn p) (pmore_inj_n (pstep_lt _ _) (pstep_lt _ _) q e))

/- Hex digits. -/
def hexDig (d : Nat) : UInt8 := if d < 10 then UInt8.ofNat (48 + d) else UInt8.ofNat (87 + d)
/- The k last hex digits of n. -/
def hexLast : Nat → Nat → List UInt8
  | _, 0 => []
  | n, k + 1 => hexLast (n / 16) k ++ [hexDig (n % 16)]
theorem hexLast_length (n k : Nat) : (hexLast n k).length = k := by
  induction k generalizing n with
  | zero => rfl
  | succ k ih => simp [hexLast, ih]
/- The value of one hex digit, none where it is none. -/
def unhex1 (c : UInt8) : Option Nat :=
  if 48 ≤ c.toNat ∧ c.toNat ≤ 57 then some (c.toNat - 48) else if 97 ≤ c.toNat ∧ c.toNat ≤ 102 then some (c.toNat - 87) else none
def unhex : Nat → List UInt8 → Option Nat
  | n, [] => some n
  | n, c :: l => match unhex1 c with | some d => unhex (16 * n + d) l | none => none
theorem unhex1_hexDig : ∀ d : Fin 16, unhex1 (hexDig d.val) = some d.val := by decide
theorem unhex_append (n : Nat) (a b : List UInt8) : unhex n (a ++ b) = (unhex n a).bind fun m => unhex m b := by
  induction a generalizing n with
  | nil => rfl
  | cons c a ih =>
    simp only [List.cons_append, unhex]
    cases unhex1 c with
    | none => rfl
    | some d => exact ih _
theorem unhex_hexLast (m n k : Nat) (h : n < 16 ^ k) : unhex m (hexLast n k) = some (m * 16 ^ k + n) := by
  induction k generalizing n with
  | zero => simp at h; subst h; simp [hexLast, unhex]
  | succ k ih =>
    rw [hexLast, unhex_append, ih (n / 16) (by rw [Nat.pow_succ] at h; omega)]
    simp only [Option.bind_some, unhex]
    have := unhex1_hexDig ⟨n % 16, by omega⟩
    simp only at this
    rw [this]
    simp only [Option.some.injEq, Nat.pow_succ]
    rw [← Nat.mul_assoc]
    omega
theorem unhex_lt (l : List UInt8) : ∀ (n v : Nat), unhex n l = some v → v < (n + 1) * 16 ^ l.length := by
  induction l with
  | nil => intro n v h; simp [unhex] at h; subst h; simp
  | cons c l ih =>
    intro n v h
    simp only [unhex] at h
    cases hd : unhex1 c with
    | none => rw [hd] at h; cases h
    | some d =>
      rw [hd] at h
      have h1 := ih _ _ h
      have hd16 : d < 16 := by
        unfold unhex1 at hd
        split at hd
        · cases hd; omega
        · split at hd
          · cases hd; omega
          · cases hd
      refine Nat.lt_of_lt_of_le h1 ?_
      rw [List.length_cons, Nat.pow_succ, Nat.mul_comm (16 ^ l.length) 16, ← Nat.mul_assoc]
      exact Nat.mul_le_mul_right _ (by omega)

/- Decimal digits. -/
def undec1 (c : UInt8) : Option Nat := if 48 ≤ c.toNat ∧ c.toNat ≤ 57 then some (c.toNat - 48) else none
def undec : Nat → List UInt8 → Option Nat
  | n, [] => some n
  | n, c :: l => match undec1 c with | some d => undec (10 * n + d) l | none => none
/- What a number's text reads as: at most 'most' digits, no needless zero. -/
def numOf (l : List UInt8) (most : Nat) : Option Nat :=
  if l.length < 1 ∨ most < l.length ∨ (1 < l.length ∧ l.head? = some 48) then none else undec 0 l
theorem undec_append (n : Nat) (a b : List UInt8) : undec n (a ++ b) = (undec n a).bind fun m => undec m b := by
  induction a generalizing n with
  | nil => rfl
  | cons c a ih =>
    simp only [List.cons_append, undec]
    cases undec1 c with
    | none => rfl
    | some d => exact ih _
theorem undec1_dig : ∀ d : Fin 10, undec1 (UInt8.ofNat (48 + d.val)) = some d.val := by decide
theorem undec_decDigits (u : Nat) : undec 0 (Lib.decDigits u) = some u := by
  induction u using Nat.strongRecOn with
  | _ u ih =>
    by_cases h : u < 10
    · rw [Lib.decDigits, dif_pos h]
      have := undec1_dig ⟨u, h⟩
      simp only at this
      simp only [undec, this]
      simp
    · rw [Lib.decDigits, dif_neg h, undec_append, ih (u / 10) (by omega)]
      have := undec1_dig ⟨u % 10, by omega⟩
      simp only at this
      simp only [Option.bind_some, undec, this, Option.some.injEq]
      omega
theorem decDigits_head (u : Nat) (h : 10 ≤ u) : (Lib.decDigits u).head? ≠ some 48 := by
  induction u using Nat.strongRecOn with
  | _ u ih =>
    rw [Lib.decDigits, dif_neg (by omega)]
    by_cases h2 : u / 10 < 10
    · rw [Lib.decDigits, dif_pos h2]
      have : ∀ d : Fin 10, d.val ≠ 0 → UInt8.ofNat (48 + d.val) ≠ 48 := by decide
      have := this ⟨u / 10, h2⟩ (by simp; omega)
      simpa using this
    · have h3 := ih (u / 10) (by omega) (by omega)
      cases hl : Lib.decDigits (u / 10) with
      | nil => simp [← List.length_eq_zero_iff, Lib.decDigits_length] at hl; have := Lib.nDigits_pos (u / 10); omega
      | cons c l => rw [hl] at h3; simpa using h3
theorem decDigits_len_le (u k : Nat) (hk : 1 ≤ k) (h : u < 10 ^ k) : (Lib.decDigits u).length ≤ k := by
  rw [Lib.decDigits_length]
  induction k generalizing u with
  | zero => omega
  | succ k ih =>
    by_cases h2 : u < 10
    · rw [Lib.nDigits_small h2]; omega
    · rw [Lib.nDigits_big h2]
      have : 1 ≤ k := by
        rcases Nat.eq_zero_or_pos k with h0 | h0
        · subst h0; simp at h; omega
        · exact h0
      have := ih (u / 10) this (by rw [Nat.pow_succ] at h; omega)
      omega
theorem numOf_decDigits (u k : Nat) (hk : 1 ≤ k) (h : u < 10 ^ k) : numOf (Lib.decDigits u) k = some u := by
  have h1 := decDigits_len_le u k hk h
  have h2 : 1 ≤ (Lib.decDigits u).length := by rw [Lib.decDigits_length]; exact Lib.nDigits_pos u
  unfold numOf
  rw [if_neg, undec_decDigits]
  rintro (h3 | h3 | ⟨h3, h4⟩)
  · omega
  · omega
  · refine decDigits_head u ?_ h4
    rcases Nat.lt_or_ge u 10 with h5 | h5
    · rw [Lib.decDigits_length, Lib.nDigits_small h5] at h3; omega
    · exact h5
theorem undec_lt (l : List UInt8) : ∀ (n v : Nat), undec n l = some v → v < (n + 1) * 10 ^ l.length := by
  induction l with
  | nil => intro n v h; simp [undec] at h; subst h; simp
  | cons c l ih =>
    intro n v h
    simp only [undec] at h
    cases hd : undec1 c with
    | none => rw [hd] at h; cases h
    | some d =>
      rw [hd] at h
      have h1 := ih _ _ h
      have hd10 : d < 10 := by
        unfold undec1 at hd
        split at hd
        · cases hd; omega
        · cases hd
      refine Nat.lt_of_lt_of_le h1 ?_
      rw [List.length_cons, Nat.pow_succ, Nat.mul_comm (10 ^ l.length) 10, ← Nat.mul_assoc]
      exact Nat.mul_le_mul_right _ (by omega)

/- Texts of IDs. -/
def idText (n l : Nat) : List UInt8 := hexLast n 8 ++ 45 :: Lib.decDigits l
/- An ID out of a text. -/
def idRead (t : List UInt8) : Option (Nat × Nat) :=
  if t.length ≤ 8 ∨ t[8]? ≠ some 45 then none else
    match unhex 0 (t.take 8), numOf (t.drop 9) 6 with
    | some n, some l => some (n, l)
    | _, _ => none
theorem idRead_idText (n l : Nat) (hn : n < 4294967296) (hl : l < 1000000) : idRead (idText n l) = some (n, l) := by
  have h8 := hexLast_length n 8
  unfold idRead idText
  rw [if_neg]
  · have h1 : (hexLast n 8 ++ 45 :: Lib.decDigits l).take 8 = hexLast n 8 := by rw [List.take_append_of_le_length (by omega), List.take_of_length_le (by omega)]
    have h2 : (hexLast n 8 ++ 45 :: Lib.decDigits l).drop 9 = Lib.decDigits l := by
      rw [List.drop_append, h8]; simp [h8]
    rw [h1, h2, unhex_hexLast 0 n 8 (by omega), numOf_decDigits l 6 (by decide) (by omega)]
    simp
  · rintro (h | h)
    · simp [h8] at h
      omega
    · apply h
      rw [List.getElem?_append_right (by omega), h8]; rfl

/- IDs: of a text; by print, then by length. -/
def idOfL (p : List UInt8) : Nat × Int := (pmore 2166136261 p, (p.length : Int))
def lessB (a b : Nat × Int) : Bool := if (a.1 : Int) = (b.1 : Int) then decide (a.2 < b.2) else decide ((a.1 : Int) < (b.1 : Int))
theorem lessB_iff (a b : Nat × Int) : lessB a b = true ↔ a.1 < b.1 ∨ (a.1 = b.1 ∧ a.2 < b.2) := by
  unfold lessB
  split
  · rename_i h
    simp only [decide_eq_true_eq]
    omega
  · rename_i h
    simp only [decide_eq_true_eq]
    omega
end Go.Proofs.YtjngnnbondejaabDoor
