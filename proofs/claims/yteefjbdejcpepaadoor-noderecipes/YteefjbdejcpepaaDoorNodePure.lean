/-
  Own text. What putting a file makes of a node, pure: its bins stay right, the file is there, its rep has a bin; the closed example of the law.
-/
import Derived.Test.YteefjbdejcpepaaDoorNGet
namespace Go.Proofs.YteefjbdejcpepaaDoor
open Go.RowKit Go.Maps

theorem putAll_ok : ∀ (ls : List (List UInt8)) {U : Int} {l : List Hd} {fr : Int}, 0 ≤ U → BinOk U l → BinOk (U + ls.length) (putAll l fr ls).2.2
  | [], U, l, fr, _, h => by
    rw [putAll]
    simpa using h
  | s :: r, U, l, fr, hU, h => by
    rw [putAll]
    have h1 := hPut_ok h s hU
    split
    · have := putAll_ok r (fr := if (hPut l s).1.2.1 = true then fr + s.length else fr) (by omega) h1
      have e : U + ((s :: r).length : Nat) = U + 1 + (r.length : Nat) := by rw [List.length_cons]; omega
      rw [e]
      exact this
    · exact h1.mono (by rw [List.length_cons]; omega)
structure NOk (U : Int) (n : Nat) (st : NSt) : Prop where
  bins : ∀ b ∈ st.bins, BinOk U b.2
  many : st.bins.length ≤ n
  files : ∀ f ∈ st.files, f.2.length ≤ 4000 ∧ isName f.1 = true
theorem NOk.empty : NOk 0 0 ⟨[], []⟩ := ⟨fun b hb => by simp at hb, Nat.le_refl _, fun f hf => by simp at hf⟩
theorem NOk.mono {U V : Int} {n m : Nat} {st : NSt} (h : NOk U n st) (hU : U ≤ V) (hn : n ≤ m) : NOk V m st := ⟨fun b hb => (h.bins b hb).mono hU, Nat.le_trans h.many hn, h.files⟩
theorem nPut_cases (st : NSt) (nm s : List UInt8) : ((nPut st nm s).2.1 ≠ 0 ∧ (nPut st nm s).1 = 0 ∧ (nPut st nm s).2.2 = st) ∨ ((ofR nm s).2 = 0 ∧ nFile st.files nm = none ∧ nPut st nm s = ((putAll ((nBin st.bins (repT s)).getD []) 0 (pieces s)).1, 0, ⟨(nm, s) :: st.files, (repT s, (putAll ((nBin st.bins (repT s)).getD []) 0 (pieces s)).2.2) :: st.bins.filter (fun b => !decide (b.1 = repT s))⟩)) := by
  by_cases h1 : (ofR nm s).2 = 0
  · cases h2 : nFile st.files nm with
    | some t =>
      rw [nPut_there h1 h2]
      exact .inl ⟨by simp, rfl, rfl⟩
    | none =>
      by_cases h3 : 30 ≤ st.files.length
      · rw [nPut_full h1 h2 h3]
        exact .inl ⟨by simp, rfl, rfl⟩
      · obtain ⟨⟨fr, ec, bl⟩, hp⟩ : ∃ r, putAll ((nBin st.bins (repT s)).getD []) 0 (pieces s) = r := ⟨_, rfl⟩
        by_cases h4 : ec = 0
        · subst h4
          rw [nPut_ok h1 h2 h3 rfl rfl hp, hp]
          exact .inr ⟨h1, rfl, rfl⟩
        · rw [nPut_err h1 h2 h3 rfl rfl hp h4]
          exact .inl ⟨h4, rfl, rfl⟩
  · rw [nPut_bad h1]
    exact .inl ⟨h1, rfl, rfl⟩
theorem ofR_ok {nm s : List UInt8} (h : (ofR nm s).2 = 0) : isName nm = true ∧ s.length ≤ 4000 := by
  have hn : isName nm = true := by
    cases hn : isName nm with
    | true => rfl
    | false => rw [ofR_name hn] at h; cases h
  refine ⟨hn, ?_⟩
  by_cases hl : 4000 < s.length
  · rw [ofR_bound hn hl] at h
    cases h
  · omega
theorem NOk.put {U : Int} {n : Nat} {st : NSt} (h : NOk U n st) (hU : 0 ≤ U) (nm s : List UInt8) : NOk (U + 4000) (n + 1) (nPut st nm s).2.2 := by
  rcases nPut_cases st nm s with ⟨_, _, e⟩ | ⟨h1, _, e⟩
  · rw [e]
    exact h.mono (by omega) (by omega)
  · rw [e]
    obtain ⟨hn, hl⟩ := ofR_ok h1
    have hp := pieces_len_le s
    refine ⟨fun b hb => ?_, ?_, fun f hf => ?_⟩
    · rcases List.mem_cons.1 hb with rfl | hb
      · have hb0 : BinOk U ((nBin st.bins (repT s)).getD []) := by
          cases hb : nBin st.bins (repT s) with
          | none => exact BinOk.nil _
          | some l0 => exact h.bins _ (nBin_some hb)
        exact (putAll_ok (pieces s) hU hb0).mono (by omega)
      · exact (h.bins b (List.mem_filter.1 hb).1).mono (by omega)
    · have h2 := List.length_filter_le (fun b : NBin => !decide (b.1 = repT s)) st.bins
      have h3 := h.many
      simp only [List.length_cons]
      omega
    · rcases List.mem_cons.1 hf with rfl | hf
      · exact ⟨hl, hn⟩
      · exact h.files f hf
theorem nPut_there' {st : NSt} {nm s : List UInt8} (h : (nPut st nm s).2.1 = 0) : nFile (nPut st nm s).2.2.files nm = some s ∧ (∃ l, nBin (nPut st nm s).2.2.bins (repT s) = some l) ∧ (ofR nm s).2 = 0 := by
  rcases nPut_cases st nm s with ⟨h1, _, _⟩ | ⟨h1, _, e⟩
  · exact absurd h h1
  · rw [e]
    exact ⟨by simp only [nFile, if_true], ⟨(putAll ((nBin st.bins (repT s)).getD []) 0 (pieces s)).2.2, by simp only [nBin, if_true]⟩, h1⟩
/- The closed example. -/
abbrev helloL : List UInt8 := [104, 101, 108, 108, 111]
theorem helloPieces : pieces helloL = [helloL] := by decide
def helloR : Nat × Int := repT helloL
def st1 : NSt := ⟨[([97], helloL)], [(repT helloL, [(idOfL helloL, 1, helloL)])]⟩
def st2 : NSt := ⟨[([98], helloL), ([97], helloL)], [(repT helloL, [(idOfL helloL, 2, helloL)])]⟩
theorem put1 : nPut ⟨[], []⟩ [97] helloL = (5, 0, st1) := by
  have e : putAll [] 0 (pieces helloL) = (5, 0, [(idOfL helloL, 1, helloL)]) := by rw [helloPieces]; rfl
  exact nPut_ok (st := ⟨[], []⟩) (nm := [97]) (s := helloL) (r := repT helloL) (BL := []) (by decide) rfl (by decide) rfl rfl e
theorem put2 : nPut st1 [98] helloL = (0, 0, st2) := by
  have e : putAll [(idOfL helloL, 1, helloL)] 0 (pieces helloL) = (0, 0, [(idOfL helloL, 2, helloL)]) := by
    rw [helloPieces]
    simp [putAll, hPut, hFind, hUse]
  have h := nPut_ok (st := st1) (nm := [98]) (s := helloL) (r := repT helloL) (BL := [(idOfL helloL, 1, helloL)]) (by decide) (by decide) (by decide) rfl (by unfold st1; simp [nBin]) e
  rw [h]
  unfold st1 st2
  simp
theorem size2 : nSize st2.bins = 5 := by
  unfold st2
  simp [nSize, hSize, idOfL]
end Go.Proofs.YteefjbdejcpepaaDoor
