/-
  Own text. A node in memory behind a file that was put: what lay stays, the file and its bin are new.
-/
import Derived.Test.YteefjbdejcpepaaDoorNodeMem
namespace Go.Proofs.YteefjbdejcpepaaDoor
open Go.RowKit Go.Maps

theorem Off.two {a b c : World} {x y : Nat} (h : Off (fun k => k = x) a b) (k : Off (fun k => k = y) b c) : Off (fun k => k = x ∨ k = y) a c :=
  ⟨k.os.trans h.os, k.tape.trans h.tape, k.output.trans h.output, Nat.le_trans h.size k.size, fun i hi hf => (k.block i (Nat.lt_of_lt_of_le hi h.size) (fun e => hf (.inr e))).trans (h.block i hi (fun e => hf (.inl e)))⟩
theorem NAt.put {w w' : World} {N mf mb : Nat} {vi : List UInt8 → Value} {pi : Nat × Int → Addr} {Fi : Nat × Int → Nat → Prop} {st : NSt} {nm s : List UInt8} {v : Value} {q : Addr} {F8 : Nat → Prop} {bl : List Hd} {r : Nat × Int}
    (h : NAt w N mf mb vi pi Fi st) (ho : Off (fun k => k = mf ∨ k = mb) w w')
    (hfiles : strRcps.Of w' mf ((nm, rwOf (nm, s) v) :: st.files.map fun f => (f.1, rwOf f (vi f.1))))
    (hbins : idBins.Of w' mb ((r, some q) :: (st.bins.filter (fun b => !decide (b.1 = r))).map fun b => (b.1, some (pi b.1))))
    (hnew : ∀ f ∈ st.files, f.1 ≠ nm) (hids : IdsAt w' v (idsOf s))
    (hrow : idsOf s ≠ [] → ∀ k, v.ownBlock = some k → k < w'.heap.size ∧ ¬ nFoot N mf mb vi Fi st k ∧ ¬ F8 k)
    (hq : PBin0 w' q F8 bl) (hF8 : ∀ k, F8 k → ¬ nFoot N mf mb vi Fi st k) :
    NAt w' N mf mb (fun n => if n = nm then v else vi n) (fun x => if x = r then q else pi x) (fun x => if x = r then F8 else Fi x) ⟨(nm, s) :: st.files, (r, bl) :: st.bins.filter (fun b => !decide (b.1 = r))⟩ := by
  obtain ⟨n1, n2, n3⟩ := h.ne
  have hfil : ∀ b ∈ st.bins.filter (fun b => !decide (b.1 = r)), b ∈ st.bins ∧ b.1 ≠ r := fun b hb => by
    obtain ⟨h1, h2⟩ := List.mem_filter.1 hb
    exact ⟨h1, by simpa using h2⟩
  refine ⟨ho.blk h.blk (by rintro (e | e) <;> omega), ?_, ?_, ?_, ?_, ?_, h.ne, ?_, ?_⟩
  · rw [List.map_cons]
    simp only [if_true]
    rw [List.map_congr_left (g := fun f => (f.1, rwOf f (vi f.1))) (fun f hf => by rw [if_neg (hnew f hf)])]
    exact hfiles
  · rw [List.map_cons]
    simp only [if_true]
    rw [List.map_congr_left (g := fun b => (b.1, some (pi b.1))) (fun b hb => by rw [if_neg (hfil b hb).2])]
    exact hbins
  · intro f hf
    rcases List.mem_cons.1 hf with rfl | hf
    · simp only [if_true]
      exact hids
    · simp only [if_neg (hnew f hf)]
      exact (h.ids f hf).off ho (fun hi k hk => by
        obtain ⟨_, _, h2, h3, _⟩ := h.rows f hf hi k hk
        rintro (e | e)
        · exact h2 e
        · exact h3 e)
  · intro f hf hi k hk
    rcases List.mem_cons.1 hf with rfl | hf
    · simp only [if_true] at hk
      obtain ⟨h1, h2, h3⟩ := hrow hi k hk
      refine ⟨h1, fun e => h2 (.inl e), fun e => h2 (.inr (.inl e)), fun e => h2 (.inr (.inr (.inl e))), fun b hb => ?_⟩
      rcases List.mem_cons.1 hb with rfl | hb
      · simp only [if_true]
        exact h3
      · simp only [if_neg (hfil b hb).2]
        exact fun hF => h2 (.inr (.inr (.inr (.inl ⟨b, (hfil b hb).1, hF⟩))))
    · simp only [if_neg (hnew f hf)] at hk
      obtain ⟨h1, h2, h3, h4, h5⟩ := h.rows f hf hi k hk
      refine ⟨Nat.lt_of_lt_of_le h1 ho.size, h2, h3, h4, fun b hb => ?_⟩
      rcases List.mem_cons.1 hb with rfl | hb
      · simp only [if_true]
        exact fun hF => hF8 k hF (.inr (.inr (.inr (.inr ⟨f, hf, hi, hk⟩))))
      · simp only [if_neg (hfil b hb).2]
        exact h5 b (hfil b hb).1
  · intro b hb
    rcases List.mem_cons.1 hb with rfl | hb
    · simp only [if_true]
      exact hq
    · simp only [if_neg (hfil b hb).2]
      obtain ⟨_, a2, a3⟩ := h.apart b (hfil b hb).1
      exact (h.bin b (hfil b hb).1).off ho (fun k hk => by
        rintro (e | e)
        · exact a2 (e ▸ hk)
        · exact a3 (e ▸ hk))
  · intro b hb
    rcases List.mem_cons.1 hb with rfl | hb
    · simp only [if_true]
      exact ⟨fun hF => hF8 _ hF (.inl rfl), fun hF => hF8 _ hF (.inr (.inl rfl)), fun hF => hF8 _ hF (.inr (.inr (.inl rfl)))⟩
    · simp only [if_neg (hfil b hb).2]
      exact h.apart b (hfil b hb).1
  · intro b hb c hc hne k
    rcases List.mem_cons.1 hb with rfl | hb
    · rcases List.mem_cons.1 hc with rfl | hc
      · exact absurd rfl hne
      · simp only [if_true, if_neg (hfil c hc).2]
        exact fun hF hG => hF8 k hF (.inr (.inr (.inr (.inl ⟨c, (hfil c hc).1, hG⟩))))
    · rcases List.mem_cons.1 hc with rfl | hc
      · simp only [if_true, if_neg (hfil b hb).2]
        exact fun hG hF => hF8 k hF (.inr (.inr (.inr (.inl ⟨b, (hfil b hb).1, hG⟩))))
      · simp only [if_neg (hfil b hb).2, if_neg (hfil c hc).2]
        exact h.two b (hfil b hb).1 c (hfil c hc).1 hne k
theorem nFoot_put {N mf mb : Nat} {vi : List UInt8 → Value} {Fi : Nat × Int → Nat → Prop} {st : NSt} {nm s : List UInt8} {v : Value} {F8 : Nat → Prop} {bl : List Hd} {r : Nat × Int} (hnew : ∀ f ∈ st.files, f.1 ≠ nm) {k : Nat}
    (h : nFoot N mf mb (fun n => if n = nm then v else vi n) (fun x => if x = r then F8 else Fi x) ⟨(nm, s) :: st.files, (r, bl) :: st.bins.filter (fun b => !decide (b.1 = r))⟩ k) : nFoot N mf mb vi Fi st k ∨ F8 k ∨ (idsOf s ≠ [] ∧ v.ownBlock = some k) := by
  rcases h with e | e | e | ⟨b, hb, hk⟩ | ⟨f, hf, hi, hk⟩
  · exact .inl (.inl e)
  · exact .inl (.inr (.inl e))
  · exact .inl (.inr (.inr (.inl e)))
  · rcases List.mem_cons.1 hb with rfl | hb
    · simp only [if_true] at hk
      exact .inr (.inl hk)
    · obtain ⟨h1, h2⟩ := List.mem_filter.1 hb
      simp only [if_neg (show b.1 ≠ r by simpa using h2)] at hk
      exact .inl (.inr (.inr (.inr (.inl ⟨b, h1, hk⟩))))
  · rcases List.mem_cons.1 hf with rfl | hf
    · simp only [if_true] at hk
      exact .inr (.inr ⟨hi, hk⟩)
    · simp only [if_neg (hnew f hf)] at hk
      exact .inl (.inr (.inr (.inr (.inr ⟨f, hf, hi, hk⟩))))
end Go.Proofs.YteefjbdejcpepaaDoor
