/-
  Own text. From what a row lists of the sentinels and of errors' handle ('laid') to what the walks ask of the world ('ErrW').
-/
import Derived.Test.YtjngnnbondejaabDoorRows
import Derived.Test.YtjngnnbondejaabDoorCode
import Derived.LaidLaws
import Derived.LaidHandle
import Derived.LaidSub
import Derived.Stop.LaidErr
import Derived.Stop.Joined
namespace Go.Proofs.YtjngnnbondejaabDoor
open Go.RowKit Go.ChangeShapes

/- A listed sentinel. -/
abbrev sentD (x : String × Nat × List UInt8) : String × DataW Unit := (x.1, .iface "*errors.errorString" (.ptr (.agg [.lit (.string x.2.2)])))

/- However many listed sentinels of one type: each variable holds a pointer, its row bears the frozen range (0, 0), no two are one. -/
theorem sents_of_laid {P : Program} {W : World} {ti tp te ts : TypeId} {ms : Array (String × TypeId)} {f : Field}
    (hi : P.underlying ti = some (.interface ms)) (hrow : ∀ u, P.typeName? 3 u = some "*errors.errorString" → u = tp)
    (hp : P.underlying tp = some (.pointer te)) (he : P.underlying te = some (.struct #[f])) (hft : f.type = ts) (hfo : f.offset = 0) (hs : P.underlying ts = some .string) (hc : P.cellsOf te = 1) (hcs : P.cellsOf ts = 1) :
    ∀ (l : List (String × Nat × List UInt8)) (ps : List MemPlace), (∀ x ∈ l, P.globalNamed x.1 = some x.2.1 ∧ (P.globals[x.2.1]?).map (·.type) = some ti) →
      DataW.LaidVars P W (l.map sentD) ps → ps.Nodup →
      (∀ b off, MemPlace.cell b off ∈ ps → (∃ c t, W.heap[b]? = some (.cells c t (0, 0))) ∧ ∀ u v, W.cell? ⟨b, off, none⟩ = some (.iface u v) → Value.okWide P W .any 0 u v) →
      ∃ a : Nat → Addr, (∀ i (h : i < l.length), W.cell? ⟨l[i].2.1, 0, none⟩ = some (.iface tp (.pointer (some (a i)))) ∧ MemPlace.cell (a i).block (a i).off ∈ ps ∧ ∃ c t, W.heap[(a i).block]? = some (.cells c t (0, 0))) ∧
        ∀ i j, i < l.length → j < l.length → a i = a j → i = j
  | [], _, _, _, _, _ => ⟨fun _ => ⟨0, 0, none⟩, fun i h => absurd h (by simp), fun i j h => absurd h (by simp)⟩
  | x :: l, ps, hall, hv, hnd, hrows => by
    obtain ⟨g0, t0, cs0, f0, p0, q0, hg0, ht0, hv0, hd0, hq, rfl⟩ := hv
    obtain ⟨hgx, htx⟩ := hall x (List.mem_cons_self ..)
    obtain rfl := Option.some.inj (hgx.symm.trans hg0)
    obtain rfl := Option.some.inj (htx.symm.trans ht0)
    obtain ⟨l0⟩ := cs0
    have ok0 : ∀ u v, l0 = [.iface u v] → Value.okWide P W .any 0 u v := fun u v e => by
      subst e
      exact (hrows x.2.1 0 (by simp [MemPlace.row])).2 u v (by simpa using World.var?_cell hg0 hv0 0)
    obtain ⟨a0, s0, rfl, hc0, hs0, hz0, rfl⟩ := errorString_of_trod hi hrow hp he hft hfo hs hc hcs hd0 ok0
    have hmem0 : MemPlace.cell a0.block a0.off ∈ MemPlace.row a0 1 := by simp [MemPlace.row]
    obtain ⟨hnd1, hnd2, hdis⟩ := List.nodup_append.1 hnd
    obtain ⟨a, ha, hne⟩ := sents_of_laid hi hrow hp he hft hfo hs hc hcs l q0 (fun y hy => hall y (List.mem_cons_of_mem _ hy)) hq hnd2 (fun b off hm => hrows b off (List.mem_append_right _ hm))
    refine ⟨fun i => match i with | 0 => a0 | i + 1 => a i, ?_, ?_⟩
    · intro i h
      cases i with
      | zero => exact ⟨by simpa using World.var?_cell hg0 hv0 0, List.mem_append_left _ (List.mem_append_right _ hmem0), (hrows a0.block a0.off (List.mem_append_left _ (List.mem_append_right _ hmem0))).1⟩
      | succ i =>
        obtain ⟨h1, h2, h3⟩ := ha i (by simpa using h)
        exact ⟨h1, List.mem_append_right _ h2, h3⟩
    · intro i j hi' hj' e
      cases i with
      | zero =>
        cases j with
        | zero => rfl
        | succ j =>
          exfalso
          simp only at e
          have h2 := (ha j (by simpa using hj')).2.1
          rw [← e] at h2
          exact hdis _ (List.mem_append_right _ hmem0) _ h2 rfl
      | succ i =>
        cases j with
        | zero =>
          exfalso
          simp only at e
          have h2 := (ha i (by simpa using hi')).2.1
          rw [e] at h2
          exact hdis _ (List.mem_append_right _ hmem0) _ h2 rfl
        | succ j => rw [hne i j (by simpa using hi') (by simpa using hj') e]

def errSents : List (String × Nat × List UInt8) := [("cornbin/api.ErrText", 7, [99, 111, 114, 110, 98, 105, 110, 58, 32, 116, 101, 120, 116]), ("cornbin/api.ErrBound", 1, [99, 111, 114, 110, 98, 105, 110, 58, 32, 98, 111, 117, 110, 100]),
  ("cornbin/api.ErrShape", 3, [99, 111, 114, 110, 98, 105, 110, 58, 32, 115, 104, 97, 112, 101]), ("cornbin/api.ErrName", 5, [99, 111, 114, 110, 98, 105, 110, 58, 32, 110, 97, 109, 101]),
  ("cornbin/api.ErrNone", 0, [99, 111, 114, 110, 98, 105, 110, 58, 32, 110, 111, 110, 101]), ("cornbin/api.ErrExist", 4, [99, 111, 114, 110, 98, 105, 110, 58, 32, 101, 120, 105, 115, 116]),
  ("cornbin/api.ErrFull", 6, [99, 111, 114, 110, 98, 105, 110, 58, 32, 102, 117, 108, 108]), ("cornbin/api.ErrOrder", 2, [99, 111, 114, 110, 98, 105, 110, 58, 32, 111, 114, 100, 101, 114]),
  ("cornbin/api.ErrSum", 8, [99, 111, 114, 110, 98, 105, 110, 58, 32, 115, 117, 109]), ("cornbin/api.ErrClash", 9, [99, 111, 114, 110, 98, 105, 110, 58, 32, 99, 108, 97, 115, 104]),
  ("cornbin/api.ErrUsed", 10, [99, 111, 114, 110, 98, 105, 110, 58, 32, 117, 115, 101, 100]), ("cornbin/api.ErrOff", 11, [99, 111, 114, 110, 98, 105, 110, 58, 32, 111, 102, 102])]
def errLaid : List (String × DataW Unit) := ("errors.errorType", .iface "internal/reflectlite.rtype" (.agg [.ptr (.lit (.string [101, 114, 114, 111, 114]))])) :: errSents.map sentD

theorem lEt : Tryd.prog.globalNamed "errors.errorType" = some 12 := by kernel_rfl
theorem lRt : (Tryd.prog.cutTypes.find? (·.1 == "internal/reflectlite.rtype")).map (·.2) = some 135 := by kernel_rfl
theorem lOneRow : ((List.range 212).filter fun t => Tryd.prog.rowNamed t [101, 114, 114, 111, 114]) = [ 28 ] := by kernel_rfl
theorem lSize : Tryd.prog.types.size = 212 := by kernel_rfl
theorem lRowE : ∀ u, Tryd.prog.typeName? 3 u = some "*errors.errorString" → u = 179 := typeName_ptr_named (nm := "errors.errorString") (by kernel_rfl) (by kernel_rfl) (by decide)
theorem lCellsE : Tryd.prog.cellsOf 200 = 1 := by kernel_rfl
theorem lCellsS : Tryd.prog.cellsOf 9 = 1 := by kernel_rfl
theorem lAll : (errSents.all fun x => Tryd.prog.globalNamed x.1 == some x.2.1 && (Tryd.prog.globals[x.2.1]?).map (·.type) == some 28) = true := by kernel_rfl

theorem errW_of_laid {W : World} (h : laidMetH Tryd.prog errLaid W) : ∃ a, ErrW W a := by
  have h' : laidMet Tryd.prog (errSents.map sentD) W ∧ handlesMet Tryd.prog [("errors.errorType", .iface "internal/reflectlite.rtype" (.agg [.ptr (.lit (.string [101, 114, 114, 111, 114]))]))] W := h
  obtain ⟨⟨ps, hv, hnd, hrows⟩, hh⟩ := h'
  obtain ⟨a, ha, hne⟩ := sents_of_laid (P := Tryd.prog) Tryd.underlying28 lRowE Tryd.underlying179 Tryd.underlying200 rfl rfl Tryd.underlying9 lCellsE lCellsS errSents ps
    (fun x hx => by have := List.all_eq_true.1 lAll x hx; simpa using this) hv hnd hrows
  refine ⟨a, ⟨?_, fun i hi => (ha i hi).2.2, hne, ?_⟩⟩
  · intro i hi
    have : i = 0 ∨ i = 1 ∨ i = 2 ∨ i = 3 ∨ i = 4 ∨ i = 5 ∨ i = 6 ∨ i = 7 ∨ i = 8 ∨ i = 9 ∨ i = 10 ∨ i = 11 := by omega
    rcases this with rfl | rfl | rfl | rfl | rfl | rfl | rfl | rfl | rfl | rfl | rfl | rfl <;> exact (ha _ hi).1
  · obtain ⟨name, u, ty, e1, e2, e3, e4, e5⟩ := hh _ (List.mem_singleton.2 rfl)
    have en : name = [101, 114, 114, 111, 114] := (Option.some.inj e1).symm
    subst en
    obtain rfl := Option.some.inj (lRt.symm.trans e2)
    have hm : ty ∈ (List.range 212).filter fun t => Tryd.prog.rowNamed t [101, 114, 114, 111, 114] := List.mem_filter.2 ⟨List.mem_range.2 (by rw [← lSize]; exact e3), e4⟩
    rw [lOneRow] at hm
    obtain rfl := List.mem_singleton.1 hm
    have hth : typeHandle Tryd.prog 28 = .pointer (some ⟨16, 28, none⟩) := by kernel_rfl
    rw [hth] at e5
    simpa using World.var?_cell lEt e5 0
end Go.Proofs.YtjngnnbondejaabDoor
