/-
  Own text. cut.Cuts by a contract: where the pieces of a text end, in new memory.
-/
import Derived.Test.YtjbnehgpadajkaaCutPieces
namespace Go.Proofs.Ytjbnehgpadajkaa
open Go.RowKit Go.Shelf

attribute [local go_sem] Oper.semAt_some

abbrev intV (n : Int) : Value := .int .i64 n
/- The ends as the program adds them up: each sum wrapped; where all is short they are the ends. -/
def totW (ps : List (List UInt8)) : Int := ps.foldl (fun t p => wrap64 (t + (p.length : Int))) 0
def endsW : List (List UInt8) → List (List UInt8) → List Int
  | _, [] => []
  | pre, p :: r => totW (pre ++ [p]) :: endsW (pre ++ [p]) r
theorem totW_snoc (ps : List (List UInt8)) (p : List UInt8) : totW (ps ++ [p]) = wrap64 (totW ps + (p.length : Int)) := by
  rw [totW, List.foldl_append]
  rfl
theorem endsW_snoc : ∀ (ps pre : List (List UInt8)) (p : List UInt8), endsW pre (ps ++ [p]) = endsW pre ps ++ [totW (pre ++ ps ++ [p])]
  | [], pre, p => by simp [endsW]
  | q :: r, pre, p => by
    rw [List.cons_append, endsW, endsW_snoc r, endsW, List.cons_append]
    simp
theorem endsW_length : ∀ (ps pre : List (List UInt8)), (endsW pre ps).length = ps.length
  | [], _ => rfl
  | q :: r, pre => by rw [endsW, List.length_cons, endsW_length r, List.length_cons]
theorem totW_eq (ps : List (List UInt8)) (h : ps.flatten.length ≤ 50000) : totW ps = (ps.flatten.length : Int) := by
  have : ∀ (ps : List (List UInt8)) (t : Nat), t + ps.flatten.length ≤ 50000 → ps.foldl (fun t p => wrap64 (t + (p.length : Int))) (t : Int) = ((t + ps.flatten.length : Nat) : Int) := by
    intro ps
    induction ps with
    | nil => intro t _; simp
    | cons p r ih =>
      intro t ht
      rw [List.flatten_cons, List.length_append] at ht
      have e : wrap64 ((t : Int) + (p.length : Int)) = ((t + p.length : Nat) : Int) := by
        unfold wrap64
        omega
      rw [List.foldl_cons, e, ih _ (by omega), List.flatten_cons, List.length_append, Nat.add_assoc]
  have := this ps 0 (by omega)
  rw [Nat.zero_add] at this
  exact this
theorem endsW_eq : ∀ (ps pre : List (List UInt8)), (pre ++ ps).flatten.length ≤ 50000 → endsW pre ps = (endsFrom pre.flatten.length ps).map fun n => ((n : Nat) : Int)
  | [], _, _ => rfl
  | q :: r, pre, h => by
    have e : (pre ++ [q]).flatten.length = pre.flatten.length + q.length := by simp
    have h' : (pre ++ [q] ++ r).flatten.length ≤ 50000 := by simpa using h
    rw [endsW, endsFrom, List.map_cons, totW_eq _ (by simp at h' ⊢; omega), e, endsW_eq r _ h', e]
theorem own_base {w : World} {base : Nat} {e : TypeId} {size : Nat} {v : Value} {n : Nat} {xs : List Value} (h : w.ownsRow base e size v n xs) {j : Nat} (hj : v.ownBlock = some j) : base ≤ j := by
  obtain ⟨_, h⟩ := h
  rcases h with ⟨rfl, _⟩ | ⟨g, cap, cur, rfl, hg, _⟩
  · simp [Value.ownBlock] at hj
  · simp [Value.ownBlock] at hj; omega
theorem infoInt : (Try.prog.info? 3).map (fun i => (i.zero, i.size, i.bytes)) = some (some (.int .i64 0), 1, 8) := by kernel_rfl

set_option maxRecDepth 100000 in
set_option maxHeartbeats 4000000 in
theorem cuts_any (s : ByteArray) (hs : s.size ≤ 50000) (w : World) :
    Calls Try.prog 6 #[.string s] w fun e w' => ∃ v, e = .returned v ∧ w'.ownsRow w.heap.size 3 1 v (cuts s.data.toList).length ((cuts s.data.toList).map fun n => intV ((n : Nat) : Int)) ∧ Below w.heap.size w w' := by
  refine (callsIn_wide (n := 8)).1 ?_
  obtain ⟨i0, hi, hz0, hz1, hz2⟩ := info_parts infoInt
  refine callsIn_of_wp_marks Try.func6 rfl trivial ?_ rfl
  simp only [Try.ntmps6, List.size_toArray, List.length_cons, List.length_nil, Nat.reduceAdd, Nat.reduceSub, Array.replicate_succ, Array.replicate_zero, List.push_toArray, List.append_toArray, List.nil_append, List.cons_append]
  gi_wp2_with (refine ⟨trivial, ?_⟩; gi_at_call 12; refine (each_in _ s _).mono ?_; rintro e w' ⟨rfl, rfl⟩)
  have bO := ((Boxed.new w 23 (.slice none 0 0)).alloc (.cells #[intV 0] 3)).alloc (.cells #[.string s] 9)
  have bN := (Boxed.new (w.alloc (.cells #[.slice none 0 0] 23)) 3 (intV 0)).alloc (.cells #[.string s] 9)
  have bS := Boxed.new ((w.alloc (.cells #[.slice none 0 0] 23)).alloc (.cells #[intV 0] 3)) 9 (.string s)
  simp only [World.size_alloc] at bN bS
  have hB0 : Below w.heap.size w (((w.alloc (.cells #[.slice none 0 0] 23)).alloc (.cells #[intV 0] 3)).alloc (.cells #[.string s] 9)) := (((Below.refl _ w).alloc (Nat.le_refl _) _).alloc (by simp) _).alloc (by simp; omega) _
  have HS : Hid (s.data.toList.length = s.size) := by show _ = _; rw [Array.length_toList]; rfl
  refine wpIn_rangeFunc_ownG rfl (by omega) (gf := 14) (lb := #[.pointer (some ⟨w.heap.size + 1 + 1, 0, none⟩)]) rfl trivial (enters_of Try.func14 (by kernel_rfl) rfl)
    (each_stops _ (by omega) (w.heap.size + 1 + 1) s hs _ (by simp) bS.cell) (fun _ _ => trivial) (fun _ _ _ _ _ _ _ _ => trivial) (Below.refl _ _) (fun _ => rfl)
    (fun pre W => ((∃ v, Boxed W w.heap.size 23 v ∧ W.ownsRow (w.heap.size + 1 + 1) 3 1 v pre.length ((endsW [] pre).map intV) ∧ True) ∧ Boxed W (w.heap.size + 1) 3 (intV (totW pre))) ∧ (w.heap.size + 1 + 1 ≤ W.heap.size ∧ Below w.heap.size w W))
    (fun _ _ _ => False)
    (OwnFrom.and (OwnFrom.and (Own.from (holdsRow_own (w.heap.size + 1 + 1) w.heap.size 23 3 1 (fun pre : List (List UInt8) => pre.length) (fun pre => (endsW [] pre).map intV) (fun _ _ => True)) _) (Own.from (boxed_own _ _ _) _)) (OwnFrom.and (fun _ _ _ _ hs hg _ => Nat.le_trans hs hg.size) (ownFrom_below (Nat.le_refl _) (by simp; omega))))
    (fun _ _ _ _ _ hs _ _ => hs)
    ⟨⟨⟨_, bO, World.ownsRow_nil _ _ _ _, trivial⟩, bN⟩, by simp, hB0⟩
    (fun x => { tmps := #[.string s, undef, .slice none 0 0, .pointer (some ⟨w.heap.size, 0, none⟩), .pointer (some ⟨w.heap.size + 1, 0, none⟩), strW x, .string s, .func (.func 14) #[] #[.pointer (some ⟨w.heap.size + 1 + 1, 0, none⟩)], strW x, undef, undef, undef, undef, undef, undef, undef, undef, undef], defers := [] }) ?assign ?body ?done ?stop
  case assign =>
    intro l x W K hK
    gi_wp2
    exact hK
  case body =>
    rintro l pre x W ⟨⟨⟨v, hv, hrow, _⟩, hn⟩, hge, hB⟩ hlt
    have hc := hv.cell
    have hcn := hn.cell
    have hfn := hn.frozen
    have hlen : (pieces s.data.toList).length ≤ 50000 := Nat.le_trans (pieces_len_le _) (by rw [HS.out]; exact hs)
    have hpl : pre.length + 1 ≤ 50000 := by omega
    clear hlen hlt bO bN bS hB0
    have HT : Hid (totW (pre ++ [x]) = wrap64 (totW pre + (x.length : Int))) := totW_snoc pre x
    have hrow2 : (W.setCell ⟨w.heap.size + 1, 0, none⟩ (.int .i64 (wrap64 (totW pre + (x.length : Int))))).ownsRow (w.heap.size + 1 + 1) 3 1 v pre.length ((endsW [] pre).map intV) := ownsRow_setCell_below hrow (by simp) _
    have hv2 := hv.other (B' := w.heap.size + 1) (by omega) (.int .i64 (wrap64 (totW pre + (x.length : Int))))
    have hn2 := hn.set (.int .i64 (wrap64 (totW pre + (x.length : Int))))
    have hnew : ∀ j u, [intV (wrap64 (totW pre + (x.length : Int)))][j]? = some u → ((W.setCell ⟨w.heap.size + 1, 0, none⟩ (.int .i64 (wrap64 (totW pre + (x.length : Int))))).alloc (.cells #[.int .i64 (wrap64 (totW pre + (x.length : Int)))] 3)).cell? ((⟨W.heap.size, 0, none⟩ : Addr).add j) = some u := by
      have := cell_one_new (W.setCell ⟨w.heap.size + 1, 0, none⟩ (.int .i64 (wrap64 (totW pre + (x.length : Int))))) (.int .i64 (wrap64 (totW pre + (x.length : Int)))) 3
      rw [show (W.setCell ⟨w.heap.size + 1, 0, none⟩ (.int .i64 (wrap64 (totW pre + (x.length : Int))))).heap.size = W.heap.size by simp [World.setCell]] at this
      exact this
    have hsz : w.heap.size + 1 + 1 ≤ ((W.setCell ⟨w.heap.size + 1, 0, none⟩ (.int .i64 (wrap64 (totW pre + (x.length : Int))))).alloc (.cells #[.int .i64 (wrap64 (totW pre + (x.length : Int)))] 3)).heap.size := by simp [World.setCell]; omega
    have HROW : Hid ((W.setCell ⟨w.heap.size + 1, 0, none⟩ (.int .i64 (wrap64 (totW pre + (x.length : Int))))).ownsRow (w.heap.size + 1 + 1) 3 1 v pre.length ((endsW [] pre).map intV)) := hrow2
    have HNEW : Hid (∀ j u, [intV (wrap64 (totW pre + (x.length : Int)))][j]? = some u → ((W.setCell ⟨w.heap.size + 1, 0, none⟩ (.int .i64 (wrap64 (totW pre + (x.length : Int))))).alloc (.cells #[.int .i64 (wrap64 (totW pre + (x.length : Int)))] 3)).cell? ((⟨W.heap.size, 0, none⟩ : Addr).add j) = some u) := hnew
    have HSZ : Hid (w.heap.size + 1 + 1 ≤ ((W.setCell ⟨w.heap.size + 1, 0, none⟩ (.int .i64 (wrap64 (totW pre + (x.length : Int))))).alloc (.cells #[.int .i64 (wrap64 (totW pre + (x.length : Int)))] 3)).heap.size) := hsz
    clear hrow2 hnew hsz
    gi_wp2_with (gi_at_builtin; refine wpListIn_append_own _ rfl _ _ 23 rfl (w.heap.size + 1 + 1) 3 i0 (.int .i64 0) 1 8 Try.underlying23 hi hz0 hz1 hz2 rfl (by decide) v pre.length ((endsW [] pre).map intV) rfl (HROW.out.alloc _) ⟨W.heap.size, 0, none⟩ 1 1 [intV (wrap64 (totW pre + (x.length : Int)))] rfl rfl HNEW.out (by simp [Value.oneCell']) (by unfold maxLen; omega) (by omega) HSZ.out ?_; intro v' w1 hown' hgrow _; obtain ⟨g', cap', rfl⟩ := ownsRow_succ hown'; obtain ⟨hv3, hv4, _, hk4, hb4⟩ := hv2.appended (n₀ := w.heap.size) (by decide) (row_base HROW.out (by omega)) (by simp [World.setCell]; omega) (Nat.le_refl _) (row_base hown' (by omega)) hgrow; have hn3 := ((hn2.alloc _).kept hgrow (fun e => by have := own_base HROW.out e.symm; omega)).other (B' := w.heap.size) (by omega) (.slice (some ⟨g', 0, none⟩) (pre.length + 1) cap'); have hr4 := ownsRow_setCell_below hown' (a := ⟨w.heap.size, 0, none⟩) (by simp; omega) (.slice (some ⟨g', 0, none⟩) (pre.length + 1) cap'); have hc1 := hv3.cell; have hf1 := hv3.frozen)
    have hk5 := (KeepsOthers.setCell W ⟨w.heap.size + 1, 0, none⟩ (.int .i64 (wrap64 (totW pre + (x.length : Int))))).trans hk4
    refine ⟨hk5.from _, trivial, ⟨⟨_, hv4, ?_, trivial⟩, by rw [HT.out]; exact hn3⟩, Nat.le_trans hge hk5.size, (hB.setCell (p := ⟨w.heap.size + 1, 0, none⟩) (by simp) _).trans hb4⟩
    rw [endsW_snoc, List.nil_append, HT.out, List.map_append, List.length_append]
    exact hr4
  case done =>
    rintro D ys W hD rfl ⟨⟨⟨v, hv, hrow, _⟩, hn⟩, hge, hB⟩ hK
    have hc := hv.cell
    gi_wp2
    refine ⟨by simp, .inl ⟨_, _, rfl, run_takeDeferred hK, ?_⟩⟩
    have hfl : (pieces s.data.toList).flatten.length ≤ 50000 := by rw [pieces_flatten, HS.out]; exact hs
    have e : (endsW [] (pieces s.data.toList)).map intV = (cuts s.data.toList).map fun n => intV ((n : Nat) : Int) := by
      rw [endsW_eq _ [] (by simpa using hfl), List.map_map]; rfl
    rw [e] at hrow
    rw [cuts_length]
    exact ⟨_, results_tmp rfl _ _ _, v, rfl, row_base (ownsRow_putObj hrow _ hK rfl) (by omega), hB.trans (belowK_b (w := w) (Nat.le_refl _) W D _ _ (by simp at hD; omega) hK rfl rfl)⟩
  case stop =>
    rintro D c pre W _ _ h _
    exact h.elim
end Go.Proofs.Ytjbnehgpadajkaa
