/-
  Own text. The program's bin by contracts: Sweep, with its closure and maps.DeleteFunc.
  Own text. sort.Slice where 'less' may lay blocks: reverseRange_func, siftDown_func, heapSort_func.
-/
import Derived.Test.YtcbcjefefmbccaaDoorG09
import Derived.Test.YtcbcjefefmbccaaDoorG05
namespace Go.Proofs.YtcbcjefefmbccaaDoor
open Go.RowKit Go.Maps

/- A number that lies in a block of its own. -/
structure CntI (c : Nat) (s : Int) (w : World) : Prop where
  cell : w.cell? ⟨c, 0, none⟩ = some (.int .i64 s)
  free : w.frozen? ⟨c, 0, none⟩ = false
  lt : c < w.heap.size
theorem CntI.kept {c : Nat} {s : Int} {w w' : World} {row : Option Nat} (h : CntI c s w) (hg : w.grownBy w' row) (hr : some c ≠ row) : CntI c s w' :=
  ⟨(World.cell?_of_block (w := w) (hg.block c h.lt hr)).trans h.cell, (World.frozen?_of_block (w := w) (hg.block c h.lt hr)).trans h.free, Nat.lt_of_lt_of_le h.lt hg.size⟩
theorem CntI.set {c : Nat} {s : Int} {w : World} (h : CntI c s w) (t : Int) : CntI c t (w.setCell ⟨c, 0, none⟩ (.int .i64 t)) :=
  ⟨World.cell?_setCell_same _ _ _ h.cell, by simpa using h.free, by simpa [World.setCell] using h.lt⟩

set_option maxRecDepth 100000 in
set_option maxHeartbeats 4000000 in
theorem sweep1_any (G : Nat) (g : Int) (xp : Nat) (xl : Int) (u : Int) (t : List UInt8) (W : World) (hc : CntI G g W) (hw : IntKind.i64.wrap (g + xl) = g + xl) :
    Calls Tryd.prog 65 #[idV (xp : Nat) xl, pieceV (u, t), .pointer (some ⟨G, 0, none⟩)] W fun e w' => e = .returned (.bool (decide (u = 0))) ∧ CntI G (if u = 0 then g + xl else g) w' ∧ W.grownBy w' (some G) := by
  have hg1 := World.grownBy_alloc W (.cells #[.int .u32 (xp : Nat), .int .i64 xl] 37) none
  have hI := Blk.new W #[.int .u32 (xp : Nat), .int .i64 xl] 37
  have hc1 := hc.kept hg1 (by simp)
  have hGW : G ≠ W.heap.size := by have := hc.lt; omega
  go_enter Tryd.func65, Tryd.ntmps65
  generalize hW1 : W.alloc (.cells #[.int .u32 (xp : Nat), .int .i64 xl] 37) = W1 at *
  have hg2 := World.grownBy_alloc W1 (.cells #[.string ⟨t.toArray⟩, .int .i64 u] 114) none
  have hI2 := hI.next (below_of_grown hg2)
  have hP2 := Blk.new W1 #[.string ⟨t.toArray⟩, .int .i64 u] 114
  have hc2 := hc1.kept hg2 (by simp)
  have hgw := hg1.andThen hg2 (fun _ hj => by cases hj)
  have i1 := hI2.cell (i := 1) rfl
  have p1 := hP2.cell (i := 1) rfl
  have c0 := hc2.cell
  have f0 := hc2.free
  by_cases hu : u = 0
  · subst hu
    go_wp2_with fail
    go_ret
    exact ⟨rfl, hc2.set _, grown_set (hgw.but _) 0 _⟩
  · have hu' : (u != 0) = true := by simpa using hu
    go_wp2_with fail
    go_ret
    exact ⟨by simp, hc2, hgw.but _⟩

/- What is left of l while it is swept: those that are used, and those still to come. -/
def stay (l : List Hd) (left : Nat × Int → Bool) : List Hd := l.filter (fun h => left h.1 || !unused h)
def went (l : List Hd) (left : Nat × Int → Bool) : List Hd := (l.filter unused).filter (fun h => !left h.1)
theorem key_one {l : List Hd} (hap : l.Pairwise (fun p q => p.1 ≠ q.1)) {x y : Hd} (hx : x ∈ l) (hy : y ∈ l) (e : x.1 = y.1) : x = y := by
  induction l with
  | nil => cases hx
  | cons z s ih =>
    obtain ⟨hz, hs⟩ := List.pairwise_cons.1 hap
    rcases List.mem_cons.1 hx with rfl | hx' <;> rcases List.mem_cons.1 hy with rfl | hy'
    · rfl
    · exact absurd e (hz y hy')
    · exact absurd e.symm (hz x hx')
    · exact ih hs hx' hy'
theorem stay_used {l : List Hd} (hap : l.Pairwise (fun p q => p.1 ≠ q.1)) {left : Nat × Int → Bool} {h : Hd} (hm : h ∈ l) (hu : unused h = false) : stay l (fun y => left y && !decide (y = h.1)) = stay l left := by
  unfold stay
  refine List.filter_congr (fun y hy => ?_)
  by_cases e : y.1 = h.1
  · obtain rfl := key_one hap hy hm e
    simp [hu]
  · simp [e]
theorem went_used {l : List Hd} (hap : l.Pairwise (fun p q => p.1 ≠ q.1)) {left : Nat × Int → Bool} {h : Hd} (hm : h ∈ l) (hu : unused h = false) : went l (fun y => left y && !decide (y = h.1)) = went l left := by
  unfold went
  refine List.filter_congr (fun y hy => ?_)
  obtain ⟨hy1, hy2⟩ := List.mem_filter.1 hy
  by_cases e : y.1 = h.1
  · obtain rfl := key_one hap hy1 hm e
    rw [hu] at hy2
    cases hy2
  · simp [e]
theorem stay_gone {l : List Hd} (hap : l.Pairwise (fun p q => p.1 ≠ q.1)) {left : Nat × Int → Bool} {h : Hd} (hm : h ∈ l) (hu : unused h = true) : (stay l left).filter (fun y => !decide (y.1 = h.1)) = stay l (fun y => left y && !decide (y = h.1)) := by
  unfold stay
  rw [List.filter_filter]
  refine List.filter_congr (fun y hy => ?_)
  by_cases e : y.1 = h.1
  · obtain rfl := key_one hap hy hm e
    simp [hu]
  · simp [e]
theorem went_gone {l : List Hd} (hap : l.Pairwise (fun p q => p.1 ≠ q.1)) {left : Nat × Int → Bool} {h : Hd} (hm : h ∈ l) (hu : unused h = true) (hl : left h.1 = true) : (went l (fun y => left y && !decide (y = h.1))).Perm (h :: went l left) :=
  filter_flip (hap.filter _) (List.mem_filter.2 ⟨hm, hu⟩) hl
theorem stay_end {l : List Hd} {left : Nat × Int → Bool} (h0 : ∀ h ∈ stay l left, left h.1 = false) : stay l left = l.filter (fun h => !unused h) ∧ went l left = l.filter unused := by
  have hl : ∀ h ∈ l, left h.1 = false := fun h hm => by
    cases e : left h.1 with
    | false => rfl
    | true => rw [← e]; exact h0 h (List.mem_filter.2 ⟨hm, by simp [e]⟩)
  refine ⟨List.filter_congr (fun h hm => by simp [hl h hm]), ?_⟩
  exact List.filter_eq_self.2 (fun h hm => by simp [hl h (List.mem_filter.1 hm).1])
theorem went_bound {U : Int} {l : List Hd} (h : BinOk U l) (left : Nat × Int → Bool) : 0 ≤ hSize (went l left) ∧ hSize (went l left) ≤ 16000 := by
  unfold went
  rw [List.filter_filter]
  exact hSize_filter_bound h _

set_option maxRecDepth 100000 in
set_option maxHeartbeats 8000000 in
theorem deleteFunc_any (b G : Nat) (l : List Hd) (w : World) (hok : BinOk 1000000 l) (hM : idPieces.Of w b l) (hc : CntI G 0 w) (hbG : b ≠ G) :
    Calls Tryd.prog 64 #[.map (some b), .func (.func 65) #[] #[.pointer (some ⟨G, 0, none⟩)]] w fun e w' => e = .returned (.tuple #[]) ∧ idPieces.Of w' b (l.filter (fun h => !unused h)) ∧ CntI G (hSize (l.filter unused)) w' ∧ Off (fun k => k = b ∨ k = G) w w' := by
  have hap := hM.apart
  have hbl := hM.lt
  have hGl := hc.lt
  have HOK : Hid (BinOk 1000000 l) := hok
  clear hok
  go_enter Tryd.func64, Tryd.ntmps64
  go_wp2_with (first
    | (at_range; refine wp_range_kit idPieces _ rfl _ 109 rfl 114 Tryd.underlying109 b l rfl hM ?_; intro w0 hr0 hg0 hs0)
    | go_in)
  go_frame
  go_loopw [8] (fun _ wr => ∃ (left : Nat × Int → Bool) (cnt : Nat), idPieces.Rng wr b w.heap.size (stay l left) left cnt ∧ CntI G (hSize (went l left)) wr ∧ Off (fun k => k = b ∨ k = G) w wr) (fun _ wr => wr.rangeLeft b w.heap.size)
  case atStart =>
    have H : ∀ left : Nat × Int → Bool, (∀ h ∈ l, left h.1 = true) → idPieces.Rng w0 b w.heap.size l left l.length → ∃ (left : Nat × Int → Bool) (cnt : Nat), idPieces.Rng w0 b w.heap.size (stay l left) left cnt ∧ CntI G (hSize (went l left)) w0 ∧ Off (fun k => k = b ∨ k = G) w w0 := fun left hl hr => by
      have e1 : stay l left = l := List.filter_eq_self.2 (fun h hm => by simp [hl h hm])
      have e2 : went l left = [] := List.filter_eq_nil_iff.2 (fun h hm => by simp [hl h (List.mem_filter.1 hm).1])
      exact ⟨left, _, by rw [e1]; exact hr, by rw [e2]; exact hc.kept hg0 (by simp), Off.of_below (below_of_grown hg0)⟩
    exact H _ (fun h hm => by simp; exact ⟨_, _, hm⟩) hr0
  case round =>
    obtain ⟨left, cnt, hrg, hcn, hof⟩ := hrel
    go_wp2_with (first
      | (at_next; refine wp_next_kit idPieces _ rfl _ rfl b w.heap.size (stay l left) left cnt rfl hrg ?_ ?_)
      | go_in)
    · intro h0
      go_wp2_with fail
      go_end0
      obtain ⟨e1, e2⟩ := stay_end (l := l) (left := left) (fun h hm => h0 h.1.1 h.1.2 h.2.1 h.2.2 hm)
      exact ⟨rfl, by rw [← e1]; exact hrg.of, by rw [← e2]; exact hcn, hof⟩
    · intro xp xl u t w1 cnt1 hm hlx hrg1 hlt hg1 hs1 hen
      change (Instr.entry (.pointer (some ⟨w.heap.size, 0, none⟩))).run Tryd.prog w1 = .ok (.tuple #[idV (xp : Nat) xl, pieceV (u, t)]) w1 at hen
      have hml : ((xp, xl), u, t) ∈ l := (List.mem_filter.1 hm).1
      have hcn1 := hcn.kept hg1 (fun e => by have := Option.some.inj e; omega)
      have hof1 : Off (fun k => k = b ∨ k = G) w w1 := hof.trans (off_of_grown hg1 (F := fun k => k = w.heap.size) rfl) (fun i hi e => by omega)
      obtain ⟨n1, n2⟩ := went_bound HOK.out left
      obtain ⟨l1, l2⟩ := HOK.out.lens _ hml
      simp only at l1 l2
      have hwr : IntKind.i64.wrap (hSize (went l left) + xl) = hSize (went l left) + xl := by rw [IntKind.wrap_i64]; omega
      have hg2 := (World.grownBy_alloc w1 (.cells #[.int .u32 (xp : Nat), .int .i64 xl] 37) none).andThen (World.grownBy_alloc _ (.cells #[.string ⟨t.toArray⟩, .int .i64 u] 114) none) (fun _ hj => by cases hj)
      have hI := (Blk.new w1 #[.int .u32 (xp : Nat), .int .i64 xl] 37).next (below_of_grown (World.grownBy_alloc _ (.cells #[.string ⟨t.toArray⟩, .int .i64 u] 114) none))
      rw [hs1] at hI
      have hcn2 := hcn1.kept hg2 (by simp)
      have hrg2 := hrg1.kept hg2 (by simp) (by simp)
      have hof2 : Off (fun k => k = b ∨ k = G) w _ := hof1.trans (Off.of_below (F := fun _ => False) (below_of_grown hg2)) (fun _ _ h => h.elim)
      have hsw := sweep1_any G (hSize (went l left)) xp xl u t _ hcn2 hwr
      have hrl := hrg.lt
      have hGr : some w.heap.size ≠ some G := fun e => by have := Option.some.inj e; omega
      have hbr : some b ≠ some G := fun e => hbG (Option.some.inj e)
      have hIr : some wr.heap.size ≠ some G := fun e => by have := Option.some.inj e; have := hcn.lt; omega
      by_cases hu : u = 0
      · subst hu
        have huu : unused ((xp, xl), (0 : Int), t) = true := rfl
        rw [show decide ((0 : Int) = 0) = true from rfl, if_pos rfl] at hsw
        have e1 := stay_gone hap (left := left) hml huu
        have e2 := went_gone hap hml huu hlx
        have HE1 : Hid _ := e1
        have HE2 : Hid (hSize (went l (fun y => left y && !decide (y = (xp, xl)))) = hSize (went l left) + xl) := by
          show _ = _
          rw [hSize_perm e2, hSize_cons, Int.add_comm]
        clear e1 e2
        go_wp2_with (first
          | (go_at_call 65; refine hsw.mono ?_; rintro e w3 ⟨rfl, hcn3, hg3⟩; have hrg3 := hrg2.kept hg3 hbr hGr; have hI3 : Blk w3 wr.heap.size #[.int .u32 (xp : Nat), .int .i64 xl] 37 := (hg3.block _ hI.lt hIr).trans hI; have i0 := hI3.cell (i := 0) rfl; have i1 := hI3.cell (i := 1) rfl; have hof3 : Off (fun k => k = b ∨ k = G) w w3 := hof2.trans (off_of_grown hg3 (F := fun k => k = G) rfl) (fun _ _ e => .inr e))
          | (at_delete; refine wp_delete_kit idPieces _ rfl _ _ 109 rfl 114 Tryd.underlying109 b w.heap.size _ _ _ rfl hrg3 (xp, xl) (hM.wf _ hml) rfl ?_; intro w4 cnt4 hrg4 hle hturn; go_frame)
          | go_in)
        go_roundw
        case rel =>
          refine ⟨fun y => left y && !decide (y = (xp, xl)), cnt4, ?_, ?_, ?_⟩
          · rw [← HE1.out]
            have ef : (fun z : Nat × Int => (left z && !decide (z = (xp, xl))) && !decide (z = (xp, xl))) = fun z => left z && !decide (z = (xp, xl)) := by
              funext z
              cases left z <;> cases decide (z = (xp, xl)) <;> rfl
            rw [ef] at hrg4
            exact hrg4
          · rw [HE2.out]
            exact hcn3.kept hturn.grown (fun e => hbG (Option.some.inj e).symm)
          · exact hof3.trans (off_of_grown hturn.grown (F := fun k => k = b) rfl) (fun _ _ e => .inl e)
        case measure => rw [hrg4.left_eq, hrg.left_eq]; omega
      · have huu : unused ((xp, xl), u, t) = false := decide_eq_false hu
        rw [decide_eq_false hu, if_neg hu] at hsw
        have HE1 : Hid _ := stay_used hap (left := left) hml huu
        have HE2 : Hid _ := went_used hap (left := left) hml huu
        go_wp2_with (go_at_call 65; refine hsw.mono ?_; rintro e w3 ⟨rfl, hcn3, hg3⟩; have hrg3 := hrg2.kept hg3 hbr hGr; have hof3 : Off (fun k => k = b ∨ k = G) w w3 := hof2.trans (off_of_grown hg3 (F := fun k => k = G) rfl) (fun _ _ e => .inr e))
        go_roundw
        case rel => exact ⟨fun y => left y && !decide (y = (xp, xl)), cnt1, by rw [HE1.out]; exact hrg3, by rw [HE2.out]; exact hcn3, hof3⟩
        case measure => rw [hrg3.left_eq, hrg.left_eq]; omega

set_option maxRecDepth 100000 in
set_option maxHeartbeats 4000000 in
theorem pSweep_any (p : Addr) (F : Nat → Prop) (l : List Hd) (w : World) (hok : BinOk 1000000 l) (hP : PBin0 w p F l) :
    Calls Tryd.prog 29 #[.pointer (some p)] w fun e w' => ∃ F', e = .returned (.int .i64 (hSweep l).1) ∧ PBin0 w' p F' (hSweep l).2 ∧ (∀ k, F' k → F k ∨ w.heap.size ≤ k) ∧ Off F w w' := by
  obtain ⟨B, b, rfl, hB, hM, hne, rfl⟩ := hP
  have hBl := hB.lt
  have hbl := hM.lt
  have hal := (Below.refl w.heap.size w).alloc (Nat.le_refl _) (.cells #[.int .i64 0] 3)
  have hG := Blk.new w #[.int .i64 0] 3
  have hc : CntI w.heap.size 0 (w.alloc (.cells #[.int .i64 0] 3)) := ⟨hG.cell (i := 0) rfl, hG.frozen 0, hG.lt⟩
  have hB1 := hB.next hal
  have hM1 := of_below hM hal
  have q0 := hB1.cell (i := 0) rfl
  go_enter Tryd.func29, Tryd.ntmps29
  have hd := deleteFunc_any b w.heap.size l _ hok hM1 hc (by omega)
  go_wp2_with (go_at_call 64; go_loud (refine hd.mono ?_; rintro e w1 ⟨rfl, hM2, hc2, ho2⟩; have c2 := hc2.cell))
  go_ret
  have hB2 : Blk w1 B #[.map (some b)] 111 := ho2.blk hB1 (fun h => by rcases h with h | h <;> omega)
  exact ⟨_, rfl, ⟨B, b, rfl, hB2, hM2, hne, rfl⟩, fun k hk => .inl hk, (Off.of_below hal).trans ho2 (fun k hk h => by rcases h with h | h; exact .inr h; omega)⟩
end Go.Proofs.YtcbcjefefmbccaaDoor
namespace Go.Proofs.YtcbcjefefmbccaaDoor
open Go.Shelf Go.RowKit Go.Lib Go.Sort
variable {P : Program} {ρ : Ren} {α : Type} [Inhabited α] {lt : α → α → Bool} {g : Nat} {lb : Array Value} {sf : Nat} {sb : Array Value} {blk n n0 : Nat} {I : World → Array α → Prop}

set_option maxHeartbeats 2000000 in
set_option maxRecDepth 100000 in
theorem srt_reverse (L : LaysGg.n30 P ρ) (S : Srt P lt g lb sf sb blk n n0 I) (a b : Nat) (d : Array α) (w : World) (hI : I w d) (hab : a ≤ b) (hb : b ≤ n) (hsz : n < 4611686018427387904) :
    Calls P (ρ.f 30) #[.agg #[.func (.func g) #[] lb, .func (.func sf) #[] sb], .int .i64 a, .int .i64 b] w fun e w' => e = .returned (.tuple #[]) ∧ I w' (reverseRange d a b) ∧ w.grownBy w' (some blk) := by
  have mixed := L.mixed; have t0 := L.t0; have a0 := L.a0; have z0 := L.z0; have v0 := L.v0; have t3 := L.t3; have a3 := L.a3; have z3 := L.z3; have v3 := L.v3; have t4 := L.t4; have a4 := L.a4; have z4 := L.z4; have v4 := L.v4; have t26 := L.t26; have a26 := L.a26; have z26 := L.z26; have v26 := L.v26; have t37 := L.t37; have a37 := L.a37; have z37 := L.z37; have v37 := L.v37; have t44 := L.t44; have a44 := L.a44; have z44 := L.z44; have v44 := L.v44
  have u44 := run_underlying L.t44
  have hblk := S.blt hI
  have A0 : SrtAt I blk (w.alloc (.cells #[.func (.func g) #[] lb, .func (.func sf) #[] sb] (ρ.t 44))) (w.alloc (.cells #[.func (.func g) #[] lb, .func (.func sf) #[] sb] (ρ.t 44))) d := .start (S.keep hI (World.grownBy_alloc w _ none))
  go_enter L.f30, BodyGg.n30_ntmps ρ
  go_wp2
  go_loopg [6, 7] (b - a) (fun kx s6 s7 wr => ∃ (i jn : Nat) (jz : Int) (dk : Array α), s6 = .int .i64 i ∧ s7 = .int .i64 jz ∧ ((i : Int) < jz → jz = jn ∧ jn < n) ∧ (¬ (i : Int) < jz → ¬ i < jn) ∧ jn - i ≤ kx ∧ SrtAt I blk (w.alloc (.cells #[.func (.func g) #[] lb, .func (.func sf) #[] sb] (ρ.t 44))) wr dk ∧ Hid (reverseLoop i jn dk = reverseLoop a (b - 1) d))
  case atStart => exact ⟨a, b - 1, (b : Int) - 1, d, rfl, rfl, fun h => ⟨by omega, by omega⟩, fun h => by omega, by omega, A0, rfl⟩
  case round =>
    obtain ⟨i, jn, jz, dk, rfl, rfl, h1, h2, hkx, hA, HE⟩ := hrel
    by_cases hlt : (i : Int) < jz
    · obtain ⟨rfl, hjn⟩ := h1 hlt
      have hij : i < jn := by omega
      obtain ⟨_, c1⟩ := hA.box hblk
      obtain ⟨w2, hs, hI2, hg2⟩ := S.swap (i : Int) (jn : Int) i jn rfl rfl hA.inv (by omega) (by omega)
      clear h1 h2
      go_wp2
      go_roundg (jn - 1 - (i + 1))
      case measure => omega
      case rel =>
        have heq := HE.out
        rw [reverseLoop, if_pos hij] at heq
        exact ⟨i + 1, jn - 1, (jn : Int) - 1, swp dk i jn, by simp, rfl, fun h => ⟨by omega, by omega⟩, fun h => by omega, Nat.le_refl _, hA.turn hI2 hg2, heq⟩
    · have hnot := h2 hlt
      go_wp2
      go_end0
      have heq := HE.out
      rw [reverseLoop, if_neg hnot] at heq
      exact ⟨rfl, by rw [reverseRange, ← heq]; exact hA.inv, hA.off⟩

set_option maxHeartbeats 4000000 in
set_option maxRecDepth 1000000 in
theorem srt_sift (L : LaysGg.n34 P ρ) (S : Srt P lt g lb sf sb blk n n0 I) (lo hi first : Nat) (d : Array α) (w : World) (hI : I w d) (hlo : lo ≤ hi) (hb : first + hi ≤ n) (hsz : n < 4611686018427387904) :
    Calls P (ρ.f 34) #[.agg #[.func (.func g) #[] lb, .func (.func sf) #[] sb], .int .i64 lo, .int .i64 hi, .int .i64 first] w fun e w' => e = .returned (.tuple #[]) ∧ I w' (siftDown lt hi first lo d) ∧ w.grownBy w' (some blk) := by
  have mixed := L.mixed; have t0 := L.t0; have a0 := L.a0; have z0 := L.z0; have v0 := L.v0; have t3 := L.t3; have a3 := L.a3; have z3 := L.z3; have v3 := L.v3; have t4 := L.t4; have a4 := L.a4; have z4 := L.z4; have v4 := L.v4; have t26 := L.t26; have a26 := L.a26; have z26 := L.z26; have v26 := L.v26; have t37 := L.t37; have a37 := L.a37; have z37 := L.z37; have v37 := L.v37; have t44 := L.t44; have a44 := L.a44; have z44 := L.z44; have v44 := L.v44
  have u44 := run_underlying L.t44
  have eg := S.eg
  have hblk := S.blt hI
  have A0 : SrtAt I blk (w.alloc (.cells #[.func (.func g) #[] lb, .func (.func sf) #[] sb] (ρ.t 44))) (w.alloc (.cells #[.func (.func g) #[] lb, .func (.func sf) #[] sb] (ρ.t 44))) d := .start (S.keep hI (World.grownBy_alloc w _ none))
  go_enter L.f34, BodyGg.n34_ntmps ρ
  go_wp2
  go_loopg [8] (hi - lo) (fun kx s8 wr => ∃ (root : Nat) (dk : Array α), s8 = .int .i64 root ∧ root ≤ hi ∧ hi - root ≤ kx ∧ SrtAt I blk (w.alloc (.cells #[.func (.func g) #[] lb, .func (.func sf) #[] sb] (ρ.t 44))) wr dk ∧ Hid (siftDown lt hi first root dk = siftDown lt hi first lo d))
  case atStart => exact ⟨lo, d, rfl, hlo, Nat.le_refl _, A0, rfl⟩
  case round =>
    obtain ⟨root, dk, rfl, hr, hkx, hA, HE⟩ := hrel
    obtain ⟨c0, _⟩ := hA.box hblk
    by_cases h0 : hi ≤ 2 * root + 1
    · have h0z : (hi : Int) ≤ 2 * (root : Int) + 1 := by omega
      go_wp2
      go_end0
      exact ⟨rfl, by rw [← HE.out, sd_end lt dk h0]; exact hA.inv, hA.off⟩
    · have h0z : ¬ ((hi : Int) ≤ 2 * (root : Int) + 1) := by omega
      by_cases h1 : 2 * root + 2 < hi
      · have h1z : 2 * (root : Int) + 1 + 1 < (hi : Int) := by omega
        have hl1 := S.less ((first : Int) + (2 * (root : Int) + 1)) ((first : Int) + (2 * (root : Int) + 1) + 1) (first + (2 * root + 1)) (first + (2 * root + 2)) (by omega) (by omega) hA.inv (by omega) (by omega)
        cases hL : lt dk[first + (2 * root + 1)]! dk[first + (2 * root + 2)]! with
        | true =>
          rw [hL] at hl1
          have tok : True := trivial
          cases hG : lt dk[first + root]! dk[first + (2 * root + 2)]! with
          | true =>
            go_wp2_with (first
              | (go_at_fn g; have _t := tok; refine hl1.mono ?_; rintro e w1 ⟨rfl, hg1⟩; clear tok; have hA1 := hA.grow S hg1; obtain ⟨c01, _⟩ := hA1.box hblk; have hl2 := S.less ((first : Int) + (root : Int)) ((first : Int) + (2 * (root : Int) + 1 + 1)) (first + root) (first + (2 * root + 2)) (by omega) (by omega) hA1.inv (by omega) (by omega); rw [hG] at hl2)
              | (go_at_fn g; refine hl2.mono ?_; rintro e w2 ⟨rfl, hg2⟩; have hA2 := hA1.grow S hg2; obtain ⟨_, c12⟩ := hA2.box hblk; obtain ⟨w3, hs, hI3, hg3⟩ := S.swap ((first : Int) + (root : Int)) ((first : Int) + (2 * (root : Int) + 1 + 1)) (first + root) (first + (2 * root + 2)) (by omega) (by omega) hA2.inv (by omega) (by omega)))
            go_roundg (hi - (2 * root + 2))
            case measure => omega
            case rel => exact ⟨2 * root + 2, swp dk (first + root) (first + (2 * root + 2)), by go_num, by omega, Nat.le_refl _, hA2.turn hI3 hg3, (show Hid _ from by rw [← HE.out, sd_right_go lt dk h1 hL hG]; exact rfl)⟩
          | false =>
            go_wp2_with (first
              | (go_at_fn g; have _t := tok; refine hl1.mono ?_; rintro e w1 ⟨rfl, hg1⟩; clear tok; have hA1 := hA.grow S hg1; obtain ⟨c01, _⟩ := hA1.box hblk; have hl2 := S.less ((first : Int) + (root : Int)) ((first : Int) + (2 * (root : Int) + 1 + 1)) (first + root) (first + (2 * root + 2)) (by omega) (by omega) hA1.inv (by omega) (by omega); rw [hG] at hl2)
              | (go_at_fn g; refine hl2.mono ?_; rintro e w2 ⟨rfl, hg2⟩; have hA2 := hA1.grow S hg2))
            (try simp only [Exit.inBlock, Exit.then]); refine bodyPost_ret (results_none rfl _ _ _) rfl ?_
            exact ⟨rfl, by rw [← HE.out, sd_right_stop lt dk h1 hL hG]; exact hA2.inv, hA2.off⟩
        | false =>
          rw [hL] at hl1
          have tok : True := trivial
          cases hG : lt dk[first + root]! dk[first + (2 * root + 1)]! with
          | true =>
            go_wp2_with (first
              | (go_at_fn g; have _t := tok; refine hl1.mono ?_; rintro e w1 ⟨rfl, hg1⟩; clear tok; have hA1 := hA.grow S hg1; obtain ⟨c01, _⟩ := hA1.box hblk; have hl2 := S.less ((first : Int) + (root : Int)) ((first : Int) + (2 * (root : Int) + 1)) (first + root) (first + (2 * root + 1)) (by omega) (by omega) hA1.inv (by omega) (by omega); rw [hG] at hl2)
              | (go_at_fn g; refine hl2.mono ?_; rintro e w2 ⟨rfl, hg2⟩; have hA2 := hA1.grow S hg2; obtain ⟨_, c12⟩ := hA2.box hblk; obtain ⟨w3, hs, hI3, hg3⟩ := S.swap ((first : Int) + (root : Int)) ((first : Int) + (2 * (root : Int) + 1)) (first + root) (first + (2 * root + 1)) (by omega) (by omega) hA2.inv (by omega) (by omega)))
            go_roundg (hi - (2 * root + 1))
            case measure => omega
            case rel => exact ⟨2 * root + 1, swp dk (first + root) (first + (2 * root + 1)), by go_num, by omega, Nat.le_refl _, hA2.turn hI3 hg3, (show Hid _ from by rw [← HE.out, sd_left_go lt dk (by omega) (fun _ => hL) hG]; exact rfl)⟩
          | false =>
            go_wp2_with (first
              | (go_at_fn g; have _t := tok; refine hl1.mono ?_; rintro e w1 ⟨rfl, hg1⟩; clear tok; have hA1 := hA.grow S hg1; obtain ⟨c01, _⟩ := hA1.box hblk; have hl2 := S.less ((first : Int) + (root : Int)) ((first : Int) + (2 * (root : Int) + 1)) (first + root) (first + (2 * root + 1)) (by omega) (by omega) hA1.inv (by omega) (by omega); rw [hG] at hl2)
              | (go_at_fn g; refine hl2.mono ?_; rintro e w2 ⟨rfl, hg2⟩; have hA2 := hA1.grow S hg2))
            (try simp only [Exit.inBlock, Exit.then]); refine bodyPost_ret (results_none rfl _ _ _) rfl ?_
            exact ⟨rfl, by rw [← HE.out, sd_left_stop lt dk (by omega) (fun _ => hL) hG]; exact hA2.inv, hA2.off⟩
      · have h1z : ¬ (2 * (root : Int) + 1 + 1 < (hi : Int)) := by omega
        have hl2 := S.less ((first : Int) + (root : Int)) ((first : Int) + (2 * (root : Int) + 1)) (first + root) (first + (2 * root + 1)) (by omega) (by omega) hA.inv (by omega) (by omega)
        cases hG : lt dk[first + root]! dk[first + (2 * root + 1)]! with
        | true =>
          rw [hG] at hl2
          go_wp2_with (go_at_fn g; refine hl2.mono ?_; rintro e w2 ⟨rfl, hg2⟩; have hA2 := hA.grow S hg2; obtain ⟨_, c12⟩ := hA2.box hblk; obtain ⟨w3, hs, hI3, hg3⟩ := S.swap ((first : Int) + (root : Int)) ((first : Int) + (2 * (root : Int) + 1)) (first + root) (first + (2 * root + 1)) (by omega) (by omega) hA2.inv (by omega) (by omega))
          go_roundg (hi - (2 * root + 1))
          case measure => omega
          case rel => exact ⟨2 * root + 1, swp dk (first + root) (first + (2 * root + 1)), by go_num, by omega, Nat.le_refl _, hA2.turn hI3 hg3, (show Hid _ from by rw [← HE.out, sd_left_go lt dk (by omega) (fun h => absurd h h1) hG]; exact rfl)⟩
        | false =>
          rw [hG] at hl2
          go_wp2_with (go_at_fn g; refine hl2.mono ?_; rintro e w2 ⟨rfl, hg2⟩; have hA2 := hA.grow S hg2)
          (try simp only [Exit.inBlock, Exit.then]); refine bodyPost_ret (results_none rfl _ _ _) rfl ?_
          exact ⟨rfl, by rw [← HE.out, sd_left_stop lt dk (by omega) (fun h => absurd h h1) hG]; exact hA2.inv, hA2.off⟩

set_option maxHeartbeats 4000000 in
set_option maxRecDepth 1000000 in
theorem srt_heap (L : LaysGg.n27 P ρ) (S : Srt P lt g lb sf sb blk n n0 I) (a b : Nat) (d : Array α) (w : World) (hI : I w d) (hab : a ≤ b) (hb : b ≤ n) (hsz : n < 4611686018427387904) :
    Calls P (ρ.f 27) #[.agg #[.func (.func g) #[] lb, .func (.func sf) #[] sb], .int .i64 a, .int .i64 b] w fun e w' => e = .returned (.tuple #[]) ∧ I w' (heapSort lt d a b) ∧ w.grownBy w' (some blk) := by
  have mixed := L.mixed; have t0 := L.t0; have a0 := L.a0; have z0 := L.z0; have v0 := L.v0; have t3 := L.t3; have a3 := L.a3; have z3 := L.z3; have v3 := L.v3; have t4 := L.t4; have a4 := L.a4; have z4 := L.z4; have v4 := L.v4; have t26 := L.t26; have a26 := L.a26; have z26 := L.z26; have v26 := L.v26; have t37 := L.t37; have a37 := L.a37; have z37 := L.z37; have v37 := L.v37; have t44 := L.t44; have a44 := L.a44; have z44 := L.z44; have v44 := L.v44
  have u44 := run_underlying L.t44
  have e34 : ∀ args w, (callFunc (ρ.f 34) args).run P w = .ok (.enter (ρ.f 34) args) w := enters_of L.f34 (by kernel_rfl) rfl
  have ecast : ((b - a : Nat) : Int) = (b : Int) - (a : Int) := by omega
  have hblk := S.blt hI
  have A0 : SrtAt I blk (w.alloc (.cells #[.func (.func g) #[] lb, .func (.func sf) #[] sb] (ρ.t 44))) (w.alloc (.cells #[.func (.func g) #[] lb, .func (.func sf) #[] sb] (ρ.t 44))) d := .start (S.keep hI (World.grownBy_alloc w _ none))
  go_enter L.f27, BodyGg.n27_ntmps ρ
  go_wp2
  go_loopg [9] ((b - a - 1) / 2 + 1) (fun kx s9 wr => s9 = .int .i64 ((kx : Int) - 1) ∧ kx ≤ (b - a - 1) / 2 + 1 ∧ ∃ (dk : Array α), SrtAt I blk (w.alloc (.cells #[.func (.func g) #[] lb, .func (.func sf) #[] sb] (ρ.t 44))) wr dk ∧ Hid (heapBuild lt (b - a) a kx dk = heapBuild lt (b - a) a ((b - a - 1) / 2 + 1) d))
  case atStart => exact ⟨by rw [half_start hab], Nat.le_refl _, d, A0, rfl⟩
  case round =>
    obtain ⟨rfl, hkk, dk, hA, HE⟩ := hrel
    obtain ⟨c0, c1⟩ := hA.box hblk
    cases gk with
    | zero =>
      have hB : Hid (dk = heapBuild lt (b - a) a ((b - a - 1) / 2 + 1) d) := HE.out
      clear HE hkk
      go_wp2
      go_loopg [10] (b - a) (fun kx s10 wr2 => s10 = .int .i64 ((kx : Int) - 1) ∧ kx ≤ b - a ∧ ∃ (dj : Array α), SrtAt I blk (w.alloc (.cells #[.func (.func g) #[] lb, .func (.func sf) #[] sb] (ρ.t 44))) wr2 dj ∧ Hid (heapPop lt a kx dj = heapPop lt a (b - a) dk))
      case atStart => exact ⟨by rw [ecast], Nat.le_refl _, dk, hA, rfl⟩
      case round =>
        clear hA c0 c1
        obtain ⟨rfl, hkk, dj, hA, HE2⟩ := hrel
        obtain ⟨c0, c1⟩ := hA.box hblk
        cases gk with
        | zero =>
          go_wp2
          go_end0
          have e : dj = heapSort lt d a b := by rw [heapSort, ← hB.out, ← HE2.out]; rfl
          rw [← e]
          exact ⟨rfl, hA.inv, hA.off⟩
        | succ kx =>
          obtain ⟨w2, hs, hI2, hg2⟩ := S.swap (a : Int) ((a : Int) + (kx : Int)) a (a + kx) rfl (by omega) hA.inv (by omega) (by omega)
          have hA2 := hA.turn hI2 hg2
          obtain ⟨c02, c12⟩ := hA2.box hblk
          have hcall := srt_sift (ρ := ρ) { L with } S 0 kx a (swp dj a (a + kx)) w2 hI2 (Nat.zero_le _) (by omega) hsz
          go_wp2_with (go_at_fn (ρ.f 34); refine hcall.mono ?_; rintro e w3 ⟨rfl, hI3, hg3⟩)
          go_roundg kx
          case measure => omega
          case rel => exact ⟨by simp, by omega, siftDown lt kx a 0 (swp dj a (a + kx)), hA2.turn hI3 hg3, HE2⟩
    | succ kx =>
      have hcall := srt_sift (ρ := ρ) { L with } S kx (b - a) a dk wr hA.inv (by omega) (by omega) hsz
      rw [ecast] at hcall
      go_wp2_with (go_at_fn (ρ.f 34); refine hcall.mono ?_; rintro e w3 ⟨rfl, hI3, hg3⟩)
      go_roundg kx
      case measure => omega
      case rel => exact ⟨by simp, by omega, siftDown lt (b - a) a kx dk, hA.turn hI3 hg3, HE⟩
end Go.Proofs.YtcbcjefefmbccaaDoor
