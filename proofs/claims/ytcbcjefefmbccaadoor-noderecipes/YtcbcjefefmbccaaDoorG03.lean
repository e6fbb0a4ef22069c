/-
  Own text. Maps in memory as association lists, up to their order: a kit of a map's key and element shapes (MapKit), block b is a map that holds just l (MapKit.Of), a range over it under way (MapKit.Rng); look-up, store, len, range, next, delete.
  Own text. Plain mathematics of prints: the sum by bytes, its parts, that one other byte makes another sum; hex digits and decimal digits, written and read. No program in it.
  Own text. Sums and IDs by contracts: print.More, Of, ID, Less and the document's PrintFrom, PrintOf, IDOf, IsLess.
-/
import Derived.Maps.Ext
import Derived.Maps.RangeWalk
import Derived.Maps.OwnSet
import Derived.Lib.ItoaNum
import Derived.Test.YtcbcjefefmbccaaDoorChecked
import Derived.WalkKit
import Derived.WalkSpells
import Derived.WalkLawsBesides
import Derived.Outline
import Derived.Laws.BitsAllLaws
import Derived.Deep.QuietTactic
import Derived.BigQuiet
namespace Go.Proofs.YtcbcjefefmbccaaDoor
open Go.RowKit Go.Maps

structure MapKit (P : Program) (k : TypeId) (κ β : Type) where
  mkK : κ → Value
  wf : κ → Prop
  mkV : β → Value
  unV : Value → Option β
  K : Keyed P k
  key : ∀ x, wf x → ∃ kl, keyOf P k (mkK x) = some kl
  inv : ∀ v kl, keyOf P k v = some kl → ∃ x, wf x ∧ v = mkK x
  inj : ∀ x y, mkK x = mkK y → x = y
  un : ∀ c, unV (mkV c) = some c
  back : ∀ v c, unV v = some c → v = mkV c

variable {P : Program} {k : TypeId} {κ β : Type} (M : MapKit P k κ β)
def MapKit.kl (x : κ) : Lit := (keyOf P k (M.mkK x)).getD (.bool false)
def MapKit.R (v : Value) : Option (DataW Value × List MemPlace) := (M.unV v).map (fun _ => (.held v, []))
def MapKit.ent (h : κ × β) : Lit × DataW Value := (M.kl h.1, .held (M.mkV h.2))
theorem MapKit.key_kl {x : κ} (h : M.wf x) : keyOf P k (M.mkK x) = some (M.kl x) := by
  obtain ⟨kl, e⟩ := M.key x h
  unfold MapKit.kl
  rw [e]
  rfl
theorem MapKit.kl_inj {x y : κ} (hx : M.wf x) (hy : M.wf y) (e : M.kl x = M.kl y) : x = y := M.inj _ _ (M.K.inj (M.key_kl hx) (e ▸ M.key_kl hy))
theorem MapKit.isKey {x : κ} (h : M.wf x) : WideAt.IsKeyLit (M.kl x) := M.K.key (M.key_kl h)
theorem MapKit.same [DecidableEq κ] {x y : κ} (hx : M.wf x) (hy : M.wf y) : (M.kl x).sameKey (M.kl y) = decide (x = y) := by
  by_cases e : x = y
  · subst e
    rw [WideAt.sameKey_self (M.isKey hx)]
    simp
  · rw [Maps.sameKey_ne (fun h => e (M.kl_inj hx hy h))]
    simp [e]
theorem MapKit.R_mk (c : β) : M.R (M.mkV c) = some (.held (M.mkV c), []) := by
  unfold MapKit.R
  rw [M.un]
  rfl
theorem MapKit.R_inv {v : Value} {y : DataW Value × List MemPlace} (h : M.R v = some y) : ∃ c, v = M.mkV c ∧ y = (.held v, []) := by
  unfold MapKit.R at h
  cases hu : M.unV v with
  | none => rw [hu] at h; cases h
  | some c => rw [hu] at h; cases h; exact ⟨c, M.back v c hu, rfl⟩

/- Block b is a map that holds just l. -/
structure MapKit.Of (w : World) (b : Nat) (l : List (κ × β)) : Prop where
  own : ∃ ds, w.ownsMap P k M.R b ds.length (.map ds) ∧ ds.Perm (l.map M.ent)
  wf : ∀ h ∈ l, M.wf h.1
theorem ownsMap_tight {w : World} {b n : Nat} {R : Value → Option (DataW Value × List MemPlace)} {ds : List (Lit × DataW Value)} (h : w.ownsMap P k R b n (.map ds)) : w.ownsMap P k R b ds.length (.map ds) := by
  obtain ⟨es, clock, hb, F, _, hD⟩ := h
  have e : ds = (es.toList.map (WideElems.rg P k R)).foldr DataW.insert [] := DataW.map.inj hD
  exact ⟨es, clock, hb, F, by rw [e, length_sorted]; simp, hD⟩
variable {M} {w w' : World} {b r : Nat} {l l' : List (κ × β)}
theorem MapKit.Of.lt (h : M.Of w b l) : b < w.heap.size := by
  obtain ⟨ds, ho, _⟩ := h.own
  exact ho.lt
theorem MapKit.Of.made (M : MapKit P k κ β) (w : World) : M.Of (w.alloc (.map #[] 0)) w.heap.size [] := ⟨⟨[], World.ownsMap_made w P k M.R, List.Perm.refl _⟩, fun h hm => by simp at hm⟩
theorem MapKit.Of.kept {row : Option Nat} (h : M.Of w b l) (hg : w.grownBy w' row) (hr : some b ≠ row) : M.Of w' b l := by
  obtain ⟨ds, ho, hp⟩ := h.own
  exact ⟨⟨ds, ho.kept hg hr, hp⟩, h.wf⟩
theorem MapKit.Of.perm (h : M.Of w b l) (hp : l.Perm l') : M.Of w b l' := by
  obtain ⟨ds, ho, hd⟩ := h.own
  exact ⟨⟨ds, ho, hd.trans (hp.map _)⟩, fun x hx => h.wf x (hp.mem_iff.2 hx)⟩
/- w' holds at b what w held there. -/
theorem MapKit.Of.moved {b' : Nat} (h : M.Of w b l) (e : w'.heap[b']? = w.heap[b]?) : M.Of w' b' l := by
  obtain ⟨ds, ⟨es, clock, hb, F, hs, hD⟩, hp⟩ := h.own
  exact ⟨⟨ds, ⟨es, clock, e.trans hb, F, hs, hD⟩, hp⟩, h.wf⟩
theorem MapKit.Of.isMap (h : M.Of w b l) : ∃ es clock, w.heap[b]? = some (.map es clock) := by
  obtain ⟨ds, ⟨es, clock, hb, _⟩, _⟩ := h.own
  exact ⟨es, clock, hb⟩
theorem ents_apart {ds : List (Lit × DataW Value)} (hap : ds.Pairwise (fun p q => p.1 ≠ q.1)) (hp : ds.Perm (l.map M.ent)) : l.Pairwise (fun p q => p.1 ≠ q.1) := by
  have h1 : (l.map M.ent).Pairwise (fun p q => p.1 ≠ q.1) := (hp.pairwise_iff (fun {_ _} hne => Ne.symm hne)).1 hap
  rw [List.pairwise_map] at h1
  exact h1.imp (fun hne e => hne (by unfold MapKit.ent; simp only; rw [e]))
theorem MapKit.Of.apart (h : M.Of w b l) : l.Pairwise (fun p q => p.1 ≠ q.1) := by
  obtain ⟨ds, ho, hp⟩ := h.own
  obtain ⟨es, e, hap, _⟩ := ho.entries M.K
  cases e
  exact ents_apart hap hp
theorem MapKit.Of.len {t e : TypeId} (h : M.Of w b l) (ht : P.underlying t = some (.map k e)) (ty : TypeId) : (Builtin.len_ #[t] ty #[.map (some b)]).run P w = .ok (.int .i64 l.length) w := by
  obtain ⟨ds, ho, hp⟩ := h.own
  have := ho.len ht ty
  rw [this]
  show Result.ok (Value.int .i64 (ds.length : Nat)) w = _
  rw [hp.length_eq, List.length_map]
theorem MapKit.Of.look_none {t e : TypeId} {c0 : β} (h : M.Of w b l) (ht : P.underlying t = some (.map k e)) (hz : (zeroValue e).run P w = .ok (M.mkV c0) w) {x : κ} (hx : M.wf x) (hn : ∀ h ∈ l, h.1 ≠ x) :
    (Instr.lookup t (.map (some b)) (M.mkK x) true).run P w = .ok (.tuple #[M.mkV c0, .bool false]) w := by
  obtain ⟨ds, ho, hp⟩ := h.own
  have hno : ∀ p ∈ ds, p.1 ≠ M.kl x := fun p hm e => by
    obtain ⟨y, hy, rfl⟩ := List.mem_map.1 (hp.mem_iff.1 hm)
    exact hn y hy (M.kl_inj (h.wf y hy) hx e)
  obtain ⟨v, ps, hrun, hv⟩ := ho.look_ok M.K ht hz (M.R_mk c0) (M.key_kl hx)
  rw [WideAt.atKey_none _ hno] at hv
  obtain ⟨c, rfl, e⟩ := M.R_inv hv
  have ev : M.mkV c0 = M.mkV c := DataW.held.inj (Prod.mk.inj e).1
  rw [hrun, Maps.has_false_of_atKey (fun z => WideAt.atKey_none z hno), ev]
theorem MapKit.Of.look_some {t e : TypeId} {c0 : β} (h : M.Of w b l) (ht : P.underlying t = some (.map k e)) (hz : (zeroValue e).run P w = .ok (M.mkV c0) w) {x : κ} {c : β} (hm : (x, c) ∈ l) :
    (Instr.lookup t (.map (some b)) (M.mkK x) true).run P w = .ok (.tuple #[M.mkV c, .bool true]) w := by
  have hx : M.wf x := h.wf _ hm
  obtain ⟨ds, ho, hp⟩ := h.own
  obtain ⟨es, e, hap, _⟩ := ho.entries M.K
  cases e
  have hd : (M.kl x, DataW.held (M.mkV c)) ∈ ds := hp.mem_iff.2 (List.mem_map.2 ⟨_, hm, rfl⟩)
  have hat : ∀ z, (DataW.map ds).atKey (M.kl x) z = .held (M.mkV c) := fun z => WideAt.atKey_mem z (M.isKey hx) hap hd
  obtain ⟨v, ps, hrun, hv⟩ := ho.look_ok M.K ht hz (M.R_mk c0) (M.key_kl hx)
  rw [hat] at hv
  obtain ⟨c', rfl, e⟩ := M.R_inv hv
  have ev : M.mkV c = M.mkV c' := DataW.held.inj (Prod.mk.inj e).1
  rw [hrun, Maps.has_true_of_atKey hat, ev]
/- What a key's entry leaves. -/
theorem filter_ents [DecidableEq κ] {x : κ} (hx : M.wf x) : ∀ (l : List (κ × β)), (∀ h ∈ l, M.wf h.1) → (l.map M.ent).filter (ChangeMaps.notKey (M.kl x)) = (l.filter (fun h => !decide (h.1 = x))).map M.ent
  | [], _ => rfl
  | y :: r, hw => by
    have ih := filter_ents hx r (fun h hm => hw h (List.mem_cons_of_mem _ hm))
    have e : ChangeMaps.notKey (M.kl x) (M.ent y) = !decide (y.1 = x) := by
      unfold ChangeMaps.notKey MapKit.ent
      simp only
      rw [M.same (hw y (List.mem_cons_self ..)) hx]
    rw [List.map_cons, List.filter_cons, List.filter_cons, e, ih]
    by_cases h : y.1 = x <;> simp [h]
theorem insert_perm (x : Lit × DataW Value) : ∀ (l : List (Lit × DataW Value)), (DataW.insert x l).Perm (x :: l)
  | [] => List.Perm.refl _
  | y :: r => by
    unfold DataW.insert
    split
    · exact List.Perm.refl _
    · exact ((insert_perm x r).cons y).trans (List.Perm.swap x y r)
theorem MapKit.Of.store [DecidableEq κ] {t e : TypeId} (h : M.Of w b l) (ht : P.underlying t = some (.map k e)) {x : κ} (hx : M.wf x) (c : β) (hl : l.length < maxLen) :
    ∃ w', (Instr.mapUpdate t (.map (some b)) (M.mkK x) (M.mkV c)).run P w = .ok () w' ∧ (∀ l', ((x, c) :: l.filter (fun h => !decide (h.1 = x))).Perm l' → M.Of w' b l') ∧ w.grownBy w' (some b) := by
  obtain ⟨ds, ho, hp⟩ := h.own
  have hlen : ds.length = l.length := by rw [hp.length_eq, List.length_map]
  obtain ⟨w', hrun, ho', hg⟩ := ho.update M.K ht (by omega) (M.key_kl hx) (M.R_mk c)
  refine ⟨w', hrun, fun l' hl' => ⟨⟨_, ownsMap_tight ho', ?_⟩, fun y hy => ?_⟩, hg⟩
  · refine (insert_perm _ _).trans ?_
    refine List.Perm.trans ?_ (hl'.map M.ent)
    rw [List.map_cons, ← filter_ents hx l h.wf]
    exact (hp.filter _).cons _
  · rcases List.mem_cons.1 (hl'.mem_iff.2 hy) with rfl | hy
    · exact hx
    · exact h.wf y (List.mem_filter.1 hy).1

/- A range over a map under way: 'left x': is the entry at x still to come? -/
structure MapKit.Rng (M : MapKit P k κ β) (w : World) (b r : Nat) (l : List (κ × β)) (left : κ → Bool) (cnt : Nat) : Prop where
  at' : ∃ ds n lf, w.ranges P k M.R b r n (.map ds) lf cnt ∧ ds.Perm (l.map M.ent) ∧ ∀ x, M.wf x → lf (M.kl x) = left x
  wf : ∀ h ∈ l, M.wf h.1
theorem MapKit.Rng.of {left : κ → Bool} {cnt : Nat} (h : M.Rng w b r l left cnt) : M.Of w b l := by
  obtain ⟨ds, n, lf, hr, hp, _⟩ := h.at'
  exact ⟨⟨ds, ownsMap_tight hr.owns, hp⟩, h.wf⟩
theorem MapKit.Rng.kept {left : κ → Bool} {cnt : Nat} {row : Option Nat} (h : M.Rng w b r l left cnt) (hg : w.grownBy w' row) (hb : some b ≠ row) (hr : some r ≠ row) : M.Rng w' b r l left cnt := by
  obtain ⟨ds, n, lf, h1, hp, hl⟩ := h.at'
  exact ⟨⟨ds, n, lf, h1.kept hg hb hr, hp, hl⟩, h.wf⟩
theorem MapKit.Rng.lt {left : κ → Bool} {cnt : Nat} (h : M.Rng w b r l left cnt) : r < w.heap.size := by
  obtain ⟨ds, n, lf, h1, _⟩ := h.at'
  exact h1.lt
theorem MapKit.Rng.ne {left : κ → Bool} {cnt : Nat} (h : M.Rng w b r l left cnt) : r ≠ b := by
  obtain ⟨ds, n, lf, h1, _⟩ := h.at'
  exact h1.ne
theorem MapKit.Rng.left_eq {left : κ → Bool} {cnt : Nat} (h : M.Rng w b r l left cnt) : w.rangeLeft b r = cnt := by
  obtain ⟨ds, n, lf, h1, _⟩ := h.at'
  exact h1.left_eq
theorem MapKit.Rng.perm {left : κ → Bool} {cnt : Nat} (h : M.Rng w b r l left cnt) (hp : l.Perm l') : M.Rng w b r l' left cnt := by
  obtain ⟨ds, n, lf, h1, hd, hl⟩ := h.at'
  exact ⟨⟨ds, n, lf, h1, hd.trans (hp.map _), hl⟩, fun x hx => h.wf x (hp.mem_iff.2 hx)⟩

section
variable {ops : Array Oper} {rest : List Oper} {o : Oper} {a : Act} {Q : Exit → Act → World → Prop}
theorem wp_range_kit [DecidableEq κ] (M : MapKit P k κ β) (w : World) (hg : o.guard = none) (m : Operand) (t : TypeId) (hop : o.op = Op.range t m) (e : TypeId) (ht : P.underlying t = some (.map k e)) (b : Nat) (l : List (κ × β)) (hm : a.eval m = .map (some b)) (h : M.Of w b l)
    (hK : ∀ w', M.Rng w' b w.heap.size l (fun x => decide (x ∈ l.map (·.1))) l.length → w.grownBy w' none → w'.heap.size = w.heap.size + 1 → wpList P ops Q rest (a.put o.dst (.pointer (some ⟨w.heap.size, 0, none⟩))) w') :
    wpList P ops Q (o :: rest) a w := by
  obtain ⟨ds, ho, hp⟩ := h.own
  refine wpList_range_own w hg m t hop k e M.K ht M.R b ds.length (.map ds) hm ho fun w' hr hgr hs => hK w' ⟨⟨ds, ds.length, Maps.has (DataW.map ds), ?_, hp, fun x hx => ?_⟩, h.wf⟩ hgr hs
  · have e : Maps.size (DataW.map ds) = l.length := by show ds.length = _; rw [hp.length_eq, List.length_map]
    rw [← e]
    exact hr
  · rw [Bool.eq_iff_iff, Maps.has_eq, List.any_eq_true, decide_eq_true_eq]
    constructor
    · rintro ⟨p, hm, hs⟩
      obtain ⟨y, hy, rfl⟩ := List.mem_map.1 (hp.mem_iff.1 hm)
      have hxy : y.1 = x := M.kl_inj (h.wf y hy) hx (WideAt.sameKey_eq hs)
      exact List.mem_map.2 ⟨y, hy, hxy⟩
    · intro hm
      obtain ⟨y, hy, rfl⟩ := List.mem_map.1 hm
      exact ⟨M.ent y, hp.mem_iff.2 (List.mem_map.2 ⟨y, hy, rfl⟩), WideAt.sameKey_self (M.isKey hx)⟩
theorem wp_next_kit [DecidableEq κ] (M : MapKit P k κ β) (w : World) (hg : o.guard = none) (it : Operand) (hop : o.op = Op.next it false) (b r : Nat) (l : List (κ × β)) (left : κ → Bool) (cnt : Nat) (hit : a.eval it = .pointer (some ⟨r, 0, none⟩)) (h : M.Rng w b r l left cnt)
    (hDone : (∀ h ∈ l, left h.1 = false) → wpList P ops Q rest (a.put o.dst (.tuple #[.bool false])) w)
    (hMore : ∀ (x : κ) (c : β) (w' : World) (cnt' : Nat), (x, c) ∈ l → left x = true → M.Rng w' b r l (fun y => left y && !decide (y = x)) cnt' → cnt' < cnt → w.grownBy w' (some r) → w'.heap.size = w.heap.size →
      (Instr.entry (.pointer (some ⟨r, 0, none⟩))).run P w' = .ok (.tuple #[M.mkK x, M.mkV c]) w' → wpList P ops Q rest (a.put o.dst (.tuple #[.bool true, M.mkK x, M.mkV c])) w') :
    wpList P ops Q (o :: rest) a w := by
  obtain ⟨ds, n, lf, hr, hp, hl⟩ := h.at'
  refine wpList_next_ranges w hg it hop k M.K M.R M.mkK M.mkV (fun key kl hk => ?_) (fun v y hv => ?_) b r n (.map ds) lf cnt hit hr (fun _ h0 => hDone (fun y hy => by rw [← hl _ (h.wf y hy)]; exact h0 _)) ?_
  · obtain ⟨x, _, rfl⟩ := M.inv key kl hk
    exact ⟨x, rfl⟩
  · obtain ⟨c, rfl, _⟩ := M.R_inv hv
    exact ⟨c, rfl⟩
  · intro x c kl y w' cnt' hkey hlk hv hat hrg hlt hgr hsz hen
    obtain ⟨x', hx', e⟩ := M.inv _ _ hkey
    obtain rfl := M.inj _ _ e
    have ekl : kl = M.kl x := Option.some.inj (hkey.symm.trans (M.key_kl hx'))
    subst ekl
    have ey : y = (.held (M.mkV c), []) := by rw [M.R_mk] at hv; exact (Option.some.inj hv).symm
    have hm : (x, c) ∈ l := by
      have hh := Maps.has_true_of_atKey (fun z => hat z)
      rw [Maps.has_eq, List.any_eq_true] at hh
      obtain ⟨p, hpm, hs⟩ := hh
      obtain ⟨q, hq, rfl⟩ := List.mem_map.1 (hp.mem_iff.1 hpm)
      have hqx : q.1 = x := M.kl_inj (h.wf q hq) hx' (WideAt.sameKey_eq hs)
      obtain ⟨es, e, hap, _⟩ := hr.owns.entries M.K
      cases e
      have h2 := WideAt.atKey_mem (DataW.nil) (M.isKey (h.wf q hq)) hap hpm
      have h3 := hat DataW.nil
      rw [← hqx, h2, ey] at h3
      have h4 : M.mkV q.2 = M.mkV c := DataW.held.inj h3
      have h5 : q.2 = c := by have := M.un q.2; rw [h4, M.un] at this; exact (Option.some.inj this).symm
      rw [← hqx, ← h5]
      exact hq
    refine hMore x c w' cnt' hm (by rw [← hl x hx']; exact hlk) ⟨⟨ds, n, _, hrg, hp, fun z hz => ?_⟩, h.wf⟩ hlt hgr hsz hen
    rw [hl z hz, M.same hz hx']
theorem wp_delete_kit [DecidableEq κ] (M : MapKit P k κ β) (w : World) (hg : o.guard = none) (m x : Operand) (t : TypeId) (hop : o.op = Op.call { callee := Callee.builtin Builtin.delete, args := #[m, x], argTypes := #[t, k] })
    (e : TypeId) (ht : P.underlying t = some (.map k e)) (b r : Nat) (l : List (κ × β)) (left : κ → Bool) (cnt : Nat) (hm : a.eval m = .map (some b)) (h : M.Rng w b r l left cnt) (y : κ) (hy : M.wf y) (hx : a.eval x = M.mkK y)
    (hK : ∀ w' cnt', M.Rng w' b r (l.filter (fun h => !decide (h.1 = y))) (fun z => left z && !decide (z = y)) cnt' → cnt' ≤ cnt → w.mapTurned w' b → wpList P ops Q rest (a.put o.dst (.tuple #[])) w') :
    wpList P ops Q (o :: rest) a w := by
  obtain ⟨ds, n, lf, hr, hp, hl⟩ := h.at'
  refine wpList_delete_ranges w hg m x t k hop e M.K ht M.R b r n (.map ds) lf cnt hm hr _ _ hx (M.key_kl hy) fun w' cnt' hrg hle hturn => hK w' cnt' ⟨⟨_, n, _, hrg, ?_, fun z hz => ?_⟩, fun z hz => h.wf z (List.mem_filter.1 hz).1⟩ hle hturn
  · rw [← filter_ents hy l h.wf]
    exact hp.filter _
  · rw [hl z hz, M.same hz hy]
theorem wp_len_kit (M : MapKit P k κ β) (w : World) (hg : o.guard = none) (m : Operand) (t : TypeId) (hop : o.op = Op.call { callee := Callee.builtin Builtin.len, args := #[m], argTypes := #[t] }) (e : TypeId) (ht : P.underlying t = some (.map k e)) (b : Nat) (l : List (κ × β)) (hm : a.eval m = .map (some b)) (h : M.Of w b l)
    (hK : wpList P ops Q rest (a.put o.dst (.int .i64 l.length)) w) : wpList P ops Q (o :: rest) a w := by
  obtain ⟨ds, ho, hp⟩ := h.own
  have e' : Maps.size (DataW.map ds) = l.length := by show ds.length = _; rw [hp.length_eq, List.length_map]
  exact wpList_len_own w hg m t hop k e ht M.R b ds.length (.map ds) hm ho (by rw [e']; exact hK)
end
/- One more that is no longer to come. -/
theorem filter_flip {κ β : Type} [DecidableEq κ] {l : List (κ × β)} (hap : l.Pairwise (fun p q => p.1 ≠ q.1)) {p : κ → Bool} {h : κ × β} (hm : h ∈ l) (hp : p h.1 = true) :
    (l.filter (fun y => !(p y.1 && !decide (y.1 = h.1)))).Perm (h :: l.filter (fun y => !p y.1)) := by
  induction l with
  | nil => cases hm
  | cons z s ih =>
    obtain ⟨hz, hs⟩ := List.pairwise_cons.1 hap
    rcases List.mem_cons.1 hm with rfl | hm'
    · have e : s.filter (fun y => !(p y.1 && !decide (y.1 = h.1))) = s.filter (fun y => !p y.1) := List.filter_congr (fun y hy => by simp [Ne.symm (hz y hy)])
      rw [List.filter_cons, if_pos (by simp), e, List.filter_cons, if_neg (by simp [hp])]
    · have hne : z.1 ≠ h.1 := hz h hm'
      have ih' := ih hs hm'
      rw [List.filter_cons, List.filter_cons]
      cases hpz : p z.1 with
      | true => rw [if_neg (by simp [hne]), if_neg (by simp)]; exact ih'
      | false =>
        rw [if_pos (by simp), if_pos (by simp)]
        exact (ih'.cons z).trans (List.Perm.swap h z _)
end Go.Proofs.YtcbcjefefmbccaaDoor
namespace Go.Proofs.YtcbcjefefmbccaaDoor

/- One byte more. -/
def pstep (n : Nat) (c : UInt8) : Nat := ((n ^^^ c.toNat) * 16777619) % 4294967296
def pmore (n : Nat) (l : List UInt8) : Nat := l.foldl pstep n

theorem pstep_lt (n : Nat) (c : UInt8) : pstep n c < 4294967296 := Nat.mod_lt _ (by decide)
theorem pmore_lt (n : Nat) (hn : n < 4294967296) (l : List UInt8) : pmore n l < 4294967296 := by
  unfold pmore
  induction l generalizing n with
  | nil => exact hn
  | cons c l ih => rw [List.foldl_cons]; exact ih _ (pstep_lt n c)
theorem pmore_append (n : Nat) (a b : List UInt8) : pmore n (a ++ b) = pmore (pmore n a) b := List.foldl_append
theorem pmore_cons (n : Nat) (c : UInt8) (l : List UInt8) : pmore n (c :: l) = pmore (pstep n c) l := by simp only [pmore, List.foldl_cons]
theorem pmore_nil (n : Nat) : pmore n [] = n := rfl
theorem pmore_snoc (n : Nat) (l : List UInt8) (c : UInt8) : pmore n (l ++ [c]) = pstep (pmore n l) c := (pmore_append n l [c]).trans ((pmore_cons (pmore n l) c []).trans (pmore_nil _))

theorem mul_inj_of (M m v a b : Nat) (hv : m * v % M = 1) (ha : a < M) (hb : b < M) (h : a * m % M = b * m % M) : a = b := by
  have h1 : a * m * v % M = b * m * v % M := by rw [Nat.mul_mod, h, ← Nat.mul_mod]
  rw [Nat.mul_assoc, Nat.mul_assoc, Nat.mul_mod a, Nat.mul_mod b, hv] at h1
  simpa [Nat.mod_eq_of_lt ha, Nat.mod_eq_of_lt hb] using h1
theorem inv_ok : 16777619 * 899433627 % 4294967296 = 1 := by decide
theorem mul_inj {a b : Nat} (ha : a < 4294967296) (hb : b < 4294967296) (h : a * 16777619 % 4294967296 = b * 16777619 % 4294967296) : a = b :=
  mul_inj_of 4294967296 16777619 899433627 a b inv_ok ha hb h
theorem two32 : (2 : Nat) ^ 32 = 4294967296 := by decide
theorem xor_lt32 {a b : Nat} (ha : a < 4294967296) (hb : b < 4294967296) : a ^^^ b < 4294967296 := by
  rw [← two32] at *
  exact Nat.xor_lt_two_pow ha hb
theorem byte_lt32 (c : UInt8) : c.toNat < 4294967296 := by have := c.toNat_lt; omega
theorem pstep_inj_n {n m : Nat} {c : UInt8} (hn : n < 4294967296) (hm : m < 4294967296) (h : pstep n c = pstep m c) : n = m := by
  have := mul_inj (xor_lt32 hn (byte_lt32 c)) (xor_lt32 hm (byte_lt32 c)) h
  have h2 : (n ^^^ c.toNat) ^^^ c.toNat = (m ^^^ c.toNat) ^^^ c.toNat := by rw [this]
  simpa [Nat.xor_assoc] using h2
theorem pstep_inj_c {n : Nat} {c d : UInt8} (hn : n < 4294967296) (h : pstep n c = pstep n d) : c = d := by
  have := mul_inj (xor_lt32 hn (byte_lt32 c)) (xor_lt32 hn (byte_lt32 d)) h
  have h2 : n ^^^ (n ^^^ c.toNat) = n ^^^ (n ^^^ d.toNat) := by rw [this]
  rw [← Nat.xor_assoc, ← Nat.xor_assoc] at h2
  simp at h2
  exact UInt8.toNat_inj.1 h2
theorem pmore_inj_n {n m : Nat} (hn : n < 4294967296) (hm : m < 4294967296) (l : List UInt8) (h : pmore n l = pmore m l) : n = m := by
  induction l generalizing n m with
  | nil => exact h
  | cons c l ih => rw [pmore_cons, pmore_cons] at h; exact pstep_inj_n hn hm (ih (pstep_lt n c) (pstep_lt m c) h)
/- With one byte another one it is another sum. -/
theorem pmore_ne (n : Nat) (hn : n < 4294967296) (p q : List UInt8) (c d : UInt8) (h : c ≠ d) : pmore n (p ++ c :: q) ≠ pmore n (p ++ d :: q) := by
  intro e
  rw [pmore_append, pmore_append, pmore_cons, pmore_cons] at e
  exact h (pstep_inj_c (pmore_lt n hn p) (pmore_inj_n (pstep_lt _ _) (pstep_lt _ _) q e))

/- Hex digits. -/
def hexDig (d : Nat) : UInt8 := if d < 10 then UInt8.ofNat (48 + d) else UInt8.ofNat (87 + d)
/- The k last hex digits of n. -/
def hexLast : Nat → Nat → List UInt8
  | _, 0 => []
  | n, k + 1 => hexLast (n / 16) k ++ [hexDig (n % 16)]
theorem hexLast_length (n k : Nat) : (hexLast n k).length = k := by
  induction k generalizing n with
  | zero => rfl
  | succ k ih => simp [hexLast, ih]
/- The value of one hex digit, none where it is none. -/
def unhex1 (c : UInt8) : Option Nat :=
  if 48 ≤ c.toNat ∧ c.toNat ≤ 57 then some (c.toNat - 48) else if 97 ≤ c.toNat ∧ c.toNat ≤ 102 then some (c.toNat - 87) else none
def unhex : Nat → List UInt8 → Option Nat
  | n, [] => some n
  | n, c :: l => match unhex1 c with | some d => unhex (16 * n + d) l | none => none
theorem unhex1_hexDig : ∀ d : Fin 16, unhex1 (hexDig d.val) = some d.val := by decide
theorem unhex_append (n : Nat) (a b : List UInt8) : unhex n (a ++ b) = (unhex n a).bind fun m => unhex m b := by
  induction a generalizing n with
  | nil => rfl
  | cons c a ih =>
    simp only [List.cons_append, unhex]
    cases unhex1 c with
    | none => rfl
    | some d => exact ih _
theorem unhex_hexLast (m n k : Nat) (h : n < 16 ^ k) : unhex m (hexLast n k) = some (m * 16 ^ k + n) := by
  induction k generalizing n with
  | zero => simp at h; subst h; simp [hexLast, unhex]
  | succ k ih =>
    rw [hexLast, unhex_append, ih (n / 16) (by rw [Nat.pow_succ] at h; omega)]
    simp only [Option.bind_some, unhex]
    have := unhex1_hexDig ⟨n % 16, by omega⟩
    simp only at this
    rw [this]
    simp only [Option.some.injEq, Nat.pow_succ]
    rw [← Nat.mul_assoc]
    omega
theorem unhex_lt (l : List UInt8) : ∀ (n v : Nat), unhex n l = some v → v < (n + 1) * 16 ^ l.length := by
  induction l with
  | nil => intro n v h; simp [unhex] at h; subst h; simp
  | cons c l ih =>
    intro n v h
    simp only [unhex] at h
    cases hd : unhex1 c with
    | none => rw [hd] at h; cases h
    | some d =>
      rw [hd] at h
      have h1 := ih _ _ h
      have hd16 : d < 16 := by
        unfold unhex1 at hd
        split at hd
        · cases hd; omega
        · split at hd
          · cases hd; omega
          · cases hd
      refine Nat.lt_of_lt_of_le h1 ?_
      rw [List.length_cons, Nat.pow_succ, Nat.mul_comm (16 ^ l.length) 16, ← Nat.mul_assoc]
      exact Nat.mul_le_mul_right _ (by omega)

/- Decimal digits. -/
def undec1 (c : UInt8) : Option Nat := if 48 ≤ c.toNat ∧ c.toNat ≤ 57 then some (c.toNat - 48) else none
def undec : Nat → List UInt8 → Option Nat
  | n, [] => some n
  | n, c :: l => match undec1 c with | some d => undec (10 * n + d) l | none => none
/- What a number's text reads as: at most 'most' digits, no needless zero. -/
def numOf (l : List UInt8) (most : Nat) : Option Nat :=
  if l.length < 1 ∨ most < l.length ∨ (1 < l.length ∧ l.head? = some 48) then none else undec 0 l
theorem undec_append (n : Nat) (a b : List UInt8) : undec n (a ++ b) = (undec n a).bind fun m => undec m b := by
  induction a generalizing n with
  | nil => rfl
  | cons c a ih =>
    simp only [List.cons_append, undec]
    cases undec1 c with
    | none => rfl
    | some d => exact ih _
theorem undec1_dig : ∀ d : Fin 10, undec1 (UInt8.ofNat (48 + d.val)) = some d.val := by decide
theorem undec_decDigits (u : Nat) : undec 0 (Lib.decDigits u) = some u := by
  induction u using Nat.strongRecOn with
  | _ u ih =>
    by_cases h : u < 10
    · rw [Lib.decDigits, dif_pos h]
      have := undec1_dig ⟨u, h⟩
      simp only at this
      simp only [undec, this]
      simp
    · rw [Lib.decDigits, dif_neg h, undec_append, ih (u / 10) (by omega)]
      have := undec1_dig ⟨u % 10, by omega⟩
      simp only at this
      simp only [Option.bind_some, undec, this, Option.some.injEq]
      omega
theorem decDigits_head (u : Nat) (h : 10 ≤ u) : (Lib.decDigits u).head? ≠ some 48 := by
  induction u using Nat.strongRecOn with
  | _ u ih =>
    rw [Lib.decDigits, dif_neg (by omega)]
    by_cases h2 : u / 10 < 10
    · rw [Lib.decDigits, dif_pos h2]
      have : ∀ d : Fin 10, d.val ≠ 0 → UInt8.ofNat (48 + d.val) ≠ 48 := by decide
      have := this ⟨u / 10, h2⟩ (by simp; omega)
      simpa using this
    · have h3 := ih (u / 10) (by omega) (by omega)
      cases hl : Lib.decDigits (u / 10) with
      | nil => simp [← List.length_eq_zero_iff, Lib.decDigits_length] at hl; have := Lib.nDigits_pos (u / 10); omega
      | cons c l => rw [hl] at h3; simpa using h3
theorem decDigits_len_le (u k : Nat) (hk : 1 ≤ k) (h : u < 10 ^ k) : (Lib.decDigits u).length ≤ k := by
  rw [Lib.decDigits_length]
  induction k generalizing u with
  | zero => omega
  | succ k ih =>
    by_cases h2 : u < 10
    · rw [Lib.nDigits_small h2]; omega
    · rw [Lib.nDigits_big h2]
      have : 1 ≤ k := by
        rcases Nat.eq_zero_or_pos k with h0 | h0
        · subst h0; simp at h; omega
        · exact h0
      have := ih (u / 10) this (by rw [Nat.pow_succ] at h; omega)
      omega
theorem numOf_decDigits (u k : Nat) (hk : 1 ≤ k) (h : u < 10 ^ k) : numOf (Lib.decDigits u) k = some u := by
  have h1 := decDigits_len_le u k hk h
  have h2 : 1 ≤ (Lib.decDigits u).length := by rw [Lib.decDigits_length]; exact Lib.nDigits_pos u
  unfold numOf
  rw [if_neg, undec_decDigits]
  rintro (h3 | h3 | ⟨h3, h4⟩)
  · omega
  · omega
  · refine decDigits_head u ?_ h4
    rcases Nat.lt_or_ge u 10 with h5 | h5
    · rw [Lib.decDigits_length, Lib.nDigits_small h5] at h3; omega
    · exact h5
theorem undec_lt (l : List UInt8) : ∀ (n v : Nat), undec n l = some v → v < (n + 1) * 10 ^ l.length := by
  induction l with
  | nil => intro n v h; simp [undec] at h; subst h; simp
  | cons c l ih =>
    intro n v h
    simp only [undec] at h
    cases hd : undec1 c with
    | none => rw [hd] at h; cases h
    | some d =>
      rw [hd] at h
      have h1 := ih _ _ h
      have hd10 : d < 10 := by
        unfold undec1 at hd
        split at hd
        · cases hd; omega
        · cases hd
      refine Nat.lt_of_lt_of_le h1 ?_
      rw [List.length_cons, Nat.pow_succ, Nat.mul_comm (10 ^ l.length) 10, ← Nat.mul_assoc]
      exact Nat.mul_le_mul_right _ (by omega)

/- Texts of IDs. -/
def idText (n l : Nat) : List UInt8 := hexLast n 8 ++ 45 :: Lib.decDigits l
/- An ID out of a text. -/
def idRead (t : List UInt8) : Option (Nat × Nat) :=
  if t.length ≤ 8 ∨ t[8]? ≠ some 45 then none else
    match unhex 0 (t.take 8), numOf (t.drop 9) 6 with
    | some n, some l => some (n, l)
    | _, _ => none
theorem idRead_idText (n l : Nat) (hn : n < 4294967296) (hl : l < 1000000) : idRead (idText n l) = some (n, l) := by
  have h8 := hexLast_length n 8
  unfold idRead idText
  rw [if_neg]
  · have h1 : (hexLast n 8 ++ 45 :: Lib.decDigits l).take 8 = hexLast n 8 := by rw [List.take_append_of_le_length (by omega), List.take_of_length_le (by omega)]
    have h2 : (hexLast n 8 ++ 45 :: Lib.decDigits l).drop 9 = Lib.decDigits l := by
      rw [List.drop_append, h8]; simp [h8]
    rw [h1, h2, unhex_hexLast 0 n 8 (by omega), numOf_decDigits l 6 (by decide) (by omega)]
    simp
  · rintro (h | h)
    · simp [h8] at h
      omega
    · apply h
      rw [List.getElem?_append_right (by omega), h8]; rfl

/- IDs: of a text; by print, then by length. -/
def idOfL (p : List UInt8) : Nat × Int := (pmore 2166136261 p, (p.length : Int))
def lessB (a b : Nat × Int) : Bool := if (a.1 : Int) = (b.1 : Int) then decide (a.2 < b.2) else decide ((a.1 : Int) < (b.1 : Int))
theorem lessB_iff (a b : Nat × Int) : lessB a b = true ↔ a.1 < b.1 ∨ (a.1 = b.1 ∧ a.2 < b.2) := by
  unfold lessB
  split
  · rename_i h
    simp only [decide_eq_true_eq]
    omega
  · rename_i h
    simp only [decide_eq_true_eq]
    omega
end Go.Proofs.YtcbcjefefmbccaaDoor
namespace Go.Proofs.YtcbcjefefmbccaaDoor
open Go.RowKit

theorem take_snoc (s : ByteArray) (k : Nat) (h : k < s.size) : s.data.toList.take (k + 1) = s.data.toList.take k ++ [s[k]] := by
  rw [List.take_succ_eq_append_getElem (by simpa using h)]; rfl
theorem ret_int {k : IntKind} {a b : Int} (h : a = b) : Ending.returned (.int k a) = .returned (.int k b) := by rw [h]
theorem val_int {k : IntKind} {a b : Int} (h : a = b) : Value.int k a = .int k b := by rw [h]

/- One step as the walk writes it. -/
theorem step_walk (n : Nat) (c : UInt8) (hn : n < 4294967296) : bits .xor .u32 (n : Int) ((c.toNat : Int) % 4294967296) * 16777619 % 4294967296 = ((pstep n c : Nat) : Int) := by
  have hc := byte_lt32 c
  rw [show ((c.toNat : Int) % 4294967296) = ((c.toNat : Nat) : Int) by omega, u32_xor_nat n c.toNat hn hc]
  unfold pstep
  rw [Int.natCast_emod, Int.natCast_mul]
  rfl

theorem i64_xor_nat (a b : Nat) (ha : a < 4294967296) (hb : b < 4294967296) : bits .xor .i64 (a : Int) (b : Int) = ((a ^^^ b : Nat) : Int) := by
  have hx := xor_lt32 ha hb
  have e64 : IntKind.i64.bits = 64 := rfl
  have p64 : (2 : Nat) ^ 64 = 18446744073709551616 := by decide
  have ha' : a % 2 ^ IntKind.i64.bits = a := Nat.mod_eq_of_lt (by rw [e64, p64]; omega)
  have hb' : b % 2 ^ IntKind.i64.bits = b := Nat.mod_eq_of_lt (by rw [e64, p64]; omega)
  simp only [bits, BitVec.ofInt_natCast, BitVec.toNat_xor, BitVec.toNat_ofNat, ha', hb']
  rw [IntKind.wrap_i64]
  omega
theorem step_walk64 (n : Nat) (c : UInt8) (hn : n < 4294967296) : (wrap64 (bits .xor .i64 (n : Int) (wrap64 (c.toNat : Int)) * 16777619)).tmod 4294967296 = ((pstep n c : Nat) : Int) := by
  have hc := byte_lt32 c
  have hx := xor_lt32 hn hc
  rw [IntWalk.wrap64_in (c.toNat : Int) (by omega), i64_xor_nat n c.toNat hn hc, IntWalk.wrap64_in _ (by omega)]
  unfold pstep
  rw [Int.tmod_eq_emod_of_nonneg (by omega), Int.natCast_emod, Int.natCast_mul]
  rfl

theorem more_any (n : Nat) (hn : n < 4294967296) (s : ByteArray) (w : World) (hs : s.size ≤ maxLen) :
    Calls Tryd.prog 14 #[.int .u32 n, .string s] w fun e w' => e = .returned (.int .u32 (pmore n s.data.toList : Nat)) ∧ w' = w := by
  unfold maxLen at hs
  go_enter Tryd.func14, Tryd.ntmps14
  go_wp2
  go_loop [0, 8] (fun q i => ∃ k : Nat, k ≤ s.size ∧ i = .int .i64 k ∧ q = .int .u32 (pmore n (s.data.toList.take k) : Nat)) (fun _ i => s.size - (intOf i).toNat)
  case atStart => exact ⟨0, Nat.zero_le _, rfl, by simp [pmore_nil]⟩
  case round =>
    obtain ⟨k, hk, rfl, rfl⟩ := hrel
    by_cases hlt : k < s.size
    · have hst := step_walk (pmore n (s.data.toList.take k)) s[k] (pmore_lt n hn _)
      rw [← pmore_snoc, ← take_snoc s k hlt] at hst
      have HS := hst
      clear hst
      generalize pmore n (s.data.toList.take k) = m at *
      have HS' : Hid (bits .xor .u32 (m : Int) ((s[k].toNat : Int) % 4294967296) * 16777619 % 4294967296 = ((pmore n (s.data.toList.take (k + 1)) : Nat) : Int)) := HS
      clear HS
      go_wp2
      go_round
      case rel => exact ⟨k + 1, by omega, by go_num, by rw [HS'.out]⟩
      case measure => simp [intOf]; omega
    · go_wp2
      go_ret
      exact ⟨ret_int (by rw [List.take_of_length_le (by simp; omega)]), rfl⟩
theorem of_any (s : ByteArray) (w : World) (hs : s.size ≤ maxLen) :
    Calls Tryd.prog 15 #[.string s] w fun e w' => e = .returned (.int .u32 (pmore 2166136261 s.data.toList : Nat)) ∧ w' = w := by
  go_enter Tryd.func15, Tryd.ntmps15
  go_wp2_with fail
  refine (more_any 2166136261 (by decide) s _ hs).mono ?_
  rintro e w' ⟨rfl, rfl⟩
  go_wp2_with fail
  go_ret
  exact ⟨rfl, rfl⟩

/- An ID as a value. -/
abbrev idV (n l : Int) : Value := .agg #[.int .u32 n, .int .i64 l]

theorem id_any (s : ByteArray) (w : World) (hs : s.size ≤ maxLen) :
    Calls Tryd.prog 20 #[.string s] w fun e w' => e = .returned (idV (pmore 2166136261 s.data.toList : Nat) s.size) ∧ Below w.heap.size w w' := by
  have hs' := hs
  unfold maxLen at hs'
  go_enter Tryd.func20, Tryd.ntmps20
  go_wp2_with fail
  refine (of_any s _ hs).mono ?_
  rintro e w' ⟨rfl, rfl⟩
  go_wp2_with fail
  exact bodyPost_ret (v := idV (pmore 2166136261 s.data.toList : Nat) s.size) (by simp [results, Tryd.results20, go_sem]) rfl ⟨rfl, (Below.refl _ _).alloc (Nat.le_refl _) _⟩
theorem printFrom_any (n : Nat) (hn : n < 4294967296) (s : ByteArray) (w : World) (hs : s.size ≤ maxLen) :
    Calls Tryd.prog 19 #[.int .u32 n, .string s] w fun e w' => e = .returned (.int .u32 (pmore n s.data.toList : Nat)) ∧ w' = w := by
  unfold maxLen at hs
  go_enter Tryd.func19, Tryd.ntmps19
  go_wp2
  go_loop [5, 6] (fun q i => ∃ k : Nat, k ≤ s.size ∧ i = .int .i64 k ∧ q = .int .i64 (pmore n (s.data.toList.take k) : Nat)) (fun _ i => s.size - (intOf i).toNat)
  case atStart => exact ⟨0, Nat.zero_le _, rfl, by simp [pmore_nil]⟩
  case round =>
    obtain ⟨k, hk, rfl, rfl⟩ := hrel
    have hml := pmore_lt n hn (s.data.toList.take k)
    by_cases hlt : k < s.size
    · have hst := step_walk64 (pmore n (s.data.toList.take k)) s[k] hml
      rw [← pmore_snoc, ← take_snoc s k hlt] at hst
      generalize pmore n (s.data.toList.take k) = m at *
      have HS : Hid ((wrap64 (bits .xor .i64 (m : Int) (wrap64 (s[k].toNat : Int)) * 16777619)).tmod 4294967296 = ((pmore n (s.data.toList.take (k + 1)) : Nat) : Int)) := hst
      clear hst
      go_wp2
      go_round
      case rel => exact ⟨k + 1, by omega, by go_num, by rw [HS.out]⟩
      case measure => simp [intOf]; omega
    · go_wp2
      go_ret
      exact ⟨ret_int (by rw [List.take_of_length_le (by simp; omega)]), rfl⟩
theorem printOf_any (s : ByteArray) (w : World) (hs : s.size ≤ maxLen) :
    Calls Tryd.prog 18 #[.string s] w fun e w' => e = .returned (.int .u32 (pmore 2166136261 s.data.toList : Nat)) ∧ w' = w := by
  go_enter Tryd.func18, Tryd.ntmps18
  go_wp2_with fail
  refine (printFrom_any 2166136261 (by decide) s _ hs).mono ?_
  rintro e w' ⟨rfl, rfl⟩
  go_wp2_with fail
  go_ret
  exact ⟨rfl, rfl⟩
theorem idOf_any (s : ByteArray) (w : World) (hs : s.size ≤ maxLen) :
    Calls Tryd.prog 21 #[.string s] w fun e w' => e = .returned (idV (pmore 2166136261 s.data.toList : Nat) s.size) ∧ Below w.heap.size w w' := by
  have hs' := hs
  unfold maxLen at hs'
  go_enter Tryd.func21, Tryd.ntmps21
  go_wp2_with fail
  refine (printOf_any s _ hs).mono ?_
  rintro e w' ⟨rfl, rfl⟩
  go_wp2_with fail
  exact bodyPost_ret (v := idV (pmore 2166136261 s.data.toList : Nat) s.size) (by simp [results, Tryd.results21, go_sem]) rfl ⟨rfl, (Below.refl _ _).alloc (Nat.le_refl _) _⟩
theorem less_any (a b c d : Int) (w : World) :
    Calls Tryd.prog 25 #[idV a b, idV c d] w fun e w' => e = .returned (.bool (if a = c then decide (b < d) else decide (a < c))) ∧ Below w.heap.size w w' := by
  by_cases h : a = c
  · subst h
    go_enter Tryd.func25, Tryd.ntmps25
    go_wp2
    go_ret
    exact ⟨by simp, ((Below.refl _ _).alloc (Nat.le_refl _) _).alloc (by simp) _⟩
  · have h' : (a != c) = true := by simpa using h
    go_enter Tryd.func25, Tryd.ntmps25
    go_wp2
    go_ret
    exact ⟨by simp, ((Below.refl _ _).alloc (Nat.le_refl _) _).alloc (by simp) _⟩
theorem isLess_any (a b c d : Int) (w : World) :
    Calls Tryd.prog 23 #[idV a b, idV c d] w fun e w' => e = .returned (.bool (if a = c then decide (b < d) else decide (a < c))) ∧ Below w.heap.size w w' := by
  by_cases h : a = c
  · subst h
    go_enter Tryd.func23, Tryd.ntmps23
    go_wp2
    go_ret
    exact ⟨by simp, ((Below.refl _ _).alloc (Nat.le_refl _) _).alloc (by simp) _⟩
  · have h' : (a != c) = true := by simpa using h
    go_enter Tryd.func23, Tryd.ntmps23
    go_wp2
    go_ret
    exact ⟨by simp, ((Below.refl _ _).alloc (Nat.le_refl _) _).alloc (by simp) _⟩
end Go.Proofs.YtcbcjefefmbccaaDoor
