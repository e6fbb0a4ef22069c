/-
  Own text. Maps in memory as association lists, up to their order: a kit of a map's key and element shapes (MapKit), block b is a map that holds just l (MapKit.Of), a range over it under way (MapKit.Rng); look-up, store, len, range, next, delete.
  Own text. Plain mathematics of prints: the sum by bytes, its parts, that one other byte makes another sum; hex digits and decimal digits, written and read. No program in it.
  Own text. Sums and IDs by contracts: print.More, Of, ID, Less and the document's PrintFrom, PrintOf, IDOf, IsLess.
  Own text. Bins as lists of pieces, pure: find, put, drop, sweep, size; how pieces lie in cells.
  Own text. What every bin keeps, pure: the order, the lengths, IDs of the texts, uses within a bound; find in a list that is in order.
-/
import Derived.Maps.Ext
import Derived.Maps.RangeWalk
import Derived.Maps.OwnSet
import Derived.Lib.ItoaNum
import Derived.Test.YtcbcjefefmbccabGreatDoorChecked
import Derived.WalkKit
import Derived.WalkSpells
import Derived.WalkLawsBesides
import Derived.Outline
import Derived.Laws.BitsAllLaws
import Derived.Deep.QuietTactic
import Derived.BigQuiet
namespace Go.Proofs.YtcbcjefefmbccabGreatDoor
open Go.RowKit Go.Maps

structure MapKit (P : Program) (k : TypeId) (κ β : Type) where
  mkK : κ → Value
  wf : κ → Prop
  mkV : β → Value
  unV : Value → Option β
  K : Keyed P k
  key : ∀ x, wf x → ∃ kl, keyOf P k (mkK x) = some kl
  inv : ∀ v kl, keyOf P k v = some kl → ∃ x, wf x ∧ v = mkK x
  inj : ∀ x y, mkK x = mkK y → x = y
  un : ∀ c, unV (mkV c) = some c
  back : ∀ v c, unV v = some c → v = mkV c

variable {P : Program} {k : TypeId} {κ β : Type} (M : MapKit P k κ β)
def MapKit.kl (x : κ) : Lit := (keyOf P k (M.mkK x)).getD (.bool false)
def MapKit.R (v : Value) : Option (DataW Value × List MemPlace) := (M.unV v).map (fun _ => (.held v, []))
def MapKit.ent (h : κ × β) : Lit × DataW Value := (M.kl h.1, .held (M.mkV h.2))
theorem MapKit.key_kl {x : κ} (h : M.wf x) : keyOf P k (M.mkK x) = some (M.kl x) := by
  obtain ⟨kl, e⟩ := M.key x h
  unfold MapKit.kl
  rw [e]
  rfl
theorem MapKit.kl_inj {x y : κ} (hx : M.wf x) (hy : M.wf y) (e : M.kl x = M.kl y) : x = y := M.inj _ _ (M.K.inj (M.key_kl hx) (e ▸ M.key_kl hy))
theorem MapKit.isKey {x : κ} (h : M.wf x) : WideAt.IsKeyLit (M.kl x) := M.K.key (M.key_kl h)
theorem MapKit.same [DecidableEq κ] {x y : κ} (hx : M.wf x) (hy : M.wf y) : (M.kl x).sameKey (M.kl y) = decide (x = y) := by
  by_cases e : x = y
  · subst e
    rw [WideAt.sameKey_self (M.isKey hx)]
    simp
  · rw [Maps.sameKey_ne (fun h => e (M.kl_inj hx hy h))]
    simp [e]
theorem MapKit.R_mk (c : β) : M.R (M.mkV c) = some (.held (M.mkV c), []) := by
  unfold MapKit.R
  rw [M.un]
  rfl
theorem MapKit.R_inv {v : Value} {y : DataW Value × List MemPlace} (h : M.R v = some y) : ∃ c, v = M.mkV c ∧ y = (.held v, []) := by
  unfold MapKit.R at h
  cases hu : M.unV v with
  | none => rw [hu] at h; cases h
  | some c => rw [hu] at h; cases h; exact ⟨c, M.back v c hu, rfl⟩

/- Block b is a map that holds just l. -/
structure MapKit.Of (w : World) (b : Nat) (l : List (κ × β)) : Prop where
  own : ∃ ds, w.ownsMap P k M.R b ds.length (.map ds) ∧ ds.Perm (l.map M.ent)
  wf : ∀ h ∈ l, M.wf h.1
theorem ownsMap_tight {w : World} {b n : Nat} {R : Value → Option (DataW Value × List MemPlace)} {ds : List (Lit × DataW Value)} (h : w.ownsMap P k R b n (.map ds)) : w.ownsMap P k R b ds.length (.map ds) := by
  obtain ⟨es, clock, hb, F, _, hD⟩ := h
  have e : ds = (es.toList.map (WideElems.rg P k R)).foldr DataW.insert [] := DataW.map.inj hD
  exact ⟨es, clock, hb, F, by rw [e, length_sorted]; simp, hD⟩
variable {M} {w w' : World} {b r : Nat} {l l' : List (κ × β)}
theorem MapKit.Of.lt (h : M.Of w b l) : b < w.heap.size := by
  obtain ⟨ds, ho, _⟩ := h.own
  exact ho.lt
theorem MapKit.Of.made (M : MapKit P k κ β) (w : World) : M.Of (w.alloc (.map #[] 0)) w.heap.size [] := ⟨⟨[], World.ownsMap_made w P k M.R, List.Perm.refl _⟩, fun h hm => by simp at hm⟩
theorem MapKit.Of.kept {row : Option Nat} (h : M.Of w b l) (hg : w.grownBy w' row) (hr : some b ≠ row) : M.Of w' b l := by
  obtain ⟨ds, ho, hp⟩ := h.own
  exact ⟨⟨ds, ho.kept hg hr, hp⟩, h.wf⟩
theorem MapKit.Of.perm (h : M.Of w b l) (hp : l.Perm l') : M.Of w b l' := by
  obtain ⟨ds, ho, hd⟩ := h.own
  exact ⟨⟨ds, ho, hd.trans (hp.map _)⟩, fun x hx => h.wf x (hp.mem_iff.2 hx)⟩
/- w' holds at b what w held there. -/
theorem MapKit.Of.moved {b' : Nat} (h : M.Of w b l) (e : w'.heap[b']? = w.heap[b]?) : M.Of w' b' l := by
  obtain ⟨ds, ⟨es, clock, hb, F, hs, hD⟩, hp⟩ := h.own
  exact ⟨⟨ds, ⟨es, clock, e.trans hb, F, hs, hD⟩, hp⟩, h.wf⟩
theorem MapKit.Of.isMap (h : M.Of w b l) : ∃ es clock, w.heap[b]? = some (.map es clock) := by
  obtain ⟨ds, ⟨es, clock, hb, _⟩, _⟩ := h.own
  exact ⟨es, clock, hb⟩
theorem ents_apart {ds : List (Lit × DataW Value)} (hap : ds.Pairwise (fun p q => p.1 ≠ q.1)) (hp : ds.Perm (l.map M.ent)) : l.Pairwise (fun p q => p.1 ≠ q.1) := by
  have h1 : (l.map M.ent).Pairwise (fun p q => p.1 ≠ q.1) := (hp.pairwise_iff (fun {_ _} hne => Ne.symm hne)).1 hap
  rw [List.pairwise_map] at h1
  exact h1.imp (fun hne e => hne (by unfold MapKit.ent; simp only; rw [e]))
theorem MapKit.Of.apart (h : M.Of w b l) : l.Pairwise (fun p q => p.1 ≠ q.1) := by
  obtain ⟨ds, ho, hp⟩ := h.own
  obtain ⟨es, e, hap, _⟩ := ho.entries M.K
  cases e
  exact ents_apart hap hp
theorem MapKit.Of.len {t e : TypeId} (h : M.Of w b l) (ht : P.underlying t = some (.map k e)) (ty : TypeId) : (Builtin.len_ #[t] ty #[.map (some b)]).run P w = .ok (.int .i64 l.length) w := by
  obtain ⟨ds, ho, hp⟩ := h.own
  have := ho.len ht ty
  rw [this]
  show Result.ok (Value.int .i64 (ds.length : Nat)) w = _
  rw [hp.length_eq, List.length_map]
theorem MapKit.Of.look_none {t e : TypeId} {c0 : β} (h : M.Of w b l) (ht : P.underlying t = some (.map k e)) (hz : (zeroValue e).run P w = .ok (M.mkV c0) w) {x : κ} (hx : M.wf x) (hn : ∀ h ∈ l, h.1 ≠ x) :
    (Instr.lookup t (.map (some b)) (M.mkK x) true).run P w = .ok (.tuple #[M.mkV c0, .bool false]) w := by
  obtain ⟨ds, ho, hp⟩ := h.own
  have hno : ∀ p ∈ ds, p.1 ≠ M.kl x := fun p hm e => by
    obtain ⟨y, hy, rfl⟩ := List.mem_map.1 (hp.mem_iff.1 hm)
    exact hn y hy (M.kl_inj (h.wf y hy) hx e)
  obtain ⟨v, ps, hrun, hv⟩ := ho.look_ok M.K ht hz (M.R_mk c0) (M.key_kl hx)
  rw [WideAt.atKey_none _ hno] at hv
  obtain ⟨c, rfl, e⟩ := M.R_inv hv
  have ev : M.mkV c0 = M.mkV c := DataW.held.inj (Prod.mk.inj e).1
  rw [hrun, Maps.has_false_of_atKey (fun z => WideAt.atKey_none z hno), ev]
theorem MapKit.Of.look_some {t e : TypeId} {c0 : β} (h : M.Of w b l) (ht : P.underlying t = some (.map k e)) (hz : (zeroValue e).run P w = .ok (M.mkV c0) w) {x : κ} {c : β} (hm : (x, c) ∈ l) :
    (Instr.lookup t (.map (some b)) (M.mkK x) true).run P w = .ok (.tuple #[M.mkV c, .bool true]) w := by
  have hx : M.wf x := h.wf _ hm
  obtain ⟨ds, ho, hp⟩ := h.own
  obtain ⟨es, e, hap, _⟩ := ho.entries M.K
  cases e
  have hd : (M.kl x, DataW.held (M.mkV c)) ∈ ds := hp.mem_iff.2 (List.mem_map.2 ⟨_, hm, rfl⟩)
  have hat : ∀ z, (DataW.map ds).atKey (M.kl x) z = .held (M.mkV c) := fun z => WideAt.atKey_mem z (M.isKey hx) hap hd
  obtain ⟨v, ps, hrun, hv⟩ := ho.look_ok M.K ht hz (M.R_mk c0) (M.key_kl hx)
  rw [hat] at hv
  obtain ⟨c', rfl, e⟩ := M.R_inv hv
  have ev : M.mkV c = M.mkV c' := DataW.held.inj (Prod.mk.inj e).1
  rw [hrun, Maps.has_true_of_atKey hat, ev]
/- What a key's entry leaves. -/
theorem filter_ents [DecidableEq κ] {x : κ} (hx : M.wf x) : ∀ (l : List (κ × β)), (∀ h ∈ l, M.wf h.1) → (l.map M.ent).filter (ChangeMaps.notKey (M.kl x)) = (l.filter (fun h => !decide (h.1 = x))).map M.ent
  | [], _ => rfl
  | y :: r, hw => by
    have ih := filter_ents hx r (fun h hm => hw h (List.mem_cons_of_mem _ hm))
    have e : ChangeMaps.notKey (M.kl x) (M.ent y) = !decide (y.1 = x) := by
      unfold ChangeMaps.notKey MapKit.ent
      simp only
      rw [M.same (hw y (List.mem_cons_self ..)) hx]
    rw [List.map_cons, List.filter_cons, List.filter_cons, e, ih]
    by_cases h : y.1 = x <;> simp [h]
theorem insert_perm (x : Lit × DataW Value) : ∀ (l : List (Lit × DataW Value)), (DataW.insert x l).Perm (x :: l)
  | [] => List.Perm.refl _
  | y :: r => by
    unfold DataW.insert
    split
    · exact List.Perm.refl _
    · exact ((insert_perm x r).cons y).trans (List.Perm.swap x y r)
theorem MapKit.Of.store [DecidableEq κ] {t e : TypeId} (h : M.Of w b l) (ht : P.underlying t = some (.map k e)) {x : κ} (hx : M.wf x) (c : β) (hl : l.length < maxLen) :
    ∃ w', (Instr.mapUpdate t (.map (some b)) (M.mkK x) (M.mkV c)).run P w = .ok () w' ∧ (∀ l', ((x, c) :: l.filter (fun h => !decide (h.1 = x))).Perm l' → M.Of w' b l') ∧ w.grownBy w' (some b) := by
  obtain ⟨ds, ho, hp⟩ := h.own
  have hlen : ds.length = l.length := by rw [hp.length_eq, List.length_map]
  obtain ⟨w', hrun, ho', hg⟩ := ho.update M.K ht (by omega) (M.key_kl hx) (M.R_mk c)
  refine ⟨w', hrun, fun l' hl' => ⟨⟨_, ownsMap_tight ho', ?_⟩, fun y hy => ?_⟩, hg⟩
  · refine (insert_perm _ _).trans ?_
    refine List.Perm.trans ?_ (hl'.map M.ent)
    rw [List.map_cons, ← filter_ents hx l h.wf]
    exact (hp.filter _).cons _
  · rcases List.mem_cons.1 (hl'.mem_iff.2 hy) with rfl | hy
    · exact hx
    · exact h.wf y (List.mem_filter.1 hy).1

/- A range over a map under way: 'left x': is the entry at x still to come? -/
structure MapKit.Rng (M : MapKit P k κ β) (w : World) (b r : Nat) (l : List (κ × β)) (left : κ → Bool) (cnt : Nat) : Prop where
  at' : ∃ ds n lf, w.ranges P k M.R b r n (.map ds) lf cnt ∧ ds.Perm (l.map M.ent) ∧ ∀ x, M.wf x → lf (M.kl x) = left x
  wf : ∀ h ∈ l, M.wf h.1
theorem MapKit.Rng.of {left : κ → Bool} {cnt : Nat} (h : M.Rng w b r l left cnt) : M.Of w b l := by
  obtain ⟨ds, n, lf, hr, hp, _⟩ := h.at'
  exact ⟨⟨ds, ownsMap_tight hr.owns, hp⟩, h.wf⟩
theorem MapKit.Rng.kept {left : κ → Bool} {cnt : Nat} {row : Option Nat} (h : M.Rng w b r l left cnt) (hg : w.grownBy w' row) (hb : some b ≠ row) (hr : some r ≠ row) : M.Rng w' b r l left cnt := by
  obtain ⟨ds, n, lf, h1, hp, hl⟩ := h.at'
  exact ⟨⟨ds, n, lf, h1.kept hg hb hr, hp, hl⟩, h.wf⟩
theorem MapKit.Rng.lt {left : κ → Bool} {cnt : Nat} (h : M.Rng w b r l left cnt) : r < w.heap.size := by
  obtain ⟨ds, n, lf, h1, _⟩ := h.at'
  exact h1.lt
theorem MapKit.Rng.ne {left : κ → Bool} {cnt : Nat} (h : M.Rng w b r l left cnt) : r ≠ b := by
  obtain ⟨ds, n, lf, h1, _⟩ := h.at'
  exact h1.ne
theorem MapKit.Rng.left_eq {left : κ → Bool} {cnt : Nat} (h : M.Rng w b r l left cnt) : w.rangeLeft b r = cnt := by
  obtain ⟨ds, n, lf, h1, _⟩ := h.at'
  exact h1.left_eq
theorem MapKit.Rng.perm {left : κ → Bool} {cnt : Nat} (h : M.Rng w b r l left cnt) (hp : l.Perm l') : M.Rng w b r l' left cnt := by
  obtain ⟨ds, n, lf, h1, hd, hl⟩ := h.at'
  exact ⟨⟨ds, n, lf, h1, hd.trans (hp.map _), hl⟩, fun x hx => h.wf x (hp.mem_iff.2 hx)⟩

section
variable {ops : Array Oper} {rest : List Oper} {o : Oper} {a : Act} {Q : Exit → Act → World → Prop}
theorem wp_range_kit [DecidableEq κ] (M : MapKit P k κ β) (w : World) (hg : o.guard = none) (m : Operand) (t : TypeId) (hop : o.op = Op.range t m) (e : TypeId) (ht : P.underlying t = some (.map k e)) (b : Nat) (l : List (κ × β)) (hm : a.eval m = .map (some b)) (h : M.Of w b l)
    (hK : ∀ w', M.Rng w' b w.heap.size l (fun x => decide (x ∈ l.map (·.1))) l.length → w.grownBy w' none → w'.heap.size = w.heap.size + 1 → wpList P ops Q rest (a.put o.dst (.pointer (some ⟨w.heap.size, 0, none⟩))) w') :
    wpList P ops Q (o :: rest) a w := by
  obtain ⟨ds, ho, hp⟩ := h.own
  refine wpList_range_own w hg m t hop k e M.K ht M.R b ds.length (.map ds) hm ho fun w' hr hgr hs => hK w' ⟨⟨ds, ds.length, Maps.has (DataW.map ds), ?_, hp, fun x hx => ?_⟩, h.wf⟩ hgr hs
  · have e : Maps.size (DataW.map ds) = l.length := by show ds.length = _; rw [hp.length_eq, List.length_map]
    rw [← e]
    exact hr
  · rw [Bool.eq_iff_iff, Maps.has_eq, List.any_eq_true, decide_eq_true_eq]
    constructor
    · rintro ⟨p, hm, hs⟩
      obtain ⟨y, hy, rfl⟩ := List.mem_map.1 (hp.mem_iff.1 hm)
      have hxy : y.1 = x := M.kl_inj (h.wf y hy) hx (WideAt.sameKey_eq hs)
      exact List.mem_map.2 ⟨y, hy, hxy⟩
    · intro hm
      obtain ⟨y, hy, rfl⟩ := List.mem_map.1 hm
      exact ⟨M.ent y, hp.mem_iff.2 (List.mem_map.2 ⟨y, hy, rfl⟩), WideAt.sameKey_self (M.isKey hx)⟩
theorem wp_next_kit [DecidableEq κ] (M : MapKit P k κ β) (w : World) (hg : o.guard = none) (it : Operand) (hop : o.op = Op.next it false) (b r : Nat) (l : List (κ × β)) (left : κ → Bool) (cnt : Nat) (hit : a.eval it = .pointer (some ⟨r, 0, none⟩)) (h : M.Rng w b r l left cnt)
    (hDone : (∀ h ∈ l, left h.1 = false) → wpList P ops Q rest (a.put o.dst (.tuple #[.bool false])) w)
    (hMore : ∀ (x : κ) (c : β) (w' : World) (cnt' : Nat), (x, c) ∈ l → left x = true → M.Rng w' b r l (fun y => left y && !decide (y = x)) cnt' → cnt' < cnt → w.grownBy w' (some r) → w'.heap.size = w.heap.size →
      (Instr.entry (.pointer (some ⟨r, 0, none⟩))).run P w' = .ok (.tuple #[M.mkK x, M.mkV c]) w' → wpList P ops Q rest (a.put o.dst (.tuple #[.bool true, M.mkK x, M.mkV c])) w') :
    wpList P ops Q (o :: rest) a w := by
  obtain ⟨ds, n, lf, hr, hp, hl⟩ := h.at'
  refine wpList_next_ranges w hg it hop k M.K M.R M.mkK M.mkV (fun key kl hk => ?_) (fun v y hv => ?_) b r n (.map ds) lf cnt hit hr (fun _ h0 => hDone (fun y hy => by rw [← hl _ (h.wf y hy)]; exact h0 _)) ?_
  · obtain ⟨x, _, rfl⟩ := M.inv key kl hk
    exact ⟨x, rfl⟩
  · obtain ⟨c, rfl, _⟩ := M.R_inv hv
    exact ⟨c, rfl⟩
  · intro x c kl y w' cnt' hkey hlk hv hat hrg hlt hgr hsz hen
    obtain ⟨x', hx', e⟩ := M.inv _ _ hkey
    obtain rfl := M.inj _ _ e
    have ekl : kl = M.kl x := Option.some.inj (hkey.symm.trans (M.key_kl hx'))
    subst ekl
    have ey : y = (.held (M.mkV c), []) := by rw [M.R_mk] at hv; exact (Option.some.inj hv).symm
    have hm : (x, c) ∈ l := by
      have hh := Maps.has_true_of_atKey (fun z => hat z)
      rw [Maps.has_eq, List.any_eq_true] at hh
      obtain ⟨p, hpm, hs⟩ := hh
      obtain ⟨q, hq, rfl⟩ := List.mem_map.1 (hp.mem_iff.1 hpm)
      have hqx : q.1 = x := M.kl_inj (h.wf q hq) hx' (WideAt.sameKey_eq hs)
      obtain ⟨es, e, hap, _⟩ := hr.owns.entries M.K
      cases e
      have h2 := WideAt.atKey_mem (DataW.nil) (M.isKey (h.wf q hq)) hap hpm
      have h3 := hat DataW.nil
      rw [← hqx, h2, ey] at h3
      have h4 : M.mkV q.2 = M.mkV c := DataW.held.inj h3
      have h5 : q.2 = c := by have := M.un q.2; rw [h4, M.un] at this; exact (Option.some.inj this).symm
      rw [← hqx, ← h5]
      exact hq
    refine hMore x c w' cnt' hm (by rw [← hl x hx']; exact hlk) ⟨⟨ds, n, _, hrg, hp, fun z hz => ?_⟩, h.wf⟩ hlt hgr hsz hen
    rw [hl z hz, M.same hz hx']
theorem wp_len_kit (M : MapKit P k κ β) (w : World) (hg : o.guard = none) (m : Operand) (t : TypeId) (hop : o.op = Op.call { callee := Callee.builtin Builtin.len, args := #[m], argTypes := #[t] }) (e : TypeId) (ht : P.underlying t = some (.map k e)) (b : Nat) (l : List (κ × β)) (hm : a.eval m = .map (some b)) (h : M.Of w b l)
    (hK : wpList P ops Q rest (a.put o.dst (.int .i64 l.length)) w) : wpList P ops Q (o :: rest) a w := by
  obtain ⟨ds, ho, hp⟩ := h.own
  have e' : Maps.size (DataW.map ds) = l.length := by show ds.length = _; rw [hp.length_eq, List.length_map]
  exact wpList_len_own w hg m t hop k e ht M.R b ds.length (.map ds) hm ho (by rw [e']; exact hK)
end
/- One more that is no longer to come. -/
theorem filter_flip {κ β : Type} [DecidableEq κ] {l : List (κ × β)} (hap : l.Pairwise (fun p q => p.1 ≠ q.1)) {p : κ → Bool} {h : κ × β} (hm : h ∈ l) (hp : p h.1 = true) :
    (l.filter (fun y => !(p y.1 && !decide (y.1 = h.1)))).Perm (h :: l.filter (fun y => !p y.1)) := by
  induction l with
  | nil => cases hm
  | cons z s ih =>
    obtain ⟨hz, hs⟩ := List.pairwise_cons.1 hap
    rcases List.mem_cons.1 hm with rfl | hm'
    · have e : s.filter (fun y => !(p y.1 && !decide (y.1 = h.1))) = s.filter (fun y => !p y.1) := List.filter_congr (fun y hy => by simp [Ne.symm (hz y hy)])
      rw [List.filter_cons, if_pos (by simp), e, List.filter_cons, if_neg (by simp [hp])]
    · have hne : z.1 ≠ h.1 := hz h hm'
      have ih' := ih hs hm'
      rw [List.filter_cons, List.filter_cons]
      cases hpz : p z.1 with
      | true => rw [if_neg (by simp [hne]), if_neg (by simp)]; exact ih'
      | false =>
        rw [if_pos (by simp), if_pos (by simp)]
        exact (ih'.cons z).trans (List.Perm.swap h z _)
end Go.Proofs.YtcbcjefefmbccabGreatDoor
namespace Go.Proofs.YtcbcjefefmbccabGreatDoor

/- One byte more. -/
def pstep (n : Nat) (c : UInt8) : Nat := ((n ^^^ c.toNat) * 16777619) % 4294967296
def pmore (n : Nat) (l : List UInt8) : Nat := l.foldl pstep n

theorem pstep_lt (n : Nat) (c : UInt8) : pstep n c < 4294967296 := Nat.mod_lt _ (by decide)
theorem pmore_lt (n : Nat) (hn : n < 4294967296) (l : List UInt8) : pmore n l < 4294967296 := by
  unfold pmore
  induction l generalizing n with
  | nil => exact hn
  | cons c l ih => rw [List.foldl_cons]; exact ih _ (pstep_lt n c)
theorem pmore_append (n : Nat) (a b : List UInt8) : pmore n (a ++ b) = pmore (pmore n a) b := List.foldl_append
theorem pmore_cons (n : Nat) (c : UInt8) (l : List UInt8) : pmore n (c :: l) = pmore (pstep n c) l := by simp only [pmore, List.foldl_cons]
theorem pmore_nil (n : Nat) : pmore n [] = n := rfl
theorem pmore_snoc (n : Nat) (l : List UInt8) (c : UInt8) : pmore n (l ++ [c]) = pstep (pmore n l) c := (pmore_append n l [c]).trans ((pmore_cons (pmore n l) c []).trans (pmore_nil _))

theorem two32 : (2 : Nat) ^ 32 = 4294967296 := by decide
theorem xor_lt32 {a b : Nat} (ha : a < 4294967296) (hb : b < 4294967296) : a ^^^ b < 4294967296 := by
  rw [← two32] at *
  exact Nat.xor_lt_two_pow ha hb
theorem byte_lt32 (c : UInt8) : c.toNat < 4294967296 := by have := c.toNat_lt; omega
/- With one byte another one it is another sum. -/
/- Hex digits. -/
def hexDig (d : Nat) : UInt8 := if d < 10 then UInt8.ofNat (48 + d) else UInt8.ofNat (87 + d)
/- The k last hex digits of n. -/
def hexLast : Nat → Nat → List UInt8
  | _, 0 => []
  | n, k + 1 => hexLast (n / 16) k ++ [hexDig (n % 16)]
theorem hexLast_length (n k : Nat) : (hexLast n k).length = k := by
  induction k generalizing n with
  | zero => rfl
  | succ k ih => simp [hexLast, ih]
/- The value of one hex digit, none where it is none. -/
def unhex1 (c : UInt8) : Option Nat :=
  if 48 ≤ c.toNat ∧ c.toNat ≤ 57 then some (c.toNat - 48) else if 97 ≤ c.toNat ∧ c.toNat ≤ 102 then some (c.toNat - 87) else none
def unhex : Nat → List UInt8 → Option Nat
  | n, [] => some n
  | n, c :: l => match unhex1 c with | some d => unhex (16 * n + d) l | none => none
/- Decimal digits. -/
def undec1 (c : UInt8) : Option Nat := if 48 ≤ c.toNat ∧ c.toNat ≤ 57 then some (c.toNat - 48) else none
def undec : Nat → List UInt8 → Option Nat
  | n, [] => some n
  | n, c :: l => match undec1 c with | some d => undec (10 * n + d) l | none => none
/- What a number's text reads as: at most 'most' digits, no needless zero. -/
def numOf (l : List UInt8) (most : Nat) : Option Nat :=
  if l.length < 1 ∨ most < l.length ∨ (1 < l.length ∧ l.head? = some 48) then none else undec 0 l
/- Texts of IDs. -/
def idText (n l : Nat) : List UInt8 := hexLast n 8 ++ 45 :: Lib.decDigits l
/- An ID out of a text. -/
def idRead (t : List UInt8) : Option (Nat × Nat) :=
  if t.length ≤ 8 ∨ t[8]? ≠ some 45 then none else
    match unhex 0 (t.take 8), numOf (t.drop 9) 6 with
    | some n, some l => some (n, l)
    | _, _ => none
/- IDs: of a text; by print, then by length. -/
def idOfL (p : List UInt8) : Nat × Int := (pmore 2166136261 p, (p.length : Int))
def lessB (a b : Nat × Int) : Bool := if (a.1 : Int) = (b.1 : Int) then decide (a.2 < b.2) else decide ((a.1 : Int) < (b.1 : Int))
theorem lessB_iff (a b : Nat × Int) : lessB a b = true ↔ a.1 < b.1 ∨ (a.1 = b.1 ∧ a.2 < b.2) := by
  unfold lessB
  split
  · rename_i h
    simp only [decide_eq_true_eq]
    omega
  · rename_i h
    simp only [decide_eq_true_eq]
    omega
end Go.Proofs.YtcbcjefefmbccabGreatDoor
namespace Go.Proofs.YtcbcjefefmbccabGreatDoor
open Go.RowKit

theorem take_snoc (s : ByteArray) (k : Nat) (h : k < s.size) : s.data.toList.take (k + 1) = s.data.toList.take k ++ [s[k]] := by
  rw [List.take_succ_eq_append_getElem (by simpa using h)]; rfl
theorem ret_int {k : IntKind} {a b : Int} (h : a = b) : Ending.returned (.int k a) = .returned (.int k b) := by rw [h]
/- One step as the walk writes it. -/
theorem step_walk (n : Nat) (c : UInt8) (hn : n < 4294967296) : bits .xor .u32 (n : Int) ((c.toNat : Int) % 4294967296) * 16777619 % 4294967296 = ((pstep n c : Nat) : Int) := by
  have hc := byte_lt32 c
  rw [show ((c.toNat : Int) % 4294967296) = ((c.toNat : Nat) : Int) by omega, u32_xor_nat n c.toNat hn hc]
  unfold pstep
  rw [Int.natCast_emod, Int.natCast_mul]
  rfl

theorem i64_xor_nat (a b : Nat) (ha : a < 4294967296) (hb : b < 4294967296) : bits .xor .i64 (a : Int) (b : Int) = ((a ^^^ b : Nat) : Int) := by
  have hx := xor_lt32 ha hb
  have e64 : IntKind.i64.bits = 64 := rfl
  have p64 : (2 : Nat) ^ 64 = 18446744073709551616 := by decide
  have ha' : a % 2 ^ IntKind.i64.bits = a := Nat.mod_eq_of_lt (by rw [e64, p64]; omega)
  have hb' : b % 2 ^ IntKind.i64.bits = b := Nat.mod_eq_of_lt (by rw [e64, p64]; omega)
  simp only [bits, BitVec.ofInt_natCast, BitVec.toNat_xor, BitVec.toNat_ofNat, ha', hb']
  rw [IntKind.wrap_i64]
  omega
theorem step_walk64 (n : Nat) (c : UInt8) (hn : n < 4294967296) : (wrap64 (bits .xor .i64 (n : Int) (wrap64 (c.toNat : Int)) * 16777619)).tmod 4294967296 = ((pstep n c : Nat) : Int) := by
  have hc := byte_lt32 c
  have hx := xor_lt32 hn hc
  rw [IntWalk.wrap64_in (c.toNat : Int) (by omega), i64_xor_nat n c.toNat hn hc, IntWalk.wrap64_in _ (by omega)]
  unfold pstep
  rw [Int.tmod_eq_emod_of_nonneg (by omega), Int.natCast_emod, Int.natCast_mul]
  rfl

theorem more_any (n : Nat) (hn : n < 4294967296) (s : ByteArray) (w : World) (hs : s.size ≤ maxLen) :
    Calls Tryz.prog 174 #[.int .u32 n, .string s] w fun e w' => e = .returned (.int .u32 (pmore n s.data.toList : Nat)) ∧ w' = w := by
  unfold maxLen at hs
  go_enter Tryz.func174, Tryz.ntmps174
  go_wp2
  go_loop [0, 8] (fun q i => ∃ k : Nat, k ≤ s.size ∧ i = .int .i64 k ∧ q = .int .u32 (pmore n (s.data.toList.take k) : Nat)) (fun _ i => s.size - (intOf i).toNat)
  case atStart => exact ⟨0, Nat.zero_le _, rfl, by simp [pmore_nil]⟩
  case round =>
    obtain ⟨k, hk, rfl, rfl⟩ := hrel
    by_cases hlt : k < s.size
    · have hst := step_walk (pmore n (s.data.toList.take k)) s[k] (pmore_lt n hn _)
      rw [← pmore_snoc, ← take_snoc s k hlt] at hst
      have HS := hst
      clear hst
      generalize pmore n (s.data.toList.take k) = m at *
      have HS' : Hid (bits .xor .u32 (m : Int) ((s[k].toNat : Int) % 4294967296) * 16777619 % 4294967296 = ((pmore n (s.data.toList.take (k + 1)) : Nat) : Int)) := HS
      clear HS
      go_wp2
      go_round
      case rel => exact ⟨k + 1, by omega, by go_num, by rw [HS'.out]⟩
      case measure => simp [intOf]; omega
    · go_wp2
      go_ret
      exact ⟨ret_int (by rw [List.take_of_length_le (by simp; omega)]), rfl⟩
theorem of_any (s : ByteArray) (w : World) (hs : s.size ≤ maxLen) :
    Calls Tryz.prog 131 #[.string s] w fun e w' => e = .returned (.int .u32 (pmore 2166136261 s.data.toList : Nat)) ∧ w' = w := by
  go_enter Tryz.func131, Tryz.ntmps131
  go_wp2_with fail
  refine (more_any 2166136261 (by decide) s _ hs).mono ?_
  rintro e w' ⟨rfl, rfl⟩
  go_wp2_with fail
  go_ret
  exact ⟨rfl, rfl⟩

/- An ID as a value. -/
abbrev idV (n l : Int) : Value := .agg #[.int .u32 n, .int .i64 l]

theorem id_any (s : ByteArray) (w : World) (hs : s.size ≤ maxLen) :
    Calls Tryz.prog 125 #[.string s] w fun e w' => e = .returned (idV (pmore 2166136261 s.data.toList : Nat) s.size) ∧ Below w.heap.size w w' := by
  have hs' := hs
  unfold maxLen at hs'
  go_enter Tryz.func125, Tryz.ntmps125
  go_wp2_with fail
  refine (of_any s _ hs).mono ?_
  rintro e w' ⟨rfl, rfl⟩
  go_wp2_with fail
  exact bodyPost_ret (v := idV (pmore 2166136261 s.data.toList : Nat) s.size) (by simp [results, Tryz.results125, go_sem]) rfl ⟨rfl, (Below.refl _ _).alloc (Nat.le_refl _) _⟩
theorem printFrom_any (n : Nat) (hn : n < 4294967296) (s : ByteArray) (w : World) (hs : s.size ≤ maxLen) :
    Calls Tryz.prog 159 #[.int .u32 n, .string s] w fun e w' => e = .returned (.int .u32 (pmore n s.data.toList : Nat)) ∧ w' = w := by
  unfold maxLen at hs
  go_enter Tryz.func159, Tryz.ntmps159
  go_wp2
  go_loop [5, 6] (fun q i => ∃ k : Nat, k ≤ s.size ∧ i = .int .i64 k ∧ q = .int .i64 (pmore n (s.data.toList.take k) : Nat)) (fun _ i => s.size - (intOf i).toNat)
  case atStart => exact ⟨0, Nat.zero_le _, rfl, by simp [pmore_nil]⟩
  case round =>
    obtain ⟨k, hk, rfl, rfl⟩ := hrel
    have hml := pmore_lt n hn (s.data.toList.take k)
    by_cases hlt : k < s.size
    · have hst := step_walk64 (pmore n (s.data.toList.take k)) s[k] hml
      rw [← pmore_snoc, ← take_snoc s k hlt] at hst
      generalize pmore n (s.data.toList.take k) = m at *
      have HS : Hid ((wrap64 (bits .xor .i64 (m : Int) (wrap64 (s[k].toNat : Int)) * 16777619)).tmod 4294967296 = ((pmore n (s.data.toList.take (k + 1)) : Nat) : Int)) := hst
      clear hst
      go_wp2
      go_round
      case rel => exact ⟨k + 1, by omega, by go_num, by rw [HS.out]⟩
      case measure => simp [intOf]; omega
    · go_wp2
      go_ret
      exact ⟨ret_int (by rw [List.take_of_length_le (by simp; omega)]), rfl⟩
theorem printOf_any (s : ByteArray) (w : World) (hs : s.size ≤ maxLen) :
    Calls Tryz.prog 98 #[.string s] w fun e w' => e = .returned (.int .u32 (pmore 2166136261 s.data.toList : Nat)) ∧ w' = w := by
  go_enter Tryz.func98, Tryz.ntmps98
  go_wp2_with fail
  refine (printFrom_any 2166136261 (by decide) s _ hs).mono ?_
  rintro e w' ⟨rfl, rfl⟩
  go_wp2_with fail
  go_ret
  exact ⟨rfl, rfl⟩
theorem idOf_any (s : ByteArray) (w : World) (hs : s.size ≤ maxLen) :
    Calls Tryz.prog 40 #[.string s] w fun e w' => e = .returned (idV (pmore 2166136261 s.data.toList : Nat) s.size) ∧ Below w.heap.size w w' := by
  have hs' := hs
  unfold maxLen at hs'
  go_enter Tryz.func40, Tryz.ntmps40
  go_wp2_with fail
  refine (printOf_any s _ hs).mono ?_
  rintro e w' ⟨rfl, rfl⟩
  go_wp2_with fail
  exact bodyPost_ret (v := idV (pmore 2166136261 s.data.toList : Nat) s.size) (by simp [results, Tryz.results40, go_sem]) rfl ⟨rfl, (Below.refl _ _).alloc (Nat.le_refl _) _⟩
theorem less_any (a b c d : Int) (w : World) :
    Calls Tryz.prog 87 #[idV a b, idV c d] w fun e w' => e = .returned (.bool (if a = c then decide (b < d) else decide (a < c))) ∧ Below w.heap.size w w' := by
  by_cases h : a = c
  · subst h
    go_enter Tryz.func87, Tryz.ntmps87
    go_wp2
    go_ret
    exact ⟨by simp, ((Below.refl _ _).alloc (Nat.le_refl _) _).alloc (by simp) _⟩
  · have h' : (a != c) = true := by simpa using h
    go_enter Tryz.func87, Tryz.ntmps87
    go_wp2
    go_ret
    exact ⟨by simp, ((Below.refl _ _).alloc (Nat.le_refl _) _).alloc (by simp) _⟩
theorem isLess_any (a b c d : Int) (w : World) :
    Calls Tryz.prog 68 #[idV a b, idV c d] w fun e w' => e = .returned (.bool (if a = c then decide (b < d) else decide (a < c))) ∧ Below w.heap.size w w' := by
  by_cases h : a = c
  · subst h
    go_enter Tryz.func68, Tryz.ntmps68
    go_wp2
    go_ret
    exact ⟨by simp, ((Below.refl _ _).alloc (Nat.le_refl _) _).alloc (by simp) _⟩
  · have h' : (a != c) = true := by simpa using h
    go_enter Tryz.func68, Tryz.ntmps68
    go_wp2
    go_ret
    exact ⟨by simp, ((Below.refl _ _).alloc (Nat.le_refl _) _).alloc (by simp) _⟩
end Go.Proofs.YtcbcjefefmbccabGreatDoor
namespace Go.Proofs.YtcbcjefefmbccabGreatDoor
open Go.RowKit

/- A piece of a bin: its ID, how often it is used, its text. -/
/- An ID whose numbers are such of their types. -/
def WfID (x : Nat × Int) : Prop := x.1 < 4294967296 ∧ -9223372036854775808 ≤ x.2 ∧ x.2 ≤ 9223372036854775807
abbrev Hd := (Nat × Int) × Int × List UInt8
abbrev heldV (h : Hd) : Value := .agg #[.int .u32 (h.1.1 : Nat), .int .i64 h.1.2, .int .i64 h.2.1, .string ⟨h.2.2.toArray⟩]
def heldCells : List Hd → List Value
  | [] => []
  | h :: r => .int .u32 (h.1.1 : Nat) :: .int .i64 h.1.2 :: .int .i64 h.2.1 :: .string ⟨h.2.2.toArray⟩ :: heldCells r
theorem heldCells_append : ∀ (a b : List Hd), heldCells (a ++ b) = heldCells a ++ heldCells b
  | [], _ => rfl
  | x :: r, b => by rw [List.cons_append, heldCells, heldCells_append r b, heldCells]; rfl
theorem heldCells_length : ∀ (a : List Hd), (heldCells a).length = a.length * 4
  | [] => rfl
  | x :: r => by rw [heldCells, List.length_cons, List.length_cons, List.length_cons, List.length_cons, heldCells_length r, List.length_cons]; omega
theorem heldCells_at : ∀ (a : List Hd) (i : Nat) (h : i < a.length), (heldCells a)[i * 4]? = some (.int .u32 (a[i].1.1 : Nat)) ∧ (heldCells a)[i * 4 + 1]? = some (.int .i64 a[i].1.2) ∧ (heldCells a)[i * 4 + 2]? = some (.int .i64 a[i].2.1) ∧ (heldCells a)[i * 4 + 3]? = some (.string ⟨a[i].2.2.toArray⟩)
  | x :: r, 0, _ => ⟨rfl, rfl, rfl, rfl⟩
  | x :: r, i + 1, h => by
    have := heldCells_at r i (by simpa using h)
    rw [show (i + 1) * 4 = i * 4 + 1 + 1 + 1 + 1 by omega]
    exact this
theorem heldCells_one (l : List Hd) : ∀ u ∈ heldCells l, u.oneCell' = true := by
  induction l with
  | nil => simp [heldCells]
  | cons x r ih =>
    intro u hu
    simp only [heldCells, List.mem_cons] at hu
    rcases hu with rfl | rfl | rfl | rfl | hu
    · rfl
    · rfl
    · rfl
    · rfl
    · exact ih u hu

/- Where a piece is. -/
def hFind : List Hd → Nat × Int → Option Nat
  | [], _ => none
  | h :: r, x => if h.1 = x then some 0 else (hFind r x).map (· + 1)
def findI (l : List Hd) (x : Nat × Int) : Int := match hFind l x with | some k => (k : Int) | none => -1
theorem hFind_some : ∀ {l : List Hd} {x : Nat × Int} {k : Nat}, hFind l x = some k → ∃ h : k < l.length, l[k].1 = x
  | [], _, _, h => by cases h
  | y :: r, x, k, h => by
    rw [hFind] at h
    split at h
    · rename_i he
      cases h
      exact ⟨by simp, he⟩
    · cases hr : hFind r x with
      | none => rw [hr] at h; cases h
      | some j =>
        rw [hr] at h
        cases h
        obtain ⟨hj, he⟩ := hFind_some hr
        exact ⟨by simpa using hj, by simpa using he⟩
theorem hFind_not : ∀ {l : List Hd} {x : Nat × Int}, hFind l x = none → ∀ h ∈ l, h.1 ≠ x
  | [], _, _, _, hm => by cases hm
  | y :: r, x, h, z, hm => by
    rw [hFind] at h
    split at h
    · cases h
    · rename_i hne
      cases hr : hFind r x with
      | some j => rw [hr] at h; cases h
      | none =>
        rcases List.mem_cons.1 hm with rfl | hm
        · exact hne
        · exact hFind_not hr z hm
/- Where it comes by its ID. -/
def hPlace : List Hd → Nat × Int → Nat
  | [], _ => 0
  | h :: r, x => if lessB h.1 x = true then hPlace r x + 1 else 0
theorem hPlace_le : ∀ (l : List Hd) (x : Nat × Int), hPlace l x ≤ l.length
  | [], _ => Nat.le_refl _
  | h :: r, x => by
    rw [hPlace]
    split
    · have := hPlace_le r x; simp; omega
    · simp
def hIns (l : List Hd) (h : Hd) : List Hd := l.take (hPlace l h.1) ++ h :: l.drop (hPlace l h.1)
def hUse (d : Int) (h : Hd) : Hd := (h.1, h.2.1 + d, h.2.2)
def hPut (l : List Hd) (s : List UInt8) : ((Nat × Int) × Bool × Int) × List Hd :=
  if s.length < 1 ∨ 64 < s.length then (((0, 0), false, 2), l) else
    match hFind l (idOfL s) with
    | some k => if (l[k]?.map (·.2.2)) = some s then ((idOfL s, false, 0), l.modify k (hUse 1)) else (((0, 0), false, 10), l)
    | none => if 250 ≤ l.length then (((0, 0), false, 7), l) else ((idOfL s, true, 0), hIns l (idOfL s, 1, s))
def hDrop (l : List Hd) (x : Nat × Int) : Int × List Hd :=
  match hFind l x with
  | some k => if (l[k]?.map (·.2.1)) = some 0 then (11, l) else (0, l.modify k (hUse (-1)))
  | none => (5, l)
def unused (h : Hd) : Bool := decide (h.2.1 = 0)
def hSize (l : List Hd) : Int := (l.map (·.1.2)).sum
def hSweep (l : List Hd) : Int × List Hd := (hSize (l.filter unused), l.filter (fun h => !unused h))
end Go.Proofs.YtcbcjefefmbccabGreatDoor
namespace Go.Proofs.YtcbcjefefmbccabGreatDoor

theorem lessB_trans {a b c : Nat × Int} (h1 : lessB a b = true) (h2 : lessB b c = true) : lessB a c = true := by
  rw [lessB_iff] at *
  omega
theorem lessB_irrefl (a : Nat × Int) : lessB a a = false := by
  cases h : lessB a a with
  | false => rfl
  | true => rw [lessB_iff] at h; omega
theorem lessB_flip {a b : Nat × Int} (h : lessB a b = false) (hn : a ≠ b) : lessB b a = true := by
  rw [lessB_iff]
  have h' : ¬ (a.1 < b.1 ∨ (a.1 = b.1 ∧ a.2 < b.2)) := fun e => by rw [← lessB_iff, h] at e; cases e
  have h2 : ¬ (a.1 = b.1 ∧ a.2 = b.2) := fun e => hn (Prod.ext e.1 e.2)
  omega
theorem lessB_ne {a b : Nat × Int} (h : lessB a b = true) : a ≠ b := fun e => by subst e; rw [lessB_irrefl] at h; cases h

def Rise (l : List Hd) : Prop := l.Pairwise (fun a b => lessB a.1 b.1 = true)
structure BinOk (U : Int) (l : List Hd) : Prop where
  many : l.length ≤ 250
  each : ∀ h ∈ l, h.1 = idOfL h.2.2 ∧ (1 ≤ h.2.2.length ∧ h.2.2.length ≤ 64) ∧ 0 ≤ h.2.1 ∧ h.2.1 ≤ U
  rise : Rise l
theorem BinOk.nil (U : Int) : BinOk U [] := ⟨by simp, (fun h hm => by simp at hm), List.Pairwise.nil⟩
theorem BinOk.mono {U V : Int} {l : List Hd} (h : BinOk U l) (hv : U ≤ V) : BinOk V l := ⟨h.many, fun x hx => by obtain ⟨a, b, c, d⟩ := h.each x hx; exact ⟨a, b, c, by omega⟩, h.rise⟩
theorem BinOk.uses {U V : Int} {l : List Hd} (h : BinOk U l) (hv : U ≤ V) : ∀ x ∈ l, 0 ≤ x.2.1 ∧ x.2.1 ≤ V := fun x hx => by
  obtain ⟨_, _, a, b⟩ := h.each x hx
  omega

theorem take_place : ∀ (l : List Hd) (x : Nat × Int), ∀ h ∈ l.take (hPlace l x), lessB h.1 x = true
  | [], _, h, hm => by simp at hm
  | y :: r, x, h, hm => by
    rw [hPlace] at hm
    split at hm
    · rename_i hy
      rw [List.take_succ_cons] at hm
      rcases List.mem_cons.1 hm with rfl | hm
      · exact hy
      · exact take_place r x h hm
    · simp at hm
theorem drop_place : ∀ (l : List Hd) (x : Nat × Int), Rise l → (∀ h ∈ l, h.1 ≠ x) → ∀ h ∈ l.drop (hPlace l x), lessB x h.1 = true
  | [], _, _, _, h, hm => by simp at hm
  | y :: r, x, hr, hn, h, hm => by
    rw [hPlace] at hm
    obtain ⟨hy, hr'⟩ := List.pairwise_cons.1 hr
    split at hm
    · rw [List.drop_succ_cons] at hm
      exact drop_place r x hr' (fun z hz => hn z (List.mem_cons_of_mem _ hz)) h hm
    · rename_i hnl
      have h1 : lessB x y.1 = true := lessB_flip (by simpa using hnl) (hn y (List.mem_cons_self ..))
      rw [List.drop_zero] at hm
      rcases List.mem_cons.1 hm with rfl | hm
      · exact h1
      · exact lessB_trans h1 (hy h hm)
theorem hIns_rise {l : List Hd} {h : Hd} (hr : Rise l) (hn : ∀ x ∈ l, x.1 ≠ h.1) : Rise (hIns l h) := by
  unfold hIns Rise
  have ht := take_place l h.1
  have hd := drop_place l h.1 hr hn
  have hs : (l.take (hPlace l h.1) ++ l.drop (hPlace l h.1)).Pairwise (fun a b => lessB a.1 b.1 = true) := by rw [List.take_append_drop]; exact hr
  obtain ⟨h1, h2, h3⟩ := List.pairwise_append.1 hs
  refine List.pairwise_append.2 ⟨h1, List.pairwise_cons.2 ⟨hd, h2⟩, fun a ha b hb => ?_⟩
  rcases List.mem_cons.1 hb with rfl | hb
  · exact ht a ha
  · exact h3 a ha b hb
theorem hIns_mem {l : List Hd} {h x : Hd} (hx : x ∈ hIns l h) : x = h ∨ x ∈ l := by
  unfold hIns at hx
  rcases List.mem_append.1 hx with hx | hx
  · exact .inr (List.mem_of_mem_take hx)
  · rcases List.mem_cons.1 hx with rfl | hx
    · exact .inl rfl
    · exact .inr (List.mem_of_mem_drop hx)
theorem mem_hIns {l : List Hd} {h x : Hd} (hx : x = h ∨ x ∈ l) : x ∈ hIns l h := by
  unfold hIns
  rcases hx with rfl | hx
  · exact List.mem_append_right _ (List.mem_cons_self ..)
  · have : x ∈ l.take (hPlace l h.1) ++ l.drop (hPlace l h.1) := by rw [List.take_append_drop]; exact hx
    rcases List.mem_append.1 this with h1 | h1
    · exact List.mem_append_left _ h1
    · exact List.mem_append_right _ (List.mem_cons_of_mem _ h1)
theorem hIns_length (l : List Hd) (h : Hd) : (hIns l h).length = l.length + 1 := by
  have := hPlace_le l h.1
  unfold hIns
  simp
  omega
theorem modify_rise {l : List Hd} (k : Nat) (d : Int) (hr : Rise l) : Rise (l.modify k (hUse d)) := by
  unfold Rise at *
  rw [List.pairwise_iff_getElem] at *
  intro i j hi hj hij
  rw [List.length_modify] at hi hj
  have := hr i j hi hj hij
  rw [List.getElem_modify, List.getElem_modify]
  split <;> split <;> simpa [hUse] using this
theorem modify_mem {l : List Hd} {k : Nat} {d : Int} {x : Hd} (hx : x ∈ l.modify k (hUse d)) : ∃ y ∈ l, x = y ∨ (x = hUse d y ∧ ∃ h : k < l.length, l[k] = y) := by
  obtain ⟨i, hi, rfl⟩ := List.getElem_of_mem hx
  rw [List.length_modify] at hi
  rw [List.getElem_modify]
  split
  · rename_i e
    subst e
    exact ⟨l[k], List.getElem_mem _, .inr ⟨rfl, hi, rfl⟩⟩
  · exact ⟨l[i], List.getElem_mem _, .inl rfl⟩
theorem hPut_ok {U : Int} {l : List Hd} (h : BinOk U l) (s : List UInt8) (hU : 0 ≤ U) : BinOk (U + 1) (hPut l s).2 := by
  unfold hPut
  split
  · exact h.mono (by omega)
  · rename_i hs
    split
    · rename_i k hf
      split
      · refine ⟨by rw [List.length_modify]; exact h.many, fun x hx => ?_, modify_rise k 1 h.rise⟩
        obtain ⟨y, hy, e⟩ := modify_mem hx
        obtain ⟨a, b, c, d⟩ := h.each y hy
        rcases e with rfl | ⟨rfl, _⟩
        · exact ⟨a, b, c, by omega⟩
        · exact ⟨a, b, by show 0 ≤ y.2.1 + 1; omega, by show y.2.1 + 1 ≤ U + 1; omega⟩
      · exact h.mono (by omega)
    · rename_i hf
      split
      · exact h.mono (by omega)
      · rename_i hl
        refine ⟨by rw [hIns_length]; omega, fun x hx => ?_, hIns_rise h.rise (hFind_not hf)⟩
        rcases hIns_mem hx with rfl | hx
        · exact ⟨rfl, by show 1 ≤ s.length ∧ s.length ≤ 64; omega, by show (0 : Int) ≤ 1; decide, by show (1 : Int) ≤ U + 1; omega⟩
        · obtain ⟨a, b, c, d⟩ := h.each x hx
          exact ⟨a, b, c, by omega⟩
theorem hDrop_ok {U : Int} {l : List Hd} (h : BinOk U l) (x : Nat × Int) : BinOk U (hDrop l x).2 := by
  unfold hDrop
  split
  · rename_i k hf
    split
    · exact h
    · rename_i hz
      refine ⟨by rw [List.length_modify]; exact h.many, fun z hx => ?_, modify_rise k (-1) h.rise⟩
      obtain ⟨y, hy, e⟩ := modify_mem hx
      obtain ⟨a, b, c, d⟩ := h.each y hy
      rcases e with rfl | ⟨rfl, hk, rfl⟩
      · exact ⟨a, b, c, d⟩
      · have hne : l[k].2.1 ≠ 0 := fun e => hz (by rw [List.getElem?_eq_getElem hk, Option.map_some, e])
        exact ⟨a, b, by show 0 ≤ l[k].2.1 + -1; omega, by show l[k].2.1 + -1 ≤ U; omega⟩
  · exact h
theorem hSweep_ok {U : Int} {l : List Hd} (h : BinOk U l) : BinOk U (hSweep l).2 :=
  ⟨Nat.le_trans (List.length_filter_le _ _) h.many, fun x hx => h.each x (List.mem_filter.1 hx).1, h.rise.filter _⟩
/- In order: what is there is found. -/
theorem rise_inj {l : List Hd} (hr : Rise l) {x y : Hd} (hx : x ∈ l) (hy : y ∈ l) (e : x.1 = y.1) : x = y := by
  obtain ⟨i, hi, rfl⟩ := List.getElem_of_mem hx
  obtain ⟨j, hj, rfl⟩ := List.getElem_of_mem hy
  unfold Rise at hr
  rw [List.pairwise_iff_getElem] at hr
  rcases Nat.lt_trichotomy i j with h | h | h
  · exact (lessB_ne (hr i j hi hj h) e).elim
  · subst h; rfl
  · exact (lessB_ne (hr j i hj hi h) e.symm).elim
theorem hFind_mem {l : List Hd} {x : Hd} (hx : x ∈ l) : ∃ k, hFind l x.1 = some k := by
  cases h : hFind l x.1 with
  | some k => exact ⟨k, rfl⟩
  | none => exact (hFind_not h x hx rfl).elim
/- Two lists in order that hold the same pieces are one. -/
theorem rise_ext : ∀ {a b : List Hd}, Rise a → Rise b → (∀ x, x ∈ a ↔ x ∈ b) → a = b
  | [], [], _, _, _ => rfl
  | [], y :: r, _, _, h => by have := (h y).2 (List.mem_cons_self ..); cases this
  | x :: r, [], _, _, h => by have := (h x).1 (List.mem_cons_self ..); cases this
  | x :: r, y :: t, ha, hb, h => by
    obtain ⟨ha1, ha2⟩ := List.pairwise_cons.1 ha
    obtain ⟨hb1, hb2⟩ := List.pairwise_cons.1 hb
    have exy : x = y := by
      rcases List.mem_cons.1 ((h x).1 (List.mem_cons_self ..)) with e | hx
      · exact e
      · rcases List.mem_cons.1 ((h y).2 (List.mem_cons_self ..)) with e | hy
        · exact e.symm
        · have h1 := hb1 x hx
          have h2 := ha1 y hy
          have := lessB_trans h1 h2
          rw [lessB_irrefl] at this
          cases this
    subst exy
    congr 1
    refine rise_ext ha2 hb2 fun z => ⟨fun hz => ?_, fun hz => ?_⟩
    · rcases List.mem_cons.1 ((h z).1 (List.mem_cons_of_mem _ hz)) with e | hz'
      · subst e; exact (lessB_ne (ha1 z hz) rfl).elim
      · exact hz'
    · rcases List.mem_cons.1 ((h z).2 (List.mem_cons_of_mem _ hz)) with e | hz'
      · subst e; exact (lessB_ne (hb1 z hz) rfl).elim
      · exact hz'
end Go.Proofs.YtcbcjefefmbccabGreatDoor
