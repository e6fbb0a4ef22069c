/-
  Own text. Maps in memory as association lists, up to their order: a kit of a map's key and element shapes (MapKit), block b is a map that holds just l (MapKit.Of), a range over it under way (MapKit.Rng); look-up, store, len, range, next, delete.
-/
import Derived.Maps.Ext
import Derived.Maps.RangeWalk
import Derived.Maps.OwnSet
namespace Go.Proofs.YtjngnnbondejaabDoor
open Go.RowKit Go.Maps

structure MapKit (P : Program) (k : TypeId) (κ β : Type) where
  mkK : κ → Value
  wf : κ → Prop
  mkV : β → Value
  unV : Value → Option β
  K : Keyed P k
  key : ∀ x, wf x → ∃ kl, keyOf P k (mkK x) = some kl
  inv : ∀ v kl, keyOf P k v = some kl → ∃ x, wf x ∧ v = mkK x
  inj : ∀ x y, mkK x = mkK y → x = y
  un : ∀ c, unV (mkV c) = some c
  back : ∀ v c, unV v = some c → v = mkV c

variable {P : Program} {k : TypeId} {κ β : Type} (M : MapKit P k κ β)
def MapKit.kl (x : κ) : Lit := (keyOf P k (M.mkK x)).getD (.bool false)
def MapKit.R (v : Value) : Option (DataW Value × List MemPlace) := (M.unV v).map (fun _ => (.held v, []))
def MapKit.ent (h : κ × β) : Lit × DataW Value := (M.kl h.1, .held (M.mkV h.2))
theorem MapKit.key_kl {x : κ} (h : M.wf x) : keyOf P k (M.mkK x) = some (M.kl x) := by
  obtain ⟨kl, e⟩ := M.key x h
  unfold MapKit.kl
  rw [e]
  rfl
theorem MapKit.kl_inj {x y : κ} (hx : M.wf x) (hy : M.wf y) (e : M.kl x = M.kl y) : x = y := M.inj _ _ (M.K.inj (M.key_kl hx) (e ▸ M.key_kl hy))
theorem MapKit.isKey {x : κ} (h : M.wf x) : WideAt.IsKeyLit (M.kl x) := M.K.key (M.key_kl h)
theorem MapKit.same [DecidableEq κ] {x y : κ} (hx : M.wf x) (hy : M.wf y) : (M.kl x).sameKey (M.kl y) = decide (x = y) := by
  by_cases e : x = y
  · subst e
    rw [WideAt.sameKey_self (M.isKey hx)]
    simp
  · rw [Maps.sameKey_ne (fun h => e (M.kl_inj hx hy h))]
    simp [e]
theorem MapKit.R_mk (c : β) : M.R (M.mkV c) = some (.held (M.mkV c), []) := by
  unfold MapKit.R
  rw [M.un]
  rfl
theorem MapKit.R_inv {v : Value} {y : DataW Value × List MemPlace} (h : M.R v = some y) : ∃ c, v = M.mkV c ∧ y = (.held v, []) := by
  unfold MapKit.R at h
  cases hu : M.unV v with
  | none => rw [hu] at h; cases h
  | some c => rw [hu] at h; cases h; exact ⟨c, M.back v c hu, rfl⟩

/- Block b is a map that holds just l. -/
structure MapKit.Of (w : World) (b : Nat) (l : List (κ × β)) : Prop where
  own : ∃ ds, w.ownsMap P k M.R b ds.length (.map ds) ∧ ds.Perm (l.map M.ent)
  wf : ∀ h ∈ l, M.wf h.1
theorem ownsMap_tight {w : World} {b n : Nat} {R : Value → Option (DataW Value × List MemPlace)} {ds : List (Lit × DataW Value)} (h : w.ownsMap P k R b n (.map ds)) : w.ownsMap P k R b ds.length (.map ds) := by
  obtain ⟨es, clock, hb, F, _, hD⟩ := h
  have e : ds = (es.toList.map (WideElems.rg P k R)).foldr DataW.insert [] := DataW.map.inj hD
  exact ⟨es, clock, hb, F, by rw [e, length_sorted]; simp, hD⟩
variable {M} {w w' : World} {b r : Nat} {l l' : List (κ × β)}
theorem MapKit.Of.lt (h : M.Of w b l) : b < w.heap.size := by
  obtain ⟨ds, ho, _⟩ := h.own
  exact ho.lt
theorem MapKit.Of.made (M : MapKit P k κ β) (w : World) : M.Of (w.alloc (.map #[] 0)) w.heap.size [] := ⟨⟨[], World.ownsMap_made w P k M.R, List.Perm.refl _⟩, fun h hm => by simp at hm⟩
theorem MapKit.Of.kept {row : Option Nat} (h : M.Of w b l) (hg : w.grownBy w' row) (hr : some b ≠ row) : M.Of w' b l := by
  obtain ⟨ds, ho, hp⟩ := h.own
  exact ⟨⟨ds, ho.kept hg hr, hp⟩, h.wf⟩
theorem MapKit.Of.perm (h : M.Of w b l) (hp : l.Perm l') : M.Of w b l' := by
  obtain ⟨ds, ho, hd⟩ := h.own
  exact ⟨⟨ds, ho, hd.trans (hp.map _)⟩, fun x hx => h.wf x (hp.mem_iff.2 hx)⟩
/- w' holds at b what w held there. -/
theorem MapKit.Of.moved {b' : Nat} (h : M.Of w b l) (e : w'.heap[b']? = w.heap[b]?) : M.Of w' b' l := by
  obtain ⟨ds, ⟨es, clock, hb, F, hs, hD⟩, hp⟩ := h.own
  exact ⟨⟨ds, ⟨es, clock, e.trans hb, F, hs, hD⟩, hp⟩, h.wf⟩
theorem MapKit.Of.isMap (h : M.Of w b l) : ∃ es clock, w.heap[b]? = some (.map es clock) := by
  obtain ⟨ds, ⟨es, clock, hb, _⟩, _⟩ := h.own
  exact ⟨es, clock, hb⟩
theorem ents_apart {ds : List (Lit × DataW Value)} (hap : ds.Pairwise (fun p q => p.1 ≠ q.1)) (hp : ds.Perm (l.map M.ent)) : l.Pairwise (fun p q => p.1 ≠ q.1) := by
  have h1 : (l.map M.ent).Pairwise (fun p q => p.1 ≠ q.1) := (hp.pairwise_iff (fun {_ _} hne => Ne.symm hne)).1 hap
  rw [List.pairwise_map] at h1
  exact h1.imp (fun hne e => hne (by unfold MapKit.ent; simp only; rw [e]))
theorem MapKit.Of.apart (h : M.Of w b l) : l.Pairwise (fun p q => p.1 ≠ q.1) := by
  obtain ⟨ds, ho, hp⟩ := h.own
  obtain ⟨es, e, hap, _⟩ := ho.entries M.K
  cases e
  exact ents_apart hap hp
theorem MapKit.Of.len {t e : TypeId} (h : M.Of w b l) (ht : P.underlying t = some (.map k e)) (ty : TypeId) : (Builtin.len_ #[t] ty #[.map (some b)]).run P w = .ok (.int .i64 l.length) w := by
  obtain ⟨ds, ho, hp⟩ := h.own
  have := ho.len ht ty
  rw [this]
  show Result.ok (Value.int .i64 (ds.length : Nat)) w = _
  rw [hp.length_eq, List.length_map]
theorem MapKit.Of.look_none {t e : TypeId} {c0 : β} (h : M.Of w b l) (ht : P.underlying t = some (.map k e)) (hz : (zeroValue e).run P w = .ok (M.mkV c0) w) {x : κ} (hx : M.wf x) (hn : ∀ h ∈ l, h.1 ≠ x) :
    (Instr.lookup t (.map (some b)) (M.mkK x) true).run P w = .ok (.tuple #[M.mkV c0, .bool false]) w := by
  obtain ⟨ds, ho, hp⟩ := h.own
  have hno : ∀ p ∈ ds, p.1 ≠ M.kl x := fun p hm e => by
    obtain ⟨y, hy, rfl⟩ := List.mem_map.1 (hp.mem_iff.1 hm)
    exact hn y hy (M.kl_inj (h.wf y hy) hx e)
  obtain ⟨v, ps, hrun, hv⟩ := ho.look_ok M.K ht hz (M.R_mk c0) (M.key_kl hx)
  rw [WideAt.atKey_none _ hno] at hv
  obtain ⟨c, rfl, e⟩ := M.R_inv hv
  have ev : M.mkV c0 = M.mkV c := DataW.held.inj (Prod.mk.inj e).1
  rw [hrun, Maps.has_false_of_atKey (fun z => WideAt.atKey_none z hno), ev]
theorem MapKit.Of.look_some {t e : TypeId} {c0 : β} (h : M.Of w b l) (ht : P.underlying t = some (.map k e)) (hz : (zeroValue e).run P w = .ok (M.mkV c0) w) {x : κ} {c : β} (hm : (x, c) ∈ l) :
    (Instr.lookup t (.map (some b)) (M.mkK x) true).run P w = .ok (.tuple #[M.mkV c, .bool true]) w := by
  have hx : M.wf x := h.wf _ hm
  obtain ⟨ds, ho, hp⟩ := h.own
  obtain ⟨es, e, hap, _⟩ := ho.entries M.K
  cases e
  have hd : (M.kl x, DataW.held (M.mkV c)) ∈ ds := hp.mem_iff.2 (List.mem_map.2 ⟨_, hm, rfl⟩)
  have hat : ∀ z, (DataW.map ds).atKey (M.kl x) z = .held (M.mkV c) := fun z => WideAt.atKey_mem z (M.isKey hx) hap hd
  obtain ⟨v, ps, hrun, hv⟩ := ho.look_ok M.K ht hz (M.R_mk c0) (M.key_kl hx)
  rw [hat] at hv
  obtain ⟨c', rfl, e⟩ := M.R_inv hv
  have ev : M.mkV c = M.mkV c' := DataW.held.inj (Prod.mk.inj e).1
  rw [hrun, Maps.has_true_of_atKey hat, ev]
/- What a key's entry leaves. -/
theorem filter_ents [DecidableEq κ] {x : κ} (hx : M.wf x) : ∀ (l : List (κ × β)), (∀ h ∈ l, M.wf h.1) → (l.map M.ent).filter (ChangeMaps.notKey (M.kl x)) = (l.filter (fun h => !decide (h.1 = x))).map M.ent
  | [], _ => rfl
  | y :: r, hw => by
    have ih := filter_ents hx r (fun h hm => hw h (List.mem_cons_of_mem _ hm))
    have e : ChangeMaps.notKey (M.kl x) (M.ent y) = !decide (y.1 = x) := by
      unfold ChangeMaps.notKey MapKit.ent
      simp only
      rw [M.same (hw y (List.mem_cons_self ..)) hx]
    rw [List.map_cons, List.filter_cons, List.filter_cons, e, ih]
    by_cases h : y.1 = x <;> simp [h]
theorem insert_perm (x : Lit × DataW Value) : ∀ (l : List (Lit × DataW Value)), (DataW.insert x l).Perm (x :: l)
  | [] => List.Perm.refl _
  | y :: r => by
    unfold DataW.insert
    split
    · exact List.Perm.refl _
    · exact ((insert_perm x r).cons y).trans (List.Perm.swap x y r)
theorem MapKit.Of.store [DecidableEq κ] {t e : TypeId} (h : M.Of w b l) (ht : P.underlying t = some (.map k e)) {x : κ} (hx : M.wf x) (c : β) (hl : l.length < maxLen) :
    ∃ w', (Instr.mapUpdate t (.map (some b)) (M.mkK x) (M.mkV c)).run P w = .ok () w' ∧ (∀ l', ((x, c) :: l.filter (fun h => !decide (h.1 = x))).Perm l' → M.Of w' b l') ∧ w.grownBy w' (some b) := by
  obtain ⟨ds, ho, hp⟩ := h.own
  have hlen : ds.length = l.length := by rw [hp.length_eq, List.length_map]
  obtain ⟨w', hrun, ho', hg⟩ := ho.update M.K ht (by omega) (M.key_kl hx) (M.R_mk c)
  refine ⟨w', hrun, fun l' hl' => ⟨⟨_, ownsMap_tight ho', ?_⟩, fun y hy => ?_⟩, hg⟩
  · refine (insert_perm _ _).trans ?_
    refine List.Perm.trans ?_ (hl'.map M.ent)
    rw [List.map_cons, ← filter_ents hx l h.wf]
    exact (hp.filter _).cons _
  · rcases List.mem_cons.1 (hl'.mem_iff.2 hy) with rfl | hy
    · exact hx
    · exact h.wf y (List.mem_filter.1 hy).1

/- A range over a map under way: 'left x': is the entry at x still to come? -/
structure MapKit.Rng (M : MapKit P k κ β) (w : World) (b r : Nat) (l : List (κ × β)) (left : κ → Bool) (cnt : Nat) : Prop where
  at' : ∃ ds n lf, w.ranges P k M.R b r n (.map ds) lf cnt ∧ ds.Perm (l.map M.ent) ∧ ∀ x, M.wf x → lf (M.kl x) = left x
  wf : ∀ h ∈ l, M.wf h.1
theorem MapKit.Rng.of {left : κ → Bool} {cnt : Nat} (h : M.Rng w b r l left cnt) : M.Of w b l := by
  obtain ⟨ds, n, lf, hr, hp, _⟩ := h.at'
  exact ⟨⟨ds, ownsMap_tight hr.owns, hp⟩, h.wf⟩
theorem MapKit.Rng.kept {left : κ → Bool} {cnt : Nat} {row : Option Nat} (h : M.Rng w b r l left cnt) (hg : w.grownBy w' row) (hb : some b ≠ row) (hr : some r ≠ row) : M.Rng w' b r l left cnt := by
  obtain ⟨ds, n, lf, h1, hp, hl⟩ := h.at'
  exact ⟨⟨ds, n, lf, h1.kept hg hb hr, hp, hl⟩, h.wf⟩
theorem MapKit.Rng.lt {left : κ → Bool} {cnt : Nat} (h : M.Rng w b r l left cnt) : r < w.heap.size := by
  obtain ⟨ds, n, lf, h1, _⟩ := h.at'
  exact h1.lt
theorem MapKit.Rng.ne {left : κ → Bool} {cnt : Nat} (h : M.Rng w b r l left cnt) : r ≠ b := by
  obtain ⟨ds, n, lf, h1, _⟩ := h.at'
  exact h1.ne
theorem MapKit.Rng.left_eq {left : κ → Bool} {cnt : Nat} (h : M.Rng w b r l left cnt) : w.rangeLeft b r = cnt := by
  obtain ⟨ds, n, lf, h1, _⟩ := h.at'
  exact h1.left_eq
theorem MapKit.Rng.perm {left : κ → Bool} {cnt : Nat} (h : M.Rng w b r l left cnt) (hp : l.Perm l') : M.Rng w b r l' left cnt := by
  obtain ⟨ds, n, lf, h1, hd, hl⟩ := h.at'
  exact ⟨⟨ds, n, lf, h1, hd.trans (hp.map _), hl⟩, fun x hx => h.wf x (hp.mem_iff.2 hx)⟩

section
variable {ops : Array Oper} {rest : List Oper} {o : Oper} {a : Act} {Q : Exit → Act → World → Prop}
theorem wp_range_kit [DecidableEq κ] (M : MapKit P k κ β) (w : World) (hg : o.guard = none) (m : Operand) (t : TypeId) (hop : o.op = Op.range t m) (e : TypeId) (ht : P.underlying t = some (.map k e)) (b : Nat) (l : List (κ × β)) (hm : a.eval m = .map (some b)) (h : M.Of w b l)
    (hK : ∀ w', M.Rng w' b w.heap.size l (fun x => decide (x ∈ l.map (·.1))) l.length → w.grownBy w' none → w'.heap.size = w.heap.size + 1 → wpList P ops Q rest (a.put o.dst (.pointer (some ⟨w.heap.size, 0, none⟩))) w') :
    wpList P ops Q (o :: rest) a w := by
  obtain ⟨ds, ho, hp⟩ := h.own
  refine wpList_range_own w hg m t hop k e M.K ht M.R b ds.length (.map ds) hm ho fun w' hr hgr hs => hK w' ⟨⟨ds, ds.length, Maps.has (DataW.map ds), ?_, hp, fun x hx => ?_⟩, h.wf⟩ hgr hs
  · have e : Maps.size (DataW.map ds) = l.length := by show ds.length = _; rw [hp.length_eq, List.length_map]
    rw [← e]
    exact hr
  · rw [Bool.eq_iff_iff, Maps.has_eq, List.any_eq_true, decide_eq_true_eq]
    constructor
    · rintro ⟨p, hm, hs⟩
      obtain ⟨y, hy, rfl⟩ := List.mem_map.1 (hp.mem_iff.1 hm)
      have hxy : y.1 = x := M.kl_inj (h.wf y hy) hx (WideAt.sameKey_eq hs)
      exact List.mem_map.2 ⟨y, hy, hxy⟩
    · intro hm
      obtain ⟨y, hy, rfl⟩ := List.mem_map.1 hm
      exact ⟨M.ent y, hp.mem_iff.2 (List.mem_map.2 ⟨y, hy, rfl⟩), WideAt.sameKey_self (M.isKey hx)⟩
theorem wp_next_kit [DecidableEq κ] (M : MapKit P k κ β) (w : World) (hg : o.guard = none) (it : Operand) (hop : o.op = Op.next it false) (b r : Nat) (l : List (κ × β)) (left : κ → Bool) (cnt : Nat) (hit : a.eval it = .pointer (some ⟨r, 0, none⟩)) (h : M.Rng w b r l left cnt)
    (hDone : (∀ h ∈ l, left h.1 = false) → wpList P ops Q rest (a.put o.dst (.tuple #[.bool false])) w)
    (hMore : ∀ (x : κ) (c : β) (w' : World) (cnt' : Nat), (x, c) ∈ l → left x = true → M.Rng w' b r l (fun y => left y && !decide (y = x)) cnt' → cnt' < cnt → w.grownBy w' (some r) → w'.heap.size = w.heap.size →
      (Instr.entry (.pointer (some ⟨r, 0, none⟩))).run P w' = .ok (.tuple #[M.mkK x, M.mkV c]) w' → wpList P ops Q rest (a.put o.dst (.tuple #[.bool true, M.mkK x, M.mkV c])) w') :
    wpList P ops Q (o :: rest) a w := by
  obtain ⟨ds, n, lf, hr, hp, hl⟩ := h.at'
  refine wpList_next_ranges w hg it hop k M.K M.R M.mkK M.mkV (fun key kl hk => ?_) (fun v y hv => ?_) b r n (.map ds) lf cnt hit hr (fun _ h0 => hDone (fun y hy => by rw [← hl _ (h.wf y hy)]; exact h0 _)) ?_
  · obtain ⟨x, _, rfl⟩ := M.inv key kl hk
    exact ⟨x, rfl⟩
  · obtain ⟨c, rfl, _⟩ := M.R_inv hv
    exact ⟨c, rfl⟩
  · intro x c kl y w' cnt' hkey hlk hv hat hrg hlt hgr hsz hen
    obtain ⟨x', hx', e⟩ := M.inv _ _ hkey
    obtain rfl := M.inj _ _ e
    have ekl : kl = M.kl x := Option.some.inj (hkey.symm.trans (M.key_kl hx'))
    subst ekl
    have ey : y = (.held (M.mkV c), []) := by rw [M.R_mk] at hv; exact (Option.some.inj hv).symm
    have hm : (x, c) ∈ l := by
      have hh := Maps.has_true_of_atKey (fun z => hat z)
      rw [Maps.has_eq, List.any_eq_true] at hh
      obtain ⟨p, hpm, hs⟩ := hh
      obtain ⟨q, hq, rfl⟩ := List.mem_map.1 (hp.mem_iff.1 hpm)
      have hqx : q.1 = x := M.kl_inj (h.wf q hq) hx' (WideAt.sameKey_eq hs)
      obtain ⟨es, e, hap, _⟩ := hr.owns.entries M.K
      cases e
      have h2 := WideAt.atKey_mem (DataW.nil) (M.isKey (h.wf q hq)) hap hpm
      have h3 := hat DataW.nil
      rw [← hqx, h2, ey] at h3
      have h4 : M.mkV q.2 = M.mkV c := DataW.held.inj h3
      have h5 : q.2 = c := by have := M.un q.2; rw [h4, M.un] at this; exact (Option.some.inj this).symm
      rw [← hqx, ← h5]
      exact hq
    refine hMore x c w' cnt' hm (by rw [← hl x hx']; exact hlk) ⟨⟨ds, n, _, hrg, hp, fun z hz => ?_⟩, h.wf⟩ hlt hgr hsz hen
    rw [hl z hz, M.same hz hx']
theorem wp_delete_kit [DecidableEq κ] (M : MapKit P k κ β) (w : World) (hg : o.guard = none) (m x : Operand) (t : TypeId) (hop : o.op = Op.call { callee := Callee.builtin Builtin.delete, args := #[m, x], argTypes := #[t, k] })
    (e : TypeId) (ht : P.underlying t = some (.map k e)) (b r : Nat) (l : List (κ × β)) (left : κ → Bool) (cnt : Nat) (hm : a.eval m = .map (some b)) (h : M.Rng w b r l left cnt) (y : κ) (hy : M.wf y) (hx : a.eval x = M.mkK y)
    (hK : ∀ w' cnt', M.Rng w' b r (l.filter (fun h => !decide (h.1 = y))) (fun z => left z && !decide (z = y)) cnt' → cnt' ≤ cnt → w.mapTurned w' b → wpList P ops Q rest (a.put o.dst (.tuple #[])) w') :
    wpList P ops Q (o :: rest) a w := by
  obtain ⟨ds, n, lf, hr, hp, hl⟩ := h.at'
  refine wpList_delete_ranges w hg m x t k hop e M.K ht M.R b r n (.map ds) lf cnt hm hr _ _ hx (M.key_kl hy) fun w' cnt' hrg hle hturn => hK w' cnt' ⟨⟨_, n, _, hrg, ?_, fun z hz => ?_⟩, fun z hz => h.wf z (List.mem_filter.1 hz).1⟩ hle hturn
  · rw [← filter_ents hy l h.wf]
    exact hp.filter _
  · rw [hl z hz, M.same hz hy]
theorem wp_len_kit (M : MapKit P k κ β) (w : World) (hg : o.guard = none) (m : Operand) (t : TypeId) (hop : o.op = Op.call { callee := Callee.builtin Builtin.len, args := #[m], argTypes := #[t] }) (e : TypeId) (ht : P.underlying t = some (.map k e)) (b : Nat) (l : List (κ × β)) (hm : a.eval m = .map (some b)) (h : M.Of w b l)
    (hK : wpList P ops Q rest (a.put o.dst (.int .i64 l.length)) w) : wpList P ops Q (o :: rest) a w := by
  obtain ⟨ds, ho, hp⟩ := h.own
  have e' : Maps.size (DataW.map ds) = l.length := by show ds.length = _; rw [hp.length_eq, List.length_map]
  exact wpList_len_own w hg m t hop k e ht M.R b ds.length (.map ds) hm ho (by rw [e']; exact hK)
end
/- One more that is no longer to come. -/
theorem filter_flip {κ β : Type} [DecidableEq κ] {l : List (κ × β)} (hap : l.Pairwise (fun p q => p.1 ≠ q.1)) {p : κ → Bool} {h : κ × β} (hm : h ∈ l) (hp : p h.1 = true) :
    (l.filter (fun y => !(p y.1 && !decide (y.1 = h.1)))).Perm (h :: l.filter (fun y => !p y.1)) := by
  induction l with
  | nil => cases hm
  | cons z s ih =>
    obtain ⟨hz, hs⟩ := List.pairwise_cons.1 hap
    rcases List.mem_cons.1 hm with rfl | hm'
    · have e : s.filter (fun y => !(p y.1 && !decide (y.1 = h.1))) = s.filter (fun y => !p y.1) := List.filter_congr (fun y hy => by simp [Ne.symm (hz y hy)])
      rw [List.filter_cons, if_pos (by simp), e, List.filter_cons, if_neg (by simp [hp])]
    · have hne : z.1 ≠ h.1 := hz h hm'
      have ih' := ih hs hm'
      rw [List.filter_cons, List.filter_cons]
      cases hpz : p z.1 with
      | true => rw [if_neg (by simp [hne]), if_neg (by simp)]; exact ih'
      | false =>
        rw [if_pos (by simp), if_pos (by simp)]
        exact (ih'.cons z).trans (List.Perm.swap h z _)
end Go.Proofs.YtjngnnbondejaabDoor
