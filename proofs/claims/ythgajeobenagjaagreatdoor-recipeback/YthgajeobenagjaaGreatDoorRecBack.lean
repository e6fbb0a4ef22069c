/-
  Own text. RecipeBack, over whatever answers as RecSpec says: it returns true; no old memory turns.
-/
import Derived.Test.YthgajeobenagjaaGreatDoorRecCooked
namespace Go.Proofs.YthgajeobenagjaaGreatDoor
open Go.RowKit

theorem ErrIn.some {base : Nat} {w : World} {a : Nat → Addr} {v : Value} {c x : Int} (h : ErrIn base w a v (c, x)) (hc : c ≠ 0) : ∃ t y, v = .iface t y := by
  rcases h with h | ⟨k, _, hv, _⟩ | ⟨k, pb, po, at0, _, _, hv, _⟩
  · exact absurd (congrArg Prod.fst h.2) hc
  · exact ⟨_, _, hv⟩
  · exact ⟨_, _, hv⟩
theorem own_next {w w' : World} {base : Nat} {e : TypeId} {size : Nat} {v : Value} {n : Nat} {xs : List Value} (h : w.ownsRow base e size v n xs) (hb : Below w.heap.size w w') : w'.ownsRow base e size v n xs := by
  obtain ⟨hl, h⟩ := h
  refine ⟨hl, ?_⟩
  rcases h with h | ⟨g, cap, cur, hv, hg, hblk, h1, h2, h3, h4⟩
  · exact .inl h
  · exact .inr ⟨g, cap, cur, hv, hg, (hb.block g (Array.getElem?_eq_some_iff.1 hblk).1).trans hblk, h1, h2, h3, h4⟩
def BackW (Z wr : World) (vl : Value) (ps : List (List UInt8)) (B rn : Nat) (rl : Int) : Prop :=
  Below Z.heap.size Z wr ∧ wr.ownsRow Z.heap.size 9 1 vl ps.length (ps.map txtV) ∧ Blk wr B #[.int .u32 (rn : Nat), .int .i64 rl] 40
theorem BackW.next {Z wr wr' : World} {vl : Value} {ps : List (List UInt8)} {B rn : Nat} {rl : Int} (h : BackW Z wr vl ps B rn rl) (hb : Below wr.heap.size wr wr') : BackW Z wr' vl ps B rn rl :=
  ⟨h.1.trans (hb.mono h.1.size), own_next h.2.1 hb, h.2.2.next hb⟩
theorem row_set {w : World} {base : Nat} {e : TypeId} {v : Value} {n : Nat} {xs : List Value} (h : w.ownsRow base e 1 v n xs) {j : Nat} (hj : j < n) (u : Value) :
    ∃ g cap, v = .slice (some ⟨g, 0, none⟩) n cap ∧ base ≤ g ∧ w.frozen? ⟨g, j, none⟩ = false ∧ (∃ z, w.cell? ⟨g, j, none⟩ = some z) ∧ CellsAt (w.setCell ⟨g, j, none⟩ u) v (xs.set j u) := by
  obtain ⟨hl, h⟩ := h
  rw [Nat.mul_one] at hl
  rcases h with ⟨_, h0⟩ | ⟨g, cap, cur, rfl, hg, hblk, h1, h2, h3, h4⟩
  · omega
  rw [Nat.mul_one] at h3 h4
  have hB : Blk w g cur e := hblk
  have hB2 := hB.set j u
  have hcur : ∀ i (hi : i < xs.length), cur[i]? = some xs[i] := fun i hi => by
    have h5 : (cur.toList.take n)[i]? = xs[i]? := by rw [h4]
    rw [List.getElem?_take, if_pos (by omega), Array.getElem?_toList] at h5
    rw [h5]
    exact List.getElem?_eq_getElem hi
  refine ⟨g, cap, rfl, hg, hB.frozen j, ⟨_, hB.cell (hcur j (by omega))⟩, some ⟨g, 0, none⟩, cap, by rw [List.length_set, hl], fun i hi => ⟨g, 0, rfl, ⟨?_, by rw [List.length_set]; omega⟩, ?_⟩⟩
  · exact hB2.lt
  · rw [List.length_set] at hi
    rw [Nat.zero_add]
    refine hB2.cell ?_
    by_cases hij : j = i
    · subst hij
      rw [List.getElem_set_self, Array.getElem?_setIfInBounds_self_of_lt (by omega)]
    · rw [List.getElem_set_ne hij, Array.getElem?_setIfInBounds_ne hij]
      exact hcur i hi
theorem idsText_len : ∀ (ids : List (Nat × Int)), (∀ x ∈ ids, x.2.toNat ≤ 9223372036854775807) → (idsText ids).length ≤ 29 * ids.length
  | [], _ => by simp [idsText]
  | x :: r, h => by
    have ih := idsText_len r fun y hy => h y (by simp [hy])
    have h1 := idText_len x.1 x.2.toNat (h x (by simp))
    simp only [idsText, List.map_cons, List.flatten_cons, List.length_append, List.length_cons] at ih ⊢
    omega
theorem text_len (nm l : List UInt8) (hn : isName nm = true) (hl : l.length ≤ 1500) : (rcpText nm l.length (pmore 2166136261 l) (idsOf l)).length ≤ 40000 := by
  have h1 := decDigits_len_le l.length 4 (by omega) (by omega)
  have h2 := hexLast_length (pmore 2166136261 l) 8
  have h3 := idsText_len (idsOf l) (fun x hx => by
    obtain ⟨p, hp, rfl⟩ := List.mem_map.1 hx
    obtain ⟨i, hi, rfl⟩ := List.mem_iff_getElem.1 hp
    have := pieces_at l i hi
    simp only [Int.toNat_natCast]
    omega)
  have h4 := pieces_250 l (by omega)
  rw [idsOf_length] at h3
  have h5 : nm.length ≤ 12 := by
    unfold isName at hn
    simp only [Bool.and_eq_true, decide_eq_true_eq] at hn
    exact hn.2.2
  unfold rcpText
  simp only [List.length_append, List.length_cons, List.length_nil, Int.toNat_natCast]
  omega
theorem ids_32 (l : List UInt8) : ∀ x ∈ idsOf l, x.1 < 4294967296 := fun x hx => by
  obtain ⟨p, hp, rfl⟩ := List.mem_map.1 hx
  exact pmore_lt _ (by decide) _

-- WALKS
set_option maxRecDepth 100000 in
set_option maxHeartbeats 4000000 in
theorem back_name {a : Nat → Addr} {Env : World → Prop} (S : RecSpec a Env) (nm s q : ByteArray) (at0 : Int) (w : World) (hE : Env w) (h1 : 30 < nm.size) :
    Calls Tryz.prog 3 #[.string nm, .string s, .int .i64 at0, .string q] w fun e w' => e = .returned (.bool true) ∧ Below w.heap.size w w' := by
  have HCOOK : Hid (∀ w, Env w → Calls Tryz.prog 5 #[] w fun e w' => e = .returned (.bool true) ∧ Below w.heap.size w w') := fun w h => cooked_true S w h
  have n1 : (30 : Int) < (nm.size : Int) := by omega
  clear h1
  go_enter Tryz.func3, Tryz.ntmps3
  go_wp2_with fail
  refine (HCOOK.out _ hE).mono ?_
  rintro e w1 ⟨rfl, hb1⟩
  have hB : Below w.heap.size w w1 := hb1
  replace hE := S.stable hE hb1
  clear hb1
  go_wp2_with fail
  go_ret
  exact ⟨rfl, hB⟩
set_option maxRecDepth 100000 in
set_option maxHeartbeats 4000000 in
theorem back_text {a : Nat → Addr} {Env : World → Prop} (S : RecSpec a Env) (nm s q : ByteArray) (at0 : Int) (w : World) (hE : Env w) (h1 : nm.size ≤ 30) (h2 : 1500 < s.size) :
    Calls Tryz.prog 3 #[.string nm, .string s, .int .i64 at0, .string q] w fun e w' => e = .returned (.bool true) ∧ Below w.heap.size w w' := by
  have HCOOK : Hid (∀ w, Env w → Calls Tryz.prog 5 #[] w fun e w' => e = .returned (.bool true) ∧ Below w.heap.size w w') := fun w h => cooked_true S w h
  have n1 : ¬ (30 : Int) < (nm.size : Int) := by omega
  have n2 : (1500 : Int) < (s.size : Int) := by omega
  clear h1 h2
  go_enter Tryz.func3, Tryz.ntmps3
  go_wp2_with fail
  refine (HCOOK.out _ hE).mono ?_
  rintro e w1 ⟨rfl, hb1⟩
  have hB : Below w.heap.size w w1 := hb1
  replace hE := S.stable hE hb1
  clear hb1
  go_wp2_with fail
  go_ret
  exact ⟨rfl, hB⟩
set_option maxRecDepth 100000 in
set_option maxHeartbeats 4000000 in
theorem back_piece {a : Nat → Addr} {Env : World → Prop} (S : RecSpec a Env) (nm s q : ByteArray) (at0 : Int) (w : World) (hE : Env w) (h1 : nm.size ≤ 30) (h2 : s.size ≤ 1500) (h3 : 100 < q.size) :
    Calls Tryz.prog 3 #[.string nm, .string s, .int .i64 at0, .string q] w fun e w' => e = .returned (.bool true) ∧ Below w.heap.size w w' := by
  have HCOOK : Hid (∀ w, Env w → Calls Tryz.prog 5 #[] w fun e w' => e = .returned (.bool true) ∧ Below w.heap.size w w') := fun w h => cooked_true S w h
  have n1 : ¬ (30 : Int) < (nm.size : Int) := by omega
  have n2 : ¬ (1500 : Int) < (s.size : Int) := by omega
  have n3 : (100 : Int) < (q.size : Int) := by omega
  clear h1 h2 h3
  go_enter Tryz.func3, Tryz.ntmps3
  go_wp2_with fail
  refine (HCOOK.out _ hE).mono ?_
  rintro e w1 ⟨rfl, hb1⟩
  have hB : Below w.heap.size w w1 := hb1
  replace hE := S.stable hE hb1
  clear hb1
  go_wp2_with fail
  go_ret
  exact ⟨rfl, hB⟩
set_option maxRecDepth 100000 in
set_option maxHeartbeats 4000000 in
theorem back_none {a : Nat → Addr} {Env : World → Prop} (S : RecSpec a Env) (nm s q : ByteArray) (at0 : Int) (w : World) (hE : Env w) (h1 : nm.size ≤ 30) (h2 : s.size ≤ 1500) (h3 : q.size ≤ 100) (h4 : isName nm.data.toList = false) :
    Calls Tryz.prog 3 #[.string nm, .string s, .int .i64 at0, .string q] w fun e w' => e = .returned (.bool true) ∧ Below w.heap.size w w' := by
  have HCOOK : Hid (∀ w, Env w → Calls Tryz.prog 5 #[] w fun e w' => e = .returned (.bool true) ∧ Below w.heap.size w w') := fun w h => cooked_true S w h
  have n1 : ¬ (30 : Int) < (nm.size : Int) := by omega
  have n2 : ¬ (1500 : Int) < (s.size : Int) := by omega
  have n3 : ¬ (100 : Int) < (q.size : Int) := by omega
  have HNM : Hid (nm.size ≤ 50000) := by show _ ≤ _; omega
  have HS : Hid (s.size ≤ 50000) := by show _ ≤ _; omega
  have HO : Hid (ofR nm.data.toList s.data.toList = (([], 0, 0, []), 4)) := by
    show _ = _
    unfold ofR
    rw [if_pos h4]
  clear h1 h2 h3 h4
  go_enter Tryz.func3, Tryz.ntmps3
  go_wp2_with fail
  refine (HCOOK.out _ hE).mono ?_
  rintro e w1 ⟨rfl, hb1⟩
  have hB : Below w.heap.size w w1 := hb1
  replace hE := S.stable hE hb1
  clear hb1
  go_wp2_with fail
  refine (S.of' nm s _ HNM.out HS.out hE).mono ?_
  rintro e w2 ⟨vx, ex, rfl, hx, hex, hb2⟩
  rw [HO.out] at hx hex ⊢
  simp only [rcpDV] at hx hex ⊢
  replace hB := hB.trans (hb2.mono hB.size)
  clear hb2
  obtain ⟨px, cx, rfl, _⟩ := hx
  obtain ⟨t, y, rfl⟩ := hex.some (by decide)
  have hX := Blk.new w2 #[.string ⟨#[]⟩, .int .i64 0, .int .u32 0, .slice px 0 cx] 26
  have x3 := hX.cell (i := 3) rfl
  replace hB := hB.trans (((Below.refl _ w2).alloc (Nat.le_refl _) (.cells #[.string ⟨#[]⟩, .int .i64 0, .int .u32 0, .slice px 0 cx] 26)).mono hB.size)
  go_wp2_with fail
  go_ret
  exact ⟨rfl, hB⟩
set_option maxRecDepth 100000 in
set_option maxHeartbeats 4000000 in
theorem back_fine {a : Nat → Addr} {Env : World → Prop} (S : RecSpec a Env) (nm s q : ByteArray) (at0 : Int) (w : World) (hE : Env w) (h1 : nm.size ≤ 30) (h2 : s.size ≤ 1500) (h3 : q.size ≤ 100) (h4 : isName nm.data.toList = true) (hat : -9223372036854775808 ≤ at0 ∧ at0 ≤ 9223372036854775807) :
    Calls Tryz.prog 3 #[.string nm, .string s, .int .i64 at0, .string q] w fun e w' => e = .returned (.bool true) ∧ Below w.heap.size w w' := by
  have HCOOK : Hid (∀ w, Env w → Calls Tryz.prog 5 #[] w fun e w' => e = .returned (.bool true) ∧ Below w.heap.size w w') := fun w h => cooked_true S w h
  have n1 : ¬ (30 : Int) < (nm.size : Int) := by omega
  have n2 : ¬ (1500 : Int) < (s.size : Int) := by omega
  have n3 : ¬ (100 : Int) < (q.size : Int) := by omega
  have HNM : Hid (nm.size ≤ 50000) := by show _ ≤ _; omega
  have HS : Hid (s.size ≤ 50000) := by show _ ≤ _; omega
  have HQ100 : Hid (q.size ≤ 100) := h3
  have hsl : s.data.toList.length = s.size := by rw [Array.length_toList]; rfl
  obtain ⟨L, hL⟩ : ∃ L, s.data.toList = L := ⟨_, rfl⟩
  obtain ⟨NL, hNL⟩ : ∃ NL, nm.data.toList = NL := ⟨_, rfl⟩
  rw [hL] at hsl
  rw [hNL] at h4
  have HL : Hid (s.data.toList = L) := hL
  have HNL : Hid (nm.data.toList = NL) := hNL
  have HLL : Hid (L.length = s.size) := hsl
  have HN : Hid (isName NL = true) := h4
  obtain ⟨ids, hids⟩ : ∃ ids, idsOf L = ids := ⟨_, rfl⟩
  obtain ⟨ps, hps⟩ : ∃ ps, pieces L = ps := ⟨_, rfl⟩
  obtain ⟨P, hP⟩ : ∃ P, pmore 2166136261 L = P := ⟨_, rfl⟩
  have HO : Hid (ofR NL L = ((NL, (L.length : Int), P, ids), 0)) := by
    show _ = _
    unfold ofR
    rw [if_neg (by rw [h4]; simp), if_neg (by omega), hids, hP]
  have HF : Hid (recFault NL L.length ids = (0, -1)) := by subst hids; exact recFault_of NL L h4 (by omega)
  have HJ : Hid (joinOf NL L.length P ids ps = (L, (0, -1))) := by subst hids hps hP; exact joinOf_pieces NL L h4 (by omega)
  have HT : Hid ((rcpText NL L.length P ids).length ≤ 40000) := by subst hids hP; exact text_len NL L h4 (by omega)
  have HRT : Hid (rcpRead (rcpText NL L.length P ids) = ((NL, (L.length : Int), P, ids), (0, -1))) := by subst hids hP; exact rcpRead_text NL _ _ _ HF.out (pmore_lt _ (by decide) _) (ids_32 L)
  have HOT : Hid (∀ (k : Nat) (hk : k < ps.length) (x : List UInt8), idOfL x ≠ idOfL ps[k] → joinOf NL L.length P ids (ps.set k x) = ([], (9, (k : Int)))) := by subst hids hps hP; exact fun k hk x hx => joinOf_other NL L x h4 (by omega) k hk hx
  have HPM : Hid (P < 4294967296) := by subst hP; exact pmore_lt _ (by decide) _
  have H32 : Hid (∀ j (hj : j < ids.length), ids[j].1 < 4294967296) := by subst hids; exact fun j hj => ids_32 L _ (List.getElem_mem hj)
  have HIL : Hid (ids.length = ps.length) := by subst hids hps; exact idsOf_length L
  have HPL : Hid (ps.length ≤ 250) := by subst hps; exact pieces_250 L (by omega)
  have HPS : Hid (∀ i (h : i < ps.length), ps[i].length ≤ 64) := by subst hps; exact fun i h => (pieces_at L i h).2.1
  have HIA : Hid (∀ i (h : i < ids.length) (h' : i < ps.length), ids[i] = idOfL ps[i]) := by subst hids hps; exact fun i h h' => idsOf_at L i h
  have HPD : Hid (pieces s.data.toList = ps) := by show _ = _; rw [hL, hps]
  have HE : Hid ((⟨L.toArray⟩ : ByteArray) = s) := by
    show _ = _
    rw [← hL]
  have HEN : Hid ((⟨NL.toArray⟩ : ByteArray) = nm) := by
    show _ = _
    rw [← hNL]
  have HLI : Hid ((L.length : Int) = (s.size : Int)) := by show _ = _; omega
  clear h1 h2 h3 h4 hsl hids hps hP hL hNL
  obtain ⟨LN, hLN⟩ : ∃ LN : Int, (L.length : Int) = LN := ⟨_, rfl⟩
  simp only [hLN] at HO HF HJ HT HRT HOT
  clear HLI hLN
  have HTX : Hid (textR NL LN P ids = rcpText NL LN P ids) := by
    show _ = _
    unfold textR
    rw [if_pos HF.out]
  obtain ⟨T0, hT0⟩ : ∃ T0, rcpText NL LN P ids = T0 := ⟨_, rfl⟩
  rw [hT0] at HTX HRT HT
  clear hT0
  obtain ⟨TB, hTB⟩ : ∃ TB : ByteArray, (⟨T0.toArray⟩ : ByteArray) = TB := ⟨_, rfl⟩
  have HTB : Hid ((⟨T0.toArray⟩ : ByteArray) = TB) := hTB
  have HTL : Hid (TB.data.toList = T0) := by show _ = _; rw [← hTB]
  have HTS : Hid (TB.size ≤ 40000) := by show _ ≤ _; rw [← hTB]; exact HT.out
  clear hTB HT
  have HI5 : Hid (ids.length ≤ 50000) := by show _ ≤ _; have h1 := HIL.out; have h2 := HPL.out; omega
  have HP5 : Hid (ps.length ≤ 50000) := by show _ ≤ _; have h2 := HPL.out; omega
  have HPH : Hid (∀ i (h : i < ps.length), ps[i].length ≤ 100) := fun i h => Nat.le_trans (HPS.out i h) (by omega)
  have HII : Hid ((ids.length : Int) ≤ 9223372036854775807) := by show _ ≤ _; have h1 := HI5.out; omega
  go_enter Tryz.func3, Tryz.ntmps3
  go_wp2_with fail
  refine (HCOOK.out _ hE).mono ?_
  rintro e w1 ⟨rfl, hb1⟩
  have hB : Below w.heap.size w w1 := hb1
  replace hE := S.stable hE hb1
  clear hb1
  go_wp2_with fail
  refine (S.of' nm s _ HNM.out HS.out hE).mono ?_
  rintro e w2 ⟨vx, ex, rfl, hx, hex, hb2⟩
  rw [HL.out, HNL.out, HO.out] at hx hex ⊢
  simp only [rcpDV] at hx hex ⊢
  obtain rfl := hex.nil
  rw [HEN.out]
  replace hB := hB.trans (hb2.mono hB.size)
  replace hE := S.stable hE hb2
  clear hb2 hex
  obtain ⟨px, cx, hxv, _⟩ := id hx
  subst hxv
  have hal : Below w2.heap.size w2 (w2.alloc (.cells #[.string nm, .int .i64 LN, .int .u32 (P : Nat), .slice px ids.length cx] 26)) := (Below.refl _ w2).alloc (Nat.le_refl _) _
  have hR := Blk.new w2 #[.string nm, .int .i64 LN, .int .u32 (P : Nat), .slice px ids.length cx] 26
  replace hx := hx.below hal
  replace hE := S.stable hE hal
  replace hB := hB.trans (hal.mono hB.size)
  clear hal
  go_wp2_with fail
  obtain ⟨WZ, hWZ⟩ : ∃ WZ, w2.alloc (.cells #[.string nm, .int .i64 LN, .int .u32 (P : Nat), .slice px ids.length cx] 26) = WZ := ⟨_, rfl⟩
  rw [hWZ] at hx hE hB hR ⊢
  clear hWZ
  obtain ⟨X, hX⟩ : ∃ X, w2.heap.size = X := ⟨_, rfl⟩
  rw [hX] at hR ⊢
  clear hX
  refine (pieces_any s HS.out _).mono ?_
  rintro e w3 ⟨vl, rfl, hown, hbZ⟩
  rw [HPD.out] at hown
  have hl : CellsAt w3 vl (ps.map txtV) := CellsAt.of_row hown
  have r0 := (hR.next hbZ).cell (i := 0) rfl
  have r1 := (hR.next hbZ).cell (i := 1) rfl
  have r2 := (hR.next hbZ).cell (i := 2) rfl
  have r3 := (hR.next hbZ).cell (i := 3) rfl
  go_wp2_with fail
  refine (S.join nm LN P _ _ ids ps _ HNM.out HI5.out HP5.out HPH.out (S.stable hE hbZ) (hx.at.below hbZ) hl).mono ?_
  rintro e w4 ⟨ev, rfl, hev, hb4⟩
  rw [HNL.out, HJ.out] at hev ⊢
  simp only at hev ⊢
  obtain rfl := hev.nil
  rw [HE.out]
  clear hev r0 r1 r2 r3
  have hown4 : w4.ownsRow WZ.heap.size 9 1 vl ps.length (ps.map txtV) := own_next hown hb4
  clear hown hl
  replace hbZ := hbZ.trans (hb4.mono hbZ.size)
  clear hb4
  have r0 := (hR.next hbZ).cell (i := 0) rfl
  have r1 := (hR.next hbZ).cell (i := 1) rfl
  have r2 := (hR.next hbZ).cell (i := 2) rfl
  have r3 := (hR.next hbZ).cell (i := 3) rfl
  go_wp2_with fail
  refine (S.text nm LN P _ ids _ HNM.out HI5.out HPM.out H32.out (S.stable hE hbZ) (hx.at.below hbZ)).mono ?_
  rintro e w5 ⟨ev, rfl, hev, hb5⟩
  rw [HNL.out, HF.out] at hev
  rw [HNL.out, HTX.out, HTB.out]
  obtain rfl := hev.nil
  clear hev
  clear r0 r1 r2 r3
  have hown5 := own_next hown4 hb5
  clear hown4
  replace hbZ := hbZ.trans (hb5.mono hbZ.size)
  clear hb5
  have r0 := (hR.next hbZ).cell (i := 0) rfl
  have r1 := (hR.next hbZ).cell (i := 1) rfl
  have r2 := (hR.next hbZ).cell (i := 2) rfl
  have r3 := (hR.next hbZ).cell (i := 3) rfl
  go_wp2_with fail
  refine (S.read TB _ HTS.out (by rw [HTL.out, HRT.out]) (S.stable hE hbZ)).mono ?_
  rintro e w6 ⟨vy, ev, rfl, hy, hev, hb6⟩
  rw [HTL.out, HRT.out] at hev hy ⊢
  simp only [rcpDV] at hev hy ⊢
  rw [HEN.out]
  obtain rfl := hev.nil
  clear hev
  obtain ⟨py, cy, hyv, _⟩ := id hy
  subst hyv
  clear r0 r1 r2 r3
  have hown6 := own_next hown5 hb6
  clear hown5
  replace hbZ := hbZ.trans (hb6.mono hbZ.size)
  clear hb6
  have hal : Below w6.heap.size w6 (w6.alloc (.cells #[.string nm, .int .i64 LN, .int .u32 (P : Nat), .slice py ids.length cy] 26)) := (Below.refl _ w6).alloc (Nat.le_refl _) _
  have hY := Blk.new w6 #[.string nm, .int .i64 LN, .int .u32 (P : Nat), .slice py ids.length cy] 26
  replace hy := hy.below hal
  replace hown6 := own_next hown6 hal
  replace hbZ := hbZ.trans (hal.mono hbZ.size)
  clear hal
  have r0 := (hR.next hbZ).cell (i := 0) rfl
  have r1 := (hR.next hbZ).cell (i := 1) rfl
  have r2 := (hR.next hbZ).cell (i := 2) rfl
  have r3 := (hR.next hbZ).cell (i := 3) rfl
  have y0 := hY.cell (i := 0) rfl
  have y1 := hY.cell (i := 1) rfl
  have y2 := hY.cell (i := 2) rfl
  have y3 := hY.cell (i := 3) rfl
  go_wp2_with fail
  refine (sameRecipe_true nm LN (P : Nat) _ _ ids _ HII.out hy.at (hx.at.below hbZ)).mono ?_
  rintro e w7 ⟨rfl, hb7⟩
  clear y0 y1 y2 y3 hY
  clear r0 r1 r2 r3
  have hown7 := own_next hown6 hb7
  clear hown6
  replace hbZ := hbZ.trans (hb7.mono hbZ.size)
  clear hb7 hy
  have r0 := (hR.next hbZ).cell (i := 0) rfl
  have r1 := (hR.next hbZ).cell (i := 1) rfl
  have r2 := (hR.next hbZ).cell (i := 2) rfl
  have r3 := (hR.next hbZ).cell (i := 3) rfl
  go_wp2_with fail
  refine (S.check nm LN P _ ids _ HNM.out HI5.out (S.stable hE hbZ) (hx.at.below hbZ)).mono ?_
  rintro e w8 ⟨ev, rfl, hev, hb8⟩
  rw [HNL.out, HF.out] at hev
  obtain rfl := hev.nil
  clear hev
  clear r0 r1 r2 r3
  have hown8 := own_next hown7 hb8
  clear hown7
  replace hbZ := hbZ.trans (hb8.mono hbZ.size)
  clear hb8
  have r0 := (hR.next hbZ).cell (i := 0) rfl
  have r1 := (hR.next hbZ).cell (i := 1) rfl
  have r2 := (hR.next hbZ).cell (i := 2) rfl
  have r3 := (hR.next hbZ).cell (i := 3) rfl
  go_wp2_with fail
  refine (S.rep nm LN P _ ids _ HI5.out (S.stable hE hbZ) (hx.at.below hbZ)).mono ?_
  rintro e w9 ⟨rfl, hb9⟩
  obtain ⟨⟨rn, rl⟩, hrp⟩ : ∃ rp, repOf ids = rp := ⟨_, rfl⟩
  have HRP : Hid (repOf ids = (rn, rl)) := hrp
  rw [hrp]
  clear hrp
  clear r0 r1 r2 r3
  have hown9 := own_next hown8 hb9
  clear hown8
  replace hbZ := hbZ.trans (hb9.mono hbZ.size)
  clear hb9
  have hal : Below w9.heap.size w9 (w9.alloc (.cells #[.int .u32 (rn : Nat), .int .i64 rl] 40)) := (Below.refl _ w9).alloc (Nat.le_refl _) _
  have hQ := Blk.new w9 #[.int .u32 (rn : Nat), .int .i64 rl] 40
  replace hown9 := own_next hown9 hal
  replace hbZ := hbZ.trans (hal.mono hbZ.size)
  clear hal
  have r3 := (hR.next hbZ).cell (i := 3) rfl
  have hil := HII.out
  obtain ⟨t0, ht0⟩ : ∃ t0, ((ids.length : Int) == 0) = t0 := ⟨_, rfl⟩
  have HT0 : Hid (t0 = true ↔ ids.length = 0) := by
    show _ ↔ _
    rw [← ht0, beq_iff_eq]
    omega
  obtain ⟨pl, cl, hlv, _⟩ := CellsAt.of_row hown9
  simp only [List.length_map] at hlv
  subst hlv
  go_wp2_with fail
  clear ht0 r3
  have hW : BackW WZ _ _ ps w9.heap.size rn rl := ⟨hbZ, hown9, hQ⟩
  clear hbZ hown9 hQ
  obtain ⟨W, hWW⟩ : ∃ W, w9.alloc (.cells #[.int .u32 (rn : Nat), .int .i64 rl] 40) = W := ⟨_, rfl⟩
  rw [hWW] at hW ⊢
  clear hWW
  obtain ⟨B, hBB⟩ : ∃ B, w9.heap.size = B := ⟨_, rfl⟩
  rw [hBB] at hW ⊢
  clear hBB
  have HLE : Hid (∀ k (h : k < ids.length), lessB ids[k] (rn, rl) = false) := fun k h => by
    have := repOf_least ids ids[k] (List.getElem_mem h)
    rwa [HRP.out] at this
  have HME : Hid (ids.length ≠ 0 → ∃ j, ∃ h : j < ids.length, ids[j] = (rn, rl)) := fun h => by
    have := repOf_mem ids (fun e => h (by rw [e]; rfl))
    rw [HRP.out] at this
    exact List.mem_iff_getElem.1 this
  go_loopw [21, 22] (fun th i wr => ∃ (k : Nat) (b : Bool), k ≤ ids.length ∧ i = .int .i64 k ∧ th = .bool b ∧ (b = true ↔ ids.length = 0 ∨ ∃ j, ∃ h : j < ids.length, j < k ∧ ids[j] = (rn, rl)) ∧ BackW WZ wr (.slice pl ps.length cl) ps B rn rl) (fun _ i _ => ids.length - (intOf i).toNat)
  case atStart => exact ⟨0, t0, Nat.zero_le _, rfl, rfl, HT0.out.trans ⟨fun h => .inl h, fun h => h.elim id fun ⟨j, _, h, _⟩ => by omega⟩, hW⟩
  case round =>
    clear hW
    obtain ⟨k, b, hk, rfl, rfl, hbk, hW⟩ := hrel
    have HBK : Hid (b = true ↔ ids.length = 0 ∨ ∃ j, ∃ h : j < ids.length, j < k ∧ ids[j] = (rn, rl)) := hbk
    clear hbk
    have r3 := (hR.next hW.1).cell (i := 3) rfl
    have q0 := hW.2.2.cell (i := 0) rfl
    have q1 := hW.2.2.cell (i := 1) rfl
    by_cases hlt : k < ids.length
    · have hlt' : (k : Int) < (ids.length : Int) := by omega
      have hkp : k < ps.length := by have := HIL.out; omega
      have hkp' : (k : Int) < (ps.length : Int) := by omega
      obtain ⟨pv0, cv0, hv0, hcell⟩ := hx.at.below hW.1
      cases hv0
      obtain ⟨bi, oi, rfl, hbi, i0, i1⟩ := hcell k hlt
      obtain ⟨pl0, cl0, hl0, hlc⟩ := CellsAt.of_row hW.2.1
      simp only [List.length_map] at hl0 hlc
      cases hl0
      obtain ⟨bl, ol, rfl, hbl, l0⟩ := hlc k hkp
      rw [List.getElem_map] at l0
      have hia := HIA.out k hlt hkp
      have hle := HLE.out k hlt
      have hps := HPS.out k hkp
      have HCI0 : ∀ W', BackW WZ W' (.slice (some ⟨bl, ol, none⟩) ps.length cl) ps B rn rl → W'.cell? ⟨X, 3, none⟩ = some (.slice (some ⟨bi, oi, none⟩) ids.length cx) ∧ W'.cell? ⟨bi, oi + k * 2, none⟩ = some (.int .u32 (ids[k].1 : Nat)) ∧ W'.cell? ⟨bi, oi + k * 2 + 1, none⟩ = some (.int .i64 ids[k].2) ∧ W'.cell? ⟨bl, ol + k, none⟩ = some (txtV ps[k]) ∧ W'.cell? ⟨B, 0, none⟩ = some (.int .u32 (rn : Nat)) ∧ W'.cell? ⟨B, 1, none⟩ = some (.int .i64 rl) := fun W' h => by
        obtain ⟨pv1, cv1, hv1, hcell1⟩ := hx.at.below h.1
        cases hv1
        obtain ⟨bi1, oi1, hp1, _, i01, i11⟩ := hcell1 k hlt
        cases hp1
        obtain ⟨pl1, cl1, hl1, hlc1⟩ := CellsAt.of_row h.2.1
        simp only [List.length_map] at hl1 hlc1
        cases hl1
        obtain ⟨bl1, ol1, hp2, _, l01⟩ := hlc1 k hkp
        cases hp2
        rw [List.getElem_map] at l01
        exact ⟨(hR.next h.1).cell (i := 3) rfl, i01, i11, l01, h.2.2.cell (i := 0) rfl, h.2.2.cell (i := 1) rfl⟩
      clear hcell hlc
      obtain ⟨c, hc⟩ : ∃ c : ByteArray, (⟨ps[k].toArray⟩ : ByteArray) = c := ⟨_, rfl⟩
      rw [txtV, hc] at l0
      simp only [txtV, hc] at HCI0
      have hcd : c.data.toList = ps[k] := by rw [← hc]
      have hcs : c.size = ps[k].length := by rw [← hc]; rfl
      have HTH : Hid (∀ b' : Bool, (b' = true ↔ b = true ∨ ids[k] = (rn, rl)) → (b' = true ↔ ids.length = 0 ∨ ∃ j, ∃ h : j < ids.length, j < k + 1 ∧ ids[j] = (rn, rl))) := fun b' hb' => by
        rw [hb', HBK.out]
        constructor
        · rintro ((h | ⟨j, h1, h2, h3⟩) | h)
          · exact .inl h
          · exact .inr ⟨j, h1, by omega, h3⟩
          · exact .inr ⟨k, hlt, by omega, h⟩
        · rintro (h | ⟨j, h1, h2, h3⟩)
          · exact .inl (.inl h)
          · by_cases e : j = k
            · subst e; exact .inr h3
            · exact .inl (.inr ⟨j, h1, by omega, h3⟩)
      obtain ⟨⟨n, l⟩, hy⟩ : ∃ y, ids[k] = y := ⟨_, rfl⟩
      rw [hy] at i0 i1 hia hle HTH
      simp only [hy] at HCI0
      simp only [idOfL, Prod.mk.injEq] at hia
      have HPP : Hid (pmore 2166136261 c.data.toList = n) := by show _ = _; rw [hcd]; exact hia.1.symm
      have HQL : Hid ((c.size : Int) = l) := by show _ = _; rw [hcs]; exact hia.2.symm
      have HCM : Hid (c.size ≤ maxLen) := by show _ ≤ _; unfold maxLen; omega
      have HLS : Hid ((if (n : Int) = (rn : Int) then decide (l < rl) else decide ((n : Int) < (rn : Int))) = false) := by
        show _ = _
        have h2 : ¬ lessB (n, l) (rn, rl) = true := by rw [hle]; simp
        rw [lessB_iff] at h2
        simp only at h2
        split <;> (rw [decide_eq_false_iff_not]; omega)
      clear hcd hcs hia hle hps hc hy
      have HCI : Hid (∀ W', BackW WZ W' (.slice (some ⟨bl, ol, none⟩) ps.length cl) ps B rn rl → W'.cell? ⟨X, 3, none⟩ = some (.slice (some ⟨bi, oi, none⟩) ids.length cx) ∧ W'.cell? ⟨bi, oi + k * 2, none⟩ = some (.int .u32 (n : Nat)) ∧ W'.cell? ⟨bi, oi + k * 2 + 1, none⟩ = some (.int .i64 l) ∧ W'.cell? ⟨bl, ol + k, none⟩ = some (.string c) ∧ W'.cell? ⟨B, 0, none⟩ = some (.int .u32 (rn : Nat)) ∧ W'.cell? ⟨B, 1, none⟩ = some (.int .i64 rl)) := HCI0
      clear HCI0
      cases b with
      | true =>
        go_wp2_with fail
        go_quiet (fail)
        go_wp2_with fail
        have hdn : Below wr.heap.size wr (wr.drewN nq) := ⟨rfl, rfl, rfl, Nat.le_refl _, fun _ _ => rfl⟩
        replace hW := hW.next hdn
        clear hdn r3 i0 i1 l0 q0 q1
        obtain ⟨W2, hW2⟩ : ∃ W2, wr.drewN nq = W2 := ⟨_, rfl⟩
        rw [hW2] at hW ⊢
        clear hW2
        obtain ⟨r3, i0, i1, l0, q0, q1⟩ := HCI.out _ hW
        have e1 : ((n : Int) == (n : Int)) = true := by simp
        have e2 : (l == l) = true := by simp
        go_region_held3 (fun w' => w'.cell? ⟨X, 3, none⟩ = some (.slice (some ⟨bi, oi, none⟩) ids.length cx) ∧ w'.cell? ⟨bi, oi + k * 2, none⟩ = some (.int .u32 (n : Nat)) ∧ w'.cell? ⟨bi, oi + k * 2 + 1, none⟩ = some (.int .i64 l) ∧ w'.cell? ⟨bl, ol + k, none⟩ = some (.string c) ∧ w'.cell? ⟨B, 0, none⟩ = some (.int .u32 (rn : Nat)) ∧ w'.cell? ⟨B, 1, none⟩ = some (.int .i64 rl)) (go_keep) (first
          | (go_at_call 14; refine (less_any n l rn rl _).mono ?_; rintro e w4 ⟨rfl, hb4⟩; rw [HLS.out]; replace hW := hW.next ((Below.refl _ W2).drew.trans (hb4.mono (Nat.le_refl _))); clear hb4; obtain ⟨r3, i0, i1, l0, q0, q1⟩ := HCI.out _ hW)
          | (go_at_call 15; refine (id_any c _ HCM.out).mono ?_; rintro e w5 ⟨rfl, hb5⟩; rw [HPP.out, HQL.out]; replace hW := hW.next hb5; clear hb5; obtain ⟨r3, i0, i1, l0, q0, q1⟩ := HCI.out _ hW))
        go_wp2_with fail
        go_roundw
        case rel => exact ⟨k + 1, true, by omega, by go_num, rfl, HTH.out true (by simp), hW⟩
        case measure => simp [intOf]; omega
      | false =>
        by_cases hn : n = rn
        · have f1 : ((n : Int) == (rn : Int)) = true := by rw [beq_iff_eq]; omega
          by_cases hl : l = rl
          · have f2 : (l == rl) = true := by rw [beq_iff_eq]; exact hl
            have HEQ : Hid ((n, l) = (rn, rl)) := by show _ = _; rw [hn, hl]
            clear hn hl
            go_wp2_with fail
            go_quiet (fail)
            go_wp2_with fail
            have hdn : Below wr.heap.size wr (wr.drewN nq) := ⟨rfl, rfl, rfl, Nat.le_refl _, fun _ _ => rfl⟩
            replace hW := hW.next hdn
            clear hdn r3 i0 i1 l0 q0 q1
            obtain ⟨W2, hW2⟩ : ∃ W2, wr.drewN nq = W2 := ⟨_, rfl⟩
            rw [hW2] at hW ⊢
            clear hW2
            obtain ⟨r3, i0, i1, l0, q0, q1⟩ := HCI.out _ hW
            have e1 : ((n : Int) == (n : Int)) = true := by simp
            have e2 : (l == l) = true := by simp
            go_region_held3 (fun w' => w'.cell? ⟨X, 3, none⟩ = some (.slice (some ⟨bi, oi, none⟩) ids.length cx) ∧ w'.cell? ⟨bi, oi + k * 2, none⟩ = some (.int .u32 (n : Nat)) ∧ w'.cell? ⟨bi, oi + k * 2 + 1, none⟩ = some (.int .i64 l) ∧ w'.cell? ⟨bl, ol + k, none⟩ = some (.string c) ∧ w'.cell? ⟨B, 0, none⟩ = some (.int .u32 (rn : Nat)) ∧ w'.cell? ⟨B, 1, none⟩ = some (.int .i64 rl)) (go_keep) (first
              | (go_at_call 14; refine (less_any n l rn rl _).mono ?_; rintro e w4 ⟨rfl, hb4⟩; rw [HLS.out]; replace hW := hW.next ((Below.refl _ W2).drew.trans (hb4.mono (Nat.le_refl _))); clear hb4; obtain ⟨r3, i0, i1, l0, q0, q1⟩ := HCI.out _ hW)
              | (go_at_call 15; refine (id_any c _ HCM.out).mono ?_; rintro e w5 ⟨rfl, hb5⟩; rw [HPP.out, HQL.out]; replace hW := hW.next hb5; clear hb5; obtain ⟨r3, i0, i1, l0, q0, q1⟩ := HCI.out _ hW))
            go_wp2_with fail
            go_roundw
            case rel => exact ⟨k + 1, true, by omega, by go_num, rfl, HTH.out true (by simp only [Bool.false_eq_true, false_or, true_iff]; exact HEQ.out), hW⟩
            case measure => simp [intOf]; omega
          · have f2 : (l == rl) = false := by rw [beq_eq_false_iff_ne]; exact hl
            have HNE : Hid ((n, l) ≠ (rn, rl)) := fun e => hl (congrArg Prod.snd e)
            clear hl hn
            go_wp2_with fail
            go_quiet (fail)
            go_wp2_with fail
            have hdn : Below wr.heap.size wr (wr.drewN nq) := ⟨rfl, rfl, rfl, Nat.le_refl _, fun _ _ => rfl⟩
            replace hW := hW.next hdn
            clear hdn r3 i0 i1 l0 q0 q1
            obtain ⟨W2, hW2⟩ : ∃ W2, wr.drewN nq = W2 := ⟨_, rfl⟩
            rw [hW2] at hW ⊢
            clear hW2
            obtain ⟨r3, i0, i1, l0, q0, q1⟩ := HCI.out _ hW
            have e1 : ((n : Int) == (n : Int)) = true := by simp
            have e2 : (l == l) = true := by simp
            go_region_held3 (fun w' => w'.cell? ⟨X, 3, none⟩ = some (.slice (some ⟨bi, oi, none⟩) ids.length cx) ∧ w'.cell? ⟨bi, oi + k * 2, none⟩ = some (.int .u32 (n : Nat)) ∧ w'.cell? ⟨bi, oi + k * 2 + 1, none⟩ = some (.int .i64 l) ∧ w'.cell? ⟨bl, ol + k, none⟩ = some (.string c) ∧ w'.cell? ⟨B, 0, none⟩ = some (.int .u32 (rn : Nat)) ∧ w'.cell? ⟨B, 1, none⟩ = some (.int .i64 rl)) (go_keep) (first
              | (go_at_call 14; refine (less_any n l rn rl _).mono ?_; rintro e w4 ⟨rfl, hb4⟩; rw [HLS.out]; replace hW := hW.next ((Below.refl _ W2).drew.trans (hb4.mono (Nat.le_refl _))); clear hb4; obtain ⟨r3, i0, i1, l0, q0, q1⟩ := HCI.out _ hW)
              | (go_at_call 15; refine (id_any c _ HCM.out).mono ?_; rintro e w5 ⟨rfl, hb5⟩; rw [HPP.out, HQL.out]; replace hW := hW.next hb5; clear hb5; obtain ⟨r3, i0, i1, l0, q0, q1⟩ := HCI.out _ hW))
            go_wp2_with fail
            go_roundw
            case rel => exact ⟨k + 1, false, by omega, by go_num, rfl, HTH.out false (by simp only [Bool.false_eq_true, false_or, false_iff]; exact HNE.out), hW⟩
            case measure => simp [intOf]; omega
        · have f1 : ((n : Int) == (rn : Int)) = false := by rw [beq_eq_false_iff_ne]; omega
          have HNE : Hid ((n, l) ≠ (rn, rl)) := fun e => hn (congrArg Prod.fst e)
          clear hn
          go_wp2_with fail
          go_quiet (fail)
          go_wp2_with fail
          have hdn : Below wr.heap.size wr (wr.drewN nq) := ⟨rfl, rfl, rfl, Nat.le_refl _, fun _ _ => rfl⟩
          replace hW := hW.next hdn
          clear hdn r3 i0 i1 l0 q0 q1
          obtain ⟨W2, hW2⟩ : ∃ W2, wr.drewN nq = W2 := ⟨_, rfl⟩
          rw [hW2] at hW ⊢
          clear hW2
          obtain ⟨r3, i0, i1, l0, q0, q1⟩ := HCI.out _ hW
          have e1 : ((n : Int) == (n : Int)) = true := by simp
          have e2 : (l == l) = true := by simp
          go_region_held3 (fun w' => w'.cell? ⟨X, 3, none⟩ = some (.slice (some ⟨bi, oi, none⟩) ids.length cx) ∧ w'.cell? ⟨bi, oi + k * 2, none⟩ = some (.int .u32 (n : Nat)) ∧ w'.cell? ⟨bi, oi + k * 2 + 1, none⟩ = some (.int .i64 l) ∧ w'.cell? ⟨bl, ol + k, none⟩ = some (.string c) ∧ w'.cell? ⟨B, 0, none⟩ = some (.int .u32 (rn : Nat)) ∧ w'.cell? ⟨B, 1, none⟩ = some (.int .i64 rl)) (go_keep) (first
            | (go_at_call 14; refine (less_any n l rn rl _).mono ?_; rintro e w4 ⟨rfl, hb4⟩; rw [HLS.out]; replace hW := hW.next ((Below.refl _ W2).drew.trans (hb4.mono (Nat.le_refl _))); clear hb4; obtain ⟨r3, i0, i1, l0, q0, q1⟩ := HCI.out _ hW)
            | (go_at_call 15; refine (id_any c _ HCM.out).mono ?_; rintro e w5 ⟨rfl, hb5⟩; rw [HPP.out, HQL.out]; replace hW := hW.next hb5; clear hb5; obtain ⟨r3, i0, i1, l0, q0, q1⟩ := HCI.out _ hW))
          go_wp2_with fail
          go_roundw
          case rel => exact ⟨k + 1, false, by omega, by go_num, rfl, HTH.out false (by have := HNE.out; simp only [Bool.false_eq_true, false_or, false_iff]; exact this), hW⟩
          case measure => simp [intOf]; omega
    · have hge : (ids.length : Int) ≤ (k : Int) := by omega
      obtain rfl : b = true := HBK.out.2 (by
        by_cases h0 : ids.length = 0
        · exact .inl h0
        · obtain ⟨j, hj, h⟩ := HME.out h0
          exact .inr ⟨j, hj, by omega, h⟩)
      clear HBK q0 q1
      by_cases ha : at0 < 0
      · go_wp2_with fail
        go_ret
        exact ⟨rfl, hB.trans (hW.1.mono hB.size)⟩
      · have ha0 : ¬ at0 < 0 := ha
        by_cases hb : (ps.length : Int) ≤ at0
        · go_wp2_with fail
          go_ret
          exact ⟨rfl, hB.trans (hW.1.mono hB.size)⟩
        · obtain ⟨j, rfl⟩ : ∃ j : Nat, at0 = (j : Int) := ⟨at0.toNat, by omega⟩
          have hjp : j < ps.length := by omega
          have hji : j < ids.length := by have := HIL.out; omega
          have hjp' : (j : Int) < (ps.length : Int) := by omega
          have hji' : (j : Int) < (ids.length : Int) := by omega
          obtain ⟨pv0, cv0, hv0, hcell⟩ := hx.at.below hW.1
          cases hv0
          obtain ⟨bi, oi, rfl, hbi, i0, i1⟩ := hcell j hji
          have HCJ0 : ∀ W', Below WZ.heap.size WZ W' → W'.cell? ⟨X, 3, none⟩ = some (.slice (some ⟨bi, oi, none⟩) ids.length cx) ∧ W'.cell? ⟨bi, oi + j * 2, none⟩ = some (.int .u32 (ids[j].1 : Nat)) ∧ W'.cell? ⟨bi, oi + j * 2 + 1, none⟩ = some (.int .i64 ids[j].2) := fun W' h => by
            obtain ⟨pv1, cv1, hv1, hcell1⟩ := hx.at.below h
            cases hv1
            obtain ⟨bi1, oi1, hp1, _, i01, i11⟩ := hcell1 j hji
            cases hp1
            exact ⟨(hR.next h).cell (i := 3) rfl, i01, i11⟩
          clear hcell
          have hia := HIA.out j hji hjp
          have hot := HOT.out j hjp q.data.toList
          rw [← hia] at hot
          obtain ⟨⟨n, l⟩, hy⟩ : ∃ y, ids[j] = y := ⟨_, rfl⟩
          rw [hy] at i0 i1 hot
          simp only [hy] at HCJ0
          have HCJ : Hid (∀ W', Below WZ.heap.size WZ W' → W'.cell? ⟨X, 3, none⟩ = some (.slice (some ⟨bi, oi, none⟩) ids.length cx) ∧ W'.cell? ⟨bi, oi + j * 2, none⟩ = some (.int .u32 (n : Nat)) ∧ W'.cell? ⟨bi, oi + j * 2 + 1, none⟩ = some (.int .i64 l)) := HCJ0
          clear hia hy HCJ0
          obtain ⟨QP, hQP⟩ : ∃ QP, pmore 2166136261 q.data.toList = QP := ⟨_, rfl⟩
          obtain ⟨QL, hQL⟩ : ∃ QL : Int, (q.size : Int) = QL := ⟨_, rfl⟩
          have HQP : Hid (pmore 2166136261 q.data.toList = QP) := hQP
          have HQL : Hid ((q.size : Int) = QL) := hQL
          have HQM : Hid (q.size ≤ maxLen) := by show _ ≤ _; unfold maxLen; omega
          have HOJ : Hid ((QP, QL) ≠ (n, l) → joinOf NL LN P ids (ps.set j q.data.toList) = ([], (9, (j : Int)))) := fun h => hot (by
            rw [idOfL, hQP, show (q.data.toList.length : Int) = QL by rw [← hQL, Array.length_toList]; rfl]
            exact h)
          have HPJ : Hid (∀ i (h : i < (ps.set j q.data.toList).length), (ps.set j q.data.toList)[i].length ≤ 100) := fun i h => by
            rw [List.getElem_set]
            split
            · rw [Array.length_toList]
              exact HQ100.out
            · exact HPH.out i _
          clear hot hQP
          by_cases hn : QP = n ∧ QL = l
          · have f1 : ((QP : Int) == (n : Int)) = true := by rw [beq_iff_eq]; omega
            have f2 : (QL == l) = true := by rw [beq_iff_eq]; exact hn.2
            clear hn
            go_wp2_with fail
            go_region_held3 (fun w' => w'.cell? ⟨X, 3, none⟩ = some (.slice (some ⟨bi, oi, none⟩) ids.length cx) ∧ w'.cell? ⟨bi, oi + j * 2, none⟩ = some (.int .u32 (n : Nat)) ∧ w'.cell? ⟨bi, oi + j * 2 + 1, none⟩ = some (.int .i64 l)) (go_keep) (first
              | (go_at_call 15; refine (id_any q _ HQM.out).mono ?_; rintro e w5 ⟨rfl, hb5⟩; rw [HQP.out, HQL.out]; replace hW := hW.next ((Below.refl _ wr).drew.trans (hb5.mono (Nat.le_refl _))); clear hb5; obtain ⟨r3, i0, i1⟩ := HCJ.out _ hW.1))
            go_wp2_with fail
            go_ret
            exact ⟨rfl, hB.trans (hW.1.mono hB.size)⟩
          · have HNE : Hid ((QP, QL) ≠ (n, l)) := fun e => hn ⟨congrArg Prod.fst e, congrArg Prod.snd e⟩
            by_cases hn1 : QP = n
            · have f1 : ((QP : Int) == (n : Int)) = true := by rw [beq_iff_eq]; omega
              have f2 : (QL == l) = false := by rw [beq_eq_false_iff_ne]; exact fun e => hn ⟨hn1, e⟩
              clear hn hn1
              go_wp2_with fail
              go_region_held3 (fun w' => w'.cell? ⟨X, 3, none⟩ = some (.slice (some ⟨bi, oi, none⟩) ids.length cx) ∧ w'.cell? ⟨bi, oi + j * 2, none⟩ = some (.int .u32 (n : Nat)) ∧ w'.cell? ⟨bi, oi + j * 2 + 1, none⟩ = some (.int .i64 l)) (go_keep) (first
                | (go_at_call 15; refine (id_any q _ HQM.out).mono ?_; rintro e w5 ⟨rfl, hb5⟩; rw [HQP.out, HQL.out]; replace hW := hW.next ((Below.refl _ wr).drew.trans (hb5.mono (Nat.le_refl _))); clear hb5; obtain ⟨r3, i0, i1⟩ := HCJ.out _ hW.1))
              obtain ⟨g, cap, hgv, hg, hfz, ⟨zc, hzc⟩, hset⟩ := row_set hW.2.1 hjp (.string q)
              cases hgv
              have hbS : Below WZ.heap.size WZ (w5.setCell ⟨g, j, none⟩ (.string q)) := hW.1.setCell (p := ⟨g, j, none⟩) (by simpa using hg) _
              have hSL : CellsAt (w5.setCell ⟨g, j, none⟩ (.string q)) (.slice (some ⟨g, 0, none⟩) ps.length cl) ((ps.set j q.data.toList).map txtV) := by
                rw [List.map_set]
                exact hset
              clear hset hW
              have s0 := (hR.next hbS).cell (i := 0) rfl
              have s1 := (hR.next hbS).cell (i := 1) rfl
              have s2 := (hR.next hbS).cell (i := 2) rfl
              have s3 := (hR.next hbS).cell (i := 3) rfl
              go_wp2_with fail
              obtain ⟨W6, hW6⟩ : ∃ W6, w5.setCell ⟨g, j, none⟩ (.string q) = W6 := ⟨_, rfl⟩
              rw [hW6] at hbS hSL ⊢
              clear hW6 s0 s1 s2 s3 hfz hzc r3 i0 i1
              refine (S.join nm LN P _ _ ids (ps.set j q.data.toList) _ HNM.out HI5.out (by rw [List.length_set]; exact HP5.out) HPJ.out (S.stable hE hbS) (hx.at.below hbS) hSL).mono ?_
              rintro e w7 ⟨ev, rfl, hev, hb7⟩
              rw [HNL.out, HOJ.out HNE.out] at hev ⊢
              replace hbS := hbS.trans (hb7.mono hbS.size)
              clear hb7 hSL
              go_wp2_with fail
              refine (faulted_true a ev (9, (j : Int)) _ (S.err (S.stable hE hbS)) hev.at).mono ?_
              rintro e w8 ⟨rfl, hb8⟩
              replace hbS := hbS.trans (hb8.mono hbS.size)
              clear hb8 hev
              go_wp2_with fail
              go_ret
              exact ⟨rfl, hB.trans (hbS.mono hB.size)⟩
            · have f1 : ((QP : Int) == (n : Int)) = false := by rw [beq_eq_false_iff_ne]; omega
              clear hn hn1
              go_wp2_with fail
              go_region_held3 (fun w' => w'.cell? ⟨X, 3, none⟩ = some (.slice (some ⟨bi, oi, none⟩) ids.length cx) ∧ w'.cell? ⟨bi, oi + j * 2, none⟩ = some (.int .u32 (n : Nat)) ∧ w'.cell? ⟨bi, oi + j * 2 + 1, none⟩ = some (.int .i64 l)) (go_keep) (first
                | (go_at_call 15; refine (id_any q _ HQM.out).mono ?_; rintro e w5 ⟨rfl, hb5⟩; rw [HQP.out, HQL.out]; replace hW := hW.next ((Below.refl _ wr).drew.trans (hb5.mono (Nat.le_refl _))); clear hb5; obtain ⟨r3, i0, i1⟩ := HCJ.out _ hW.1))
              obtain ⟨g, cap, hgv, hg, hfz, ⟨zc, hzc⟩, hset⟩ := row_set hW.2.1 hjp (.string q)
              cases hgv
              have hbS : Below WZ.heap.size WZ (w5.setCell ⟨g, j, none⟩ (.string q)) := hW.1.setCell (p := ⟨g, j, none⟩) (by simpa using hg) _
              have hSL : CellsAt (w5.setCell ⟨g, j, none⟩ (.string q)) (.slice (some ⟨g, 0, none⟩) ps.length cl) ((ps.set j q.data.toList).map txtV) := by
                rw [List.map_set]
                exact hset
              clear hset hW
              have s0 := (hR.next hbS).cell (i := 0) rfl
              have s1 := (hR.next hbS).cell (i := 1) rfl
              have s2 := (hR.next hbS).cell (i := 2) rfl
              have s3 := (hR.next hbS).cell (i := 3) rfl
              go_wp2_with fail
              obtain ⟨W6, hW6⟩ : ∃ W6, w5.setCell ⟨g, j, none⟩ (.string q) = W6 := ⟨_, rfl⟩
              rw [hW6] at hbS hSL ⊢
              clear hW6 s0 s1 s2 s3 hfz hzc r3 i0 i1
              refine (S.join nm LN P _ _ ids (ps.set j q.data.toList) _ HNM.out HI5.out (by rw [List.length_set]; exact HP5.out) HPJ.out (S.stable hE hbS) (hx.at.below hbS) hSL).mono ?_
              rintro e w7 ⟨ev, rfl, hev, hb7⟩
              rw [HNL.out, HOJ.out HNE.out] at hev ⊢
              replace hbS := hbS.trans (hb7.mono hbS.size)
              clear hb7 hSL
              go_wp2_with fail
              refine (faulted_true a ev (9, (j : Int)) _ (S.err (S.stable hE hbS)) hev.at).mono ?_
              rintro e w8 ⟨rfl, hb8⟩
              replace hbS := hbS.trans (hb8.mono hbS.size)
              clear hb8 hev
              go_wp2_with fail
              go_ret
              exact ⟨rfl, hB.trans (hbS.mono hB.size)⟩

theorem back_any {a : Nat → Addr} {Env : World → Prop} (S : RecSpec a Env) (nm s q : ByteArray) (at0 : Int) (w : World) (hE : Env w) (hat : -9223372036854775808 ≤ at0 ∧ at0 ≤ 9223372036854775807) :
    Calls Tryz.prog 3 #[.string nm, .string s, .int .i64 at0, .string q] w fun e w' => e = .returned (.bool true) ∧ Below w.heap.size w w' := by
  by_cases h1 : nm.size ≤ 30
  · by_cases h2 : s.size ≤ 1500
    · by_cases h3 : q.size ≤ 100
      · cases h4 : isName nm.data.toList with
        | true => exact back_fine S nm s q at0 w hE h1 h2 h3 h4 hat
        | false => exact back_none S nm s q at0 w hE h1 h2 h3 h4
      · exact back_piece S nm s q at0 w hE h1 h2 (by omega)
    · exact back_text S nm s q at0 w hE h1 (by omega)
  · exact back_name S nm s q at0 w hE (by omega)
end Go.Proofs.YthgajeobenagjaaGreatDoor
