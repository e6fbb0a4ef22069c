/-
  Own text. (scrub.count).add by a contract: a file's rep and pieces are counted, if they are there.
  Own text. (scrub.count).checkFile by a contract, at a file that is right: it is counted, and there is no error.
  Own text. fault.First by a contract, over the closures of scrub.Check: the first that tells an error, with its place.
-/
import Derived.Test.YtjdobbjdlighpabGreatDoorG11
import Derived.Test.YtjdobbjdlighpabGreatDoorG13
import Derived.Test.YtjdobbjdlighpabGreatDoorG20
import Derived.Deep.RegionHeld3
import Derived.Test.YtjdobbjdlighpabGreatDoorG12
import Derived.Sort.Walk0
namespace Go.Proofs.YtjdobbjdlighpabGreatDoor
open Go.RowKit Go.Maps

theorem bump_some {κ : Type} [DecidableEq κ] (f : κ → Option Int) (x y : κ) : (bump f x y).isSome = (f y).isSome := by
  unfold bump
  split
  · rename_i e
    subst e
    cases f y <;> rfl
  · rfl
theorem bump_le {κ : Type} [DecidableEq κ] {f : κ → Option Int} {x : κ} {B : Int} (h : ∀ y c, f y = some c → 0 ≤ c ∧ c ≤ B) : ∀ y c, bump f x y = some c → 0 ≤ c ∧ c ≤ B + 1 := fun y c hy => by
  unfold bump at hy
  split at hy
  · cases hf : f x with
    | none => rw [hf] at hy; cases hy
    | some d =>
      rw [hf] at hy
      have := h x d hf
      simp only [Option.map_some, Option.some.injEq] at hy
      omega
  · have := h y c hy
    omega
theorem bump_eq {κ : Type} [DecidableEq κ] {f : κ → Option Int} {x : κ} {c : Int} (h : f x = some c) : (fun y => if y = x then some (c + 1) else f y) = bump f x := by
  funext y
  unfold bump
  rw [h]
  rfl
theorem addErr_noF {F : Nat × Int → Option Int} {U : Use → Option Int} {r : Rcp} (h : F (rcpRep r) = none) : addErr F U r = 5 := by
  unfold addErr
  rw [if_neg]
  rintro ⟨h1, _⟩
  rw [h] at h1
  cases h1
theorem bumpAll_snoc (r : Nat × Int) (x : Nat × Int) : ∀ (l : List (Nat × Int)) (f : Use → Option Int), bumpAll f r (l ++ [x]) = bump (bumpAll f r l) (r, x)
  | [], _ => rfl
  | y :: l, f => by
    rw [List.cons_append, bumpAll, bumpAll]
    exact bumpAll_snoc r x l (bump f (r, y))
theorem bumpAll_some (r : Nat × Int) : ∀ (l : List (Nat × Int)) (f : Use → Option Int) (y : Use), (bumpAll f r l y).isSome = (f y).isSome
  | [], _, _ => rfl
  | x :: l, f, y => by rw [bumpAll, bumpAll_some r l, bump_some]
theorem bumpAll_le (r : Nat × Int) : ∀ (l : List (Nat × Int)) {f : Use → Option Int} {B : Int}, (∀ y c, f y = some c → 0 ≤ c ∧ c ≤ B) → ∀ y c, bumpAll f r l y = some c → 0 ≤ c ∧ c ≤ B + l.length
  | [], f, B, h, y, c, hy => by
    have := h y c hy
    simp only [List.length_nil]
    omega
  | x :: l, f, B, h, y, c, hy => by
    have := bumpAll_le r l (bump_le (x := (r, x)) h) y c hy
    simp only [List.length_cons]
    omega
theorem addErr_noU {F : Nat × Int → Option Int} {U : Use → Option Int} {r : Rcp} {i : Nat × Int} (hm : i ∈ r.2.2.2) (h : U (rcpRep r, i) = none) : addErr F U r = 5 := by
  unfold addErr
  rw [if_neg]
  rintro ⟨_, h2⟩
  have := List.all_eq_true.1 h2 i hm
  rw [h] at this
  cases this
theorem addErr_ok {F : Nat × Int → Option Int} {U : Use → Option Int} {r : Rcp} (h1 : (F (rcpRep r)).isSome = true) (h2 : ∀ i ∈ r.2.2.2, (U (rcpRep r, i)).isSome = true) : addErr F U r = 0 := by
  unfold addErr
  rw [if_pos ⟨h1, List.all_eq_true.2 h2⟩]
def AddPost (a : Nat → Addr) (w : World) (mf mu nF nU : Nat) (F : Nat × Int → Option Int) (U : Use → Option Int) (r : Rcp) (e : Ending) (w' : World) : Prop :=
  ∃ ev, e = .returned ev ∧ SentOr a ev (addErr F U r) ∧ Off (fun k => k = mf ∨ k = mu) w w' ∧ (addErr F U r = 0 → idInts.Fn w' mf (nF + 1) (bump F (rcpRep r)) ∧ useInts.Fn w' mu (nU + r.2.2.2.length) (bumpAll U (rcpRep r) r.2.2.2))
set_option maxRecDepth 100000 in
set_option maxHeartbeats 8000000 in
theorem add_any (a : Nat → Addr) (nm : ByteArray) (len p : Int) (v : Value) (ids : List (Nat × Int)) (mf mu nF nU : Nat) (F : Nat × Int → Option Int) (U : Use → Option Int) (B : Int) (w : World) (hlen : ids.length ≤ 250) (hwf : ∀ i ∈ ids, WfID i) (hwr : WfID (repOf ids)) (hE : ErrE [4] w a) (hids : IdsAt w v ids) (hrow : ids ≠ [] → ∀ k, v.ownBlock = some k → k ≠ mf ∧ k ≠ mu) (hne : mf ≠ mu)
    (hG : errG 4 ≠ mf ∧ errG 4 ≠ mu) (hnF : nF ≤ 100000) (hnU : nU ≤ 200000) (hB : 0 ≤ B ∧ B ≤ 1000000) (hFB : ∀ y c, F y = some c → 0 ≤ c ∧ c ≤ B) (hUB : ∀ y c, U y = some c → 0 ≤ c ∧ c ≤ B) (hF : idInts.Fn w mf nF F) (hU : useInts.Fn w mu nU U) :
    Calls Tryz.prog 124 #[.agg #[.map (some mf), .map (some mu)], rcpV nm len p v] w (AddPost a w mf mu nF nU F U (nm.data.toList, len, p, ids)) := by
  have HI := hideN hids
  obtain ⟨pv, cv, hv, _⟩ := hids
  subst hv
  have HEO : Hid (∀ W, Off (fun k => k = mf ∨ k = mu) w W → ErrE [4] W a) := fun W ho => hE.off ho (fun i hi => by
    obtain rfl : i = 4 := by simpa using hi
    rintro (e | e)
    · exact hG.1 e
    · exact hG.2 e)
  have HF := hideN hF
  have HU := hideN hU
  have HWF := hideN hwf
  have HWR := hideN hwr
  have HFB := hideN hFB
  have HUB' := hideN hUB
  have hmfl := hF.lt
  have hmul := hU.lt
  have HROW := hideN hrow
  have HREP := hideN (fun W (hv : IdsAt W (.slice pv ids.length cv) ids) => rep_any nm len p (.slice pv ids.length cv) ids W hv (by unfold maxLen; omega))
  obtain ⟨⟨rp, rl⟩, hrep⟩ : ∃ r, repOf ids = r := ⟨_, rfl⟩
  have HRP := hideN hrep
  rw [hrep] at HREP HWR
  simp only at HREP
  obtain ⟨idl, hidl⟩ : ∃ idl, ids.length = idl := ⟨_, rfl⟩
  have HID := hideN hidl
  rw [hidl] at HI HREP HROW hlen
  have hidl' : (idl : Int) ≤ 250 := by omega
  have hal1 := (Below.refl w.heap.size w).alloc (Nat.le_refl _) (.cells #[.map (some mf), .map (some mu)] 119)
  have hbc := Blk.new w #[.map (some mf), .map (some mu)] 119
  have hal2 := (Below.refl (w.alloc (.cells #[.map (some mf), .map (some mu)] 119)).heap.size (w.alloc (.cells #[.map (some mf), .map (some mu)] 119))).alloc (Nat.le_refl _) (.cells #[.string nm, .int .i64 len, .int .u32 p, .slice pv idl cv] 40)
  have hbr := Blk.new (w.alloc (.cells #[.map (some mf), .map (some mu)] 119)) #[.string nm, .int .i64 len, .int .u32 p, .slice pv idl cv] 40
  have hbc2 := hbc.next hal2
  have hB2 : Below w.heap.size w _ := hal1.trans (hal2.mono hal1.size)
  have hs1 : (w.alloc (.cells #[.map (some mf), .map (some mu)] 119)).heap.size = w.heap.size + 1 := by simp
  rw [hs1] at hbr
  have HBC := hideN hbc2
  have HBR := hideN hbr
  have HB2 := hideN hB2
  have r0 := hbr.cell (i := 0) rfl
  have r1 := hbr.cell (i := 1) rfl
  have r2 := hbr.cell (i := 2) rfl
  have r3 := hbr.cell (i := 3) rfl
  clear hF hU hwf hwr hFB hUB hrow hE hG hrep hidl hal1 hal2 hbc hbr hbc2 hB2 hs1
  rw [HID.out]
  go_enter Tryz.func124, Tryz.ntmps124
  go_wp2_with fail
  generalize (w.alloc (.cells #[.map (some mf), .map (some mu)] 119)).alloc (.cells #[.string nm, .int .i64 len, .int .u32 p, .slice pv idl cv] 40) = W2 at *
  refine (HREP.out W2 (HI.out.below HB2.out)).mono ?_
  rintro e w3 ⟨rfl, hb3⟩
  have hal3 := (Below.refl w3.heap.size w3).alloc (Nat.le_refl _) (.cells #[.int .u32 (rp : Nat), .int .i64 rl] 25)
  have HBI := hideN (Blk.new w3 #[.int .u32 (rp : Nat), .int .i64 rl] 25)
  have HB4 : Hid (Below w.heap.size w _) := hideN ((HB2.out.trans (hb3.mono HB2.out.size)).trans (hal3.mono (Nat.le_trans HB2.out.size hb3.size)))
  have HBC4 := hideN ((HBC.out.next hb3).next hal3)
  have HBR4 := hideN ((HBR.out.next hb3).next hal3)
  have HSZ3 : Hid (w.heap.size + 1 < w3.heap.size) := Nat.lt_of_lt_of_le HBR.out.lt hb3.size
  have i0 := HBI.out.cell (i := 0) rfl
  have i1 := HBI.out.cell (i := 1) rfl
  have c0 := HBC4.out.cell (i := 0) rfl
  have c1 := HBC4.out.cell (i := 1) rfl
  have l0 := (HF.out.below HB4.out).look2 Tryz.underlying116 (intZero _) HWR.out
  change (Instr.lookup 116 (.map (some mf)) (idV (rp : Nat) rl) true).run Tryz.prog _ = .ok (.tuple #[.int .i64 ((F (rp, rl)).getD 0), .bool (F (rp, rl)).isSome]) _ at l0
  have g4 := (HEO.out _ (Off.of_below HB4.out)).glob 4 rfl
  change World.cell? _ ⟨0, 0, none⟩ = _ at g4
  have HRQ : Hid (rcpRep (nm.data.toList, len, p, ids) = (rp, rl)) := HRP.out
  clear r0 r1 r2 r3 hal3 hb3 HBC HBR HREP
  cases hf : F (rp, rl) with
  | none =>
    rw [hf] at l0
    have HR : Hid (addErr F U (nm.data.toList, len, p, ids) = 5) := addErr_noF (by rw [HRQ.out]; exact hf)
    clear hf
    go_wp2_with fail
    go_ret
    refine ⟨_, rfl, ?_, Off.of_below HB4.out, fun h => ?_⟩
    · rw [HR.out]
      exact .inr ⟨4, by decide, rfl, rfl⟩
    · rw [HR.out] at h
      cases h
  | some n0 =>
    rw [hf] at l0
    simp only [Option.getD_some, Option.isSome_some] at l0
    obtain ⟨b1, b2⟩ := HFB.out _ _ hf
    have hw1 : IntKind.i64.wrap (n0 + 1) = n0 + 1 := by rw [IntKind.wrap_i64]; omega
    go_wp2_with fail
    generalize w3.alloc (.cells #[.int .u32 (rp : Nat), .int .i64 rl] 25) = W4 at *
    generalize w3.heap.size = IB at *
    have hFd := (HF.out.below HB4.out).drew
    have l1 := hFd.look1 Tryz.underlying116 (intZero _) HWR.out
    rw [hf] at l1
    change (Instr.lookup 116 (.map (some mf)) (idV (rp : Nat) rl) false).run Tryz.prog _ = .ok (.int .i64 n0) _ at l1
    obtain ⟨v0, st, w5, hen, hst, hF5, hg5⟩ := hFd.more Tryz.underlying116 HWR.out hf (n0 + 1) (by unfold maxLen; omega)
    rw [bump_eq hf] at hF5
    change (Instr.mapEntry 116 (.map (some mf)) (idV (rp : Nat) rl)).run Tryz.prog _ = .ok (.tuple #[v0, .int .i64 (st : Nat)]) _ at hen
    change (Instr.entryStore 116 (.map (some mf)) (.int .i64 (st : Nat)) (.int .i64 (n0 + 1))).run Tryz.prog _ = .ok () _ at hst
    have ho5 : Off (fun k => k = mf) W4 w5 := off_of_grown (grown_drew hg5) rfl
    have HF5 := hideN hF5
    have HU5 := hideN ((HU.out.below HB4.out).off ho5 (fun e => hne e.symm))
    have HBC5 := hideN (ho5.blk HBC4.out (fun e => by omega))
    have hib := HSZ3.out
    have HBR5 := hideN (ho5.blk HBR4.out (fun e => by omega))
    have HBI5 := hideN (ho5.blk HBI.out (fun e => by omega))
    have HI5 := hideN ((HI.out.below HB4.out).off ho5 (fun hn k hk e => (HROW.out hn k hk).1 e))
    have HO5 : Hid (Off (fun k => k = mf ∨ k = mu) w w5) := (Off.of_below HB4.out).trans ho5 (fun k _ e => .inl e)
    clear hFd hF5 hg5 ho5 hib
    go_region
    all_goals
      have b3 := HBR5.out.cell (i := 3) rfl
      have HFS : Hid ((F (rp, rl)).isSome = true) := by show _ = _; rw [hf]; rfl
      clear l0 l1 hen hst i0 i1 c0 c1 g4 hw1 b1 b2 HBC4 HBR4 HBI HF HU HB2 HB4
      go_wp2_with fail
      clear b3
      go_loopw [35] (fun iv wr => ∃ (k : Nat), k ≤ idl ∧ iv = .int .i64 k ∧ Hid (∀ i ∈ ids.take k, (U ((rp, rl), i)).isSome = true) ∧ Hid (useInts.Fn wr mu (nU + k) (bumpAll U (rp, rl) (ids.take k))) ∧ Hid (Off (fun j => j = mu) w5 wr)) (fun iv _ => idl - (intOf iv).toNat)
      case atStart => exact ⟨0, Nat.zero_le _, rfl, fun i hi => by simp at hi, HU5.out, Off.refl _ _⟩
      case round =>
        clear HU5
        obtain ⟨k, hk, rfl, HIN, HUK, HO⟩ := hrel
        have HOW : Hid (Off (fun j => j = mf ∨ j = mu) w wr) := HO5.out.trans HO.out (fun j _ e => .inr e)
        have hib := HSZ3.out
        by_cases hlt : k < idl
        · have hlt' : (k : Int) < (idl : Int) := by omega
          have hk0 : (0 : Int) ≤ (k : Int) := by omega
          have hIr := HI5.out.off HO.out (fun hn j hj e => (HROW.out hn j hj).2 e)
          obtain ⟨pq, cq, hve, hcell⟩ := hIr
          have hkl : k < ids.length := by rw [HID.out]; exact hlt
          obtain ⟨b, o, hpq, _, d0, d1⟩ := hcell k hkl
          obtain ⟨rfl, rfl⟩ : pv = pq ∧ cv = cq := by have := hve; simp at this; exact ⟨this.1, this.2.2⟩
          subst hpq
          have HTK := hideN (List.take_succ_eq_append_getElem hkl)
          have HWX := hideN (HWF.out ids[k] (List.getElem_mem hkl))
          have HMX := hideN (List.getElem_mem hkl)
          obtain ⟨⟨xp, xl⟩, hx⟩ : ∃ x, ids[k] = x := ⟨_, rfl⟩
          rw [hx] at d0 d1 HTK HWX HMX
          simp only at d0 d1
          clear hcell hve hx hkl
          have hal1 := (Below.refl wr.heap.size wr).alloc (Nat.le_refl _) (.cells #[.int .u32 (xp : Nat), .int .i64 xl] 25)
          have HJ1 := hideN (Blk.new wr #[.int .u32 (xp : Nat), .int .i64 xl] 25)
          have HBI6 := hideN ((HO.out.blk HBI5.out (fun e => by omega)).next hal1)
          have HBC6 := hideN ((HO.out.blk HBC5.out (fun e => by omega)).next hal1)
          have HBR6 := hideN ((HO.out.blk HBR5.out (fun e => by omega)).next hal1)
          have HU6 := hideN (HUK.out.below hal1)
          have HO6 : Hid (Off (fun j => j = mu) w5 _) := hideN (HO.out.trans (Off.of_below (F := fun _ => False) hal1) (fun _ _ h => h.elim))
          have HSW : Hid (IB < wr.heap.size) := by have := (HO.out.blk HBI5.out (fun e => by omega)).lt; exact this
          have j0 := HJ1.out.cell (i := 0) rfl
          have j1 := HJ1.out.cell (i := 1) rfl
          have i0 := HBI6.out.cell (i := 0) rfl
          have i1 := HBI6.out.cell (i := 1) rfl
          obtain ⟨W1, hW1⟩ : ∃ W1, wr.alloc (.cells #[.int .u32 (xp : Nat), .int .i64 xl] 25) = W1 := ⟨_, rfl⟩
          have HW1 := hideN hW1
          rw [hW1] at HJ1 HBI6 HBC6 HBR6 HU6 HO6
          have hs1 : W1.heap.size = wr.heap.size + 1 := by rw [← hW1]; simp
          have hal2 := (Below.refl W1.heap.size W1).alloc (Nat.le_refl _) (.cells #[.int .u32 (rp : Nat), .int .i64 rl, .int .u32 (xp : Nat), .int .i64 xl] 195)
          have HUB := hideN (Blk.new W1 #[.int .u32 (rp : Nat), .int .i64 rl, .int .u32 (xp : Nat), .int .i64 xl] 195)
          rw [hs1] at HUB
          have HBC7 := hideN (HBC6.out.next hal2)
          have HBR7 := hideN (HBR6.out.next hal2)
          have HBI7 := hideN (HBI6.out.next hal2)
          have HU7 := hideN (HU6.out.below hal2)
          have HO7 : Hid (Off (fun j => j = mu) w5 _) := hideN (HO6.out.trans (Off.of_below (F := fun _ => False) hal2) (fun _ _ h => h.elim))
          have c1 := HBC7.out.cell (i := 1) rfl
          have u0 := HUB.out.cell (i := 0) rfl
          have u1 := HUB.out.cell (i := 1) rfl
          have u2 := HUB.out.cell (i := 2) rfl
          have u3 := HUB.out.cell (i := 3) rfl
          have l0 := HU7.out.look2 Tryz.underlying117 (intZero _) (x := ((rp, rl), (xp, xl))) ⟨HWR.out, HWX.out⟩
          change (Instr.lookup 117 (.map (some mu)) (.agg #[.int .u32 (rp : Nat), .int .i64 rl, .int .u32 (xp : Nat), .int .i64 xl]) true).run Tryz.prog _ = .ok (.tuple #[.int .i64 ((bumpAll U (rp, rl) (ids.take k) ((rp, rl), (xp, xl))).getD 0), .bool (bumpAll U (rp, rl) (ids.take k) ((rp, rl), (xp, xl))).isSome]) _ at l0
          have g4 := (HEO.out _ (HO5.out.trans HO7.out (fun j _ e => .inr e))).glob 4 rfl
          change World.cell? _ ⟨0, 0, none⟩ = _ at g4
          rw [← hW1] at c1 u0 u1 u2 u3 l0 g4
          rw [← hW1] at HUB HBC7 HBR7 HBI7 HU7 HO7
          clear hs1 hal1 hal2 hW1 HW1 HJ1 HBI6 HBC6 HBR6 HU6 HO6
          cases hu : bumpAll U (rp, rl) (ids.take k) ((rp, rl), (xp, xl)) with
          | none =>
            rw [hu] at l0
            simp only [Option.getD_none, Option.isSome_none] at l0
            have HR : Hid (addErr F U (nm.data.toList, len, p, ids) = 5) := addErr_noU (i := (xp, xl)) HMX.out (by
              rw [HRQ.out]
              have := bumpAll_some (rp, rl) (ids.take k) U ((rp, rl), (xp, xl))
              rw [hu] at this
              cases hq : U ((rp, rl), (xp, xl)) with
              | none => rfl
              | some z => rw [hq] at this; cases this)
            clear hu
            go_wp2_with fail
            go_ret
            refine ⟨_, rfl, ?_, HO5.out.trans HO7.out (fun j _ e => .inr e), fun h => ?_⟩
            · rw [HR.out]
              exact .inr ⟨4, by decide, rfl, rfl⟩
            · rw [HR.out] at h
              cases h
          | some n1 =>
            rw [hu] at l0
            simp only [Option.getD_some, Option.isSome_some] at l0
            obtain ⟨b1, b2⟩ := bumpAll_le (rp, rl) (ids.take k) HUB'.out _ _ hu
            have hw1 : IntKind.i64.wrap (n1 + 1) = n1 + 1 := by
              rw [List.length_take] at b2
              rw [IntKind.wrap_i64]
              omega
            have HHU := hideN hu
            go_wp2_with fail
            generalize ((wr.alloc (.cells #[.int .u32 (xp : Nat), .int .i64 xl] 25)).alloc (.cells #[.int .u32 (rp : Nat), .int .i64 rl, .int .u32 (xp : Nat), .int .i64 xl] 195)) = W2 at *
            have hUd := HU7.out.drew
            have l1 := hUd.look1 Tryz.underlying117 (intZero _) (x := ((rp, rl), (xp, xl))) ⟨HWR.out, HWX.out⟩
            rw [hu] at l1
            change (Instr.lookup 117 (.map (some mu)) (.agg #[.int .u32 (rp : Nat), .int .i64 rl, .int .u32 (xp : Nat), .int .i64 xl]) false).run Tryz.prog _ = .ok (.int .i64 n1) _ at l1
            obtain ⟨v1, st1, w8, hen, hst, hU8, hg8⟩ := hUd.more Tryz.underlying117 (x := ((rp, rl), (xp, xl))) ⟨HWR.out, HWX.out⟩ hu (n1 + 1) (by unfold maxLen; omega)
            rw [bump_eq hu, ← bumpAll_snoc, ← HTK.out] at hU8
            change (Instr.mapEntry 117 (.map (some mu)) (.agg #[.int .u32 (rp : Nat), .int .i64 rl, .int .u32 (xp : Nat), .int .i64 xl])).run Tryz.prog _ = .ok (.tuple #[v1, .int .i64 (st1 : Nat)]) _ at hen
            change (Instr.entryStore 117 (.map (some mu)) (.int .i64 (st1 : Nat)) (.int .i64 (n1 + 1))).run Tryz.prog _ = .ok () _ at hst
            have ho8 : Off (fun k => k = mu) W2 w8 := off_of_grown (grown_drew hg8) rfl
            have HU8 : Hid (useInts.Fn w8 mu (nU + (k + 1)) (bumpAll U (rp, rl) (ids.take (k + 1)))) := hU8.mono (by omega)
            have HO8 : Hid (Off (fun j => j = mu) w5 w8) := HO7.out.trans ho8 (fun _ _ e => e)
            have HIN8 : Hid (∀ i ∈ ids.take (k + 1), (U ((rp, rl), i)).isSome = true) := fun i hi => by
              rw [HTK.out] at hi
              rcases List.mem_append.1 hi with hi | hi
              · exact HIN.out i hi
              · rw [List.mem_singleton.1 hi, ← bumpAll_some (rp, rl) (ids.take k) U, HHU.out]
                rfl
            clear hUd hU8 hg8 ho8 hu b1 b2
            go_region
            all_goals
              go_wp2_with fail
              go_roundw
              case rel => exact ⟨k + 1, hlt, by go_num, HIN8.out, HU8.out, HO8.out⟩
              case measure => simp [intOf]; omega
        · have hge : (idl : Int) ≤ (k : Int) := by omega
          rw [List.take_of_length_le (by rw [HID.out]; omega)] at HIN HUK
          go_wp2_with fail
          go_ret
          have h0 : addErr F U (nm.data.toList, len, p, ids) = 0 := addErr_ok (by rw [HRQ.out]; exact HFS.out) (fun i hi => by rw [HRQ.out]; exact HIN.out i hi)
          refine ⟨_, rfl, ?_, HOW.out, fun _ => ⟨?_, ?_⟩⟩
          · rw [h0]
            exact .inl ⟨rfl, rfl⟩
          · rw [HRQ.out]
            exact HF5.out.off HO.out (fun e => hne e)
          · rw [HRQ.out]
            have hkk : k = ids.length := by rw [HID.out]; omega
            rw [hkk] at HUK
            exact HUK.out
end Go.Proofs.YtjdobbjdlighpabGreatDoor
namespace Go.Proofs.YtjdobbjdlighpabGreatDoor
open Go.RowKit Go.Maps

theorem RcpAt.off {F : Nat → Prop} {w w' : World} {b o : Nat} {v : Value} {r : Rcp} (h : RcpAt w b o v r) (ho : Off F w w') (hb : ¬ F b) (hv : r.2.2.2 ≠ [] → ∀ k, v.ownBlock = some k → ¬ F k) : RcpAt w' b o v r := by
  have e := ho.block b h.lt hb
  exact ⟨Nat.lt_of_lt_of_le h.lt ho.size, (World.cell?_of_block (w := w) e).trans h.c0, (World.cell?_of_block (w := w) e).trans h.c1, (World.cell?_of_block (w := w) e).trans h.c2, (World.cell?_of_block (w := w) e).trans h.c3, h.ids.off ho hv⟩
def OldRcps (n : Nat) (w : World) (v : Value) (fs : List Rcp) : Prop := RcpsAt w v fs ∧ ∀ W, Below n w W → RcpsAt W v fs
set_option maxRecDepth 100000 in
set_option maxHeartbeats 8000000 in
theorem checkFile_add (a : Nat → Addr) (vf : Value) (fs : List Rcp) (at' : Nat) (w0 w : World) (hat : at' < fs.length) (mf mu nF nU : Nat) (F : Nat × Int → Option Int) (U : Use → Option Int) (B : Int)
    (hv : RcpsAt w0 vf fs) (hb0 : Below w0.heap.size w0 w) (hm : w0.heap.size ≤ mf ∧ w0.heap.size ≤ mu) (hfl : fs.length ≤ 30)
    (hgood : recFault fs[at'].1 fs[at'].2.1 fs[at'].2.2.2 = (0, -1)) (hord : ∀ (h : 0 < at'), fs[at' - 1].1 < fs[at'].1) (hnm : ∀ r ∈ fs, r.1.length ≤ 50000)
    (hwf : ∀ i ∈ fs[at'].2.2.2, WfID i) (hwr : WfID (rcpRep fs[at'])) (hE : ErrE [1, 2, 3, 4, 6, 8] w0 a) (hne : mf ≠ mu) (hnF : nF ≤ 100000) (hnU : nU ≤ 200000) (hB : 0 ≤ B ∧ B ≤ 1000000) (hFB : ∀ y c, F y = some c → 0 ≤ c ∧ c ≤ B) (hUB : ∀ y c, U y = some c → 0 ≤ c ∧ c ≤ B)
    (hF : idInts.Fn w mf nF F) (hU : useInts.Fn w mu nU U) :
    Calls Tryz.prog 62 #[.agg #[.map (some mf), .map (some mu)], vf, .int .i64 at'] w (AddPost a w mf mu nF nU F U fs[at']) := by
  have HE : Hid (∀ W, Below w0.heap.size w0 W → ErrE [1, 2, 3, 4, 6, 8] W a) := fun W hb => hE.below hb (Nat.le_refl _)
  have HEG : Hid (errG 4 < w0.heap.size) := lt_of_cell (hE.glob 4 rfl)
  have HB0 := hideN hb0
  obtain ⟨pa, ca, rfl, hcell⟩ := hv
  obtain ⟨b, o, vi, rfl, hR⟩ := hcell at' hat
  have HRP : Hid (∀ W, Below w0.heap.size w0 W → RcpAt W b (o + at' * 4) vi fs[at']) := fun W hb => hR.below hb
  have HPR : Hid (∀ (h : 0 < at') W, Below w0.heap.size w0 W → W.cell? ⟨b, o + (at' - 1) * 4, none⟩ = some (.string ⟨fs[at' - 1].1.toArray⟩)) := fun h W hb => by
    obtain ⟨b', o', vi', hp, hR'⟩ := hcell (at' - 1) (by omega)
    obtain ⟨rfl, rfl⟩ : b = b' ∧ o = o' := by simpa using hp
    exact (hR'.below hb).c0
  have hat' : (at' : Int) < (fs.length : Int) := by omega
  have hat0 : (0 : Int) ≤ (at' : Int) := by omega
  have hfl' : (fs.length : Int) ≤ 30 := by omega
  have HORD := hideN hord
  have HF := hideN hF
  have HU := hideN hU
  have HNM := hideN (hnm fs[at'] (List.getElem_mem hat))
  have HROW : Hid (fs[at'].2.2.2 ≠ [] → ∀ k, vi.ownBlock = some k → k < w0.heap.size) := fun hn k hk => hR.ids.lt hn hk
  have HWF := hideN hwf
  have HWR := hideN hwr
  have HGOOD := hideN hgood
  obtain ⟨pv, cv, hvi, _⟩ := hR.ids
  have c0 := (hR.below hb0).c0
  have c1 := (hR.below hb0).c1
  have c2 := (hR.below hb0).c2
  have c3 := (hR.below hb0).c3
  have HIDS : Hid (∀ W, Below w0.heap.size w0 W → IdsAt W vi fs[at'].2.2.2) := fun W hb => (hR.below hb).ids
  obtain ⟨⟨rn, rl, rp, ri⟩, hx⟩ : ∃ x, fs[at'] = x := ⟨_, rfl⟩
  have HX := hideN hx
  rw [hx] at c0 c1 c2 HNM HROW HWF HWR HGOOD HIDS hvi ⊢
  simp only at c0 c1 c2 HNM HROW HWF HWR HGOOD HIDS hvi ⊢
  subst hvi
  have HLEN : Hid (ri.length ≤ 250) := by
    show _ ≤ _
    have := HGOOD.out
    unfold recFault at this
    split at this
    · cases this
    · split at this
      · cases this
      · split at this
        · cases this
        · omega
  obtain ⟨NM, hNM⟩ : ∃ NM : ByteArray, (⟨rn.toArray⟩ : ByteArray) = NM := ⟨_, rfl⟩
  obtain rfl : rn = NM.data.toList := by rw [← hNM]
  rw [hNM] at c0
  obtain ⟨idl, hidl⟩ : ∃ idl, ri.length = idl := ⟨_, rfl⟩
  have HIDL := hideN hidl
  rw [hidl] at c3 HIDS HLEN
  rw [hidl] at HROW
  have HNMZ : Hid (NM.size ≤ 50000) := by
    show NM.size ≤ 50000
    have := HNM.out
    rw [Array.length_toList] at this
    exact this
  clear hF hU hwf hwr hgood hord hnm hE hR hcell hx hNM HNM
  have hal1 := (Below.refl w.heap.size w).alloc (Nat.le_refl _) (.cells #[.map (some mf), .map (some mu)] 119)
  have hbc := Blk.new w #[.map (some mf), .map (some mu)] 119
  obtain ⟨W1, hW1⟩ : ∃ W1, w.alloc (.cells #[.map (some mf), .map (some mu)] 119) = W1 := ⟨_, rfl⟩
  rw [hW1] at hal1 hbc
  have hs1 : W1.heap.size = w.heap.size + 1 := by rw [← hW1]; simp
  have d0 := (hal1.cell (p := ⟨b, o + at' * 4, none⟩) (lt_of_cell c0)).trans c0
  have d1 := (hal1.cell (p := ⟨b, o + at' * 4 + 1, none⟩) (lt_of_cell c0)).trans c1
  have d2 := (hal1.cell (p := ⟨b, o + at' * 4 + 2, none⟩) (lt_of_cell c0)).trans c2
  have d3 := (hal1.cell (p := ⟨b, o + at' * 4 + 3, none⟩) (lt_of_cell c0)).trans c3
  have hal2 := (Below.refl W1.heap.size W1).alloc (Nat.le_refl _) (.cells #[.string NM, .int .i64 rl, .int .u32 rp, .slice pv idl cv] 40)
  have hbr := Blk.new W1 #[.string NM, .int .i64 rl, .int .u32 rp, .slice pv idl cv] 40
  have hbc2 := hbc.next hal2
  have hB2 : Below w.heap.size w _ := hal1.trans (hal2.mono hal1.size)
  rw [hs1] at hbr
  have HBC := hideN hbc2
  have HBR := hideN hbr
  have HB2 := hideN hB2
  have r0 := hbr.cell (i := 0) rfl
  have r1 := hbr.cell (i := 1) rfl
  have r2 := hbr.cell (i := 2) rfl
  have r3 := hbr.cell (i := 3) rfl
  rw [← hW1] at d0 d1 d2 d3 r0 r1 r2 r3
  rw [← hW1] at HBC HBR HB2
  have HSZ0 : Hid (w0.heap.size ≤ w.heap.size) := HB0.out.size
  clear hal1 hal2 hbc hbr hbc2 hB2 hs1 c0 c1 c2 c3 hW1
  go_enter Tryz.func62, Tryz.ntmps62
  go_wp2_with fail
  generalize ((w.alloc (.cells #[.map (some mf), .map (some mu)] 119)).alloc (.cells #[.string NM, .int .i64 rl, .int .u32 rp, .slice pv idl cv] 40)) = W2 at *
  have HB02 : Hid (Below w0.heap.size w0 W2) := HB0.out.trans (HB2.out.mono HSZ0.out)
  refine (check_any a NM (by unfold maxLen; have := HNMZ.out; omega) rl rp (.slice pv idl cv) ri W2 ((HE.out _ HB02.out).sub (by decide)) (HIDS.out _ HB02.out) (by rw [HIDL.out]; unfold maxLen; have := HLEN.out; omega)).mono ?_
  rintro e w3 ⟨ev3, rfl, he3, hb3⟩
  rw [HGOOD.out] at he3
  obtain rfl := he3.nil
  have HB3 : Hid (Below w.heap.size w w3) := HB2.out.trans (hb3.mono HB2.out.size)
  have HB03 : Hid (Below w0.heap.size w0 w3) := HB0.out.trans (HB3.out.mono HSZ0.out)
  have HBC3 := hideN (HBC.out.next hb3)
  have HBR3 := hideN (HBR.out.next hb3)
  clear hb3 he3 r0 r1 r2 r3 d0 d1 d2 d3 HBC HBR HB2 HB02 HGOOD
  have r0 := HBR3.out.cell (i := 0) rfl
  have r1 := HBR3.out.cell (i := 1) rfl
  have r2 := HBR3.out.cell (i := 2) rfl
  have r3 := HBR3.out.cell (i := 3) rfl
  have c0 := HBC3.out.cell (i := 0) rfl
  have c1 := HBC3.out.cell (i := 1) rfl
  by_cases h0 : 0 < at'
  · have h0' : (0 : Int) < (at' : Int) := by omega
    have hpr := HPR.out h0 w3 HB03.out
    have hlt := HORD.out h0
    obtain ⟨m, hm'⟩ : ∃ m, at' - 1 = m := ⟨_, rfl⟩
    have hwm : IntKind.i64.wrap ((at' : Int) - 1) = (m : Int) := by rw [IntKind.wrap_i64]; omega
    obtain ⟨PN, hPN⟩ : ∃ PN : ByteArray, (⟨fs[at' - 1].1.toArray⟩ : ByteArray) = PN := ⟨_, rfl⟩
    rw [hPN, hm'] at hpr
    have hml : (m : Int) < (fs.length : Int) := by omega
    have hm0 : (0 : Int) ≤ (m : Int) := by omega
    have hlt2 : PN.data.toList < NM.data.toList := by
      rw [← hPN]
      have := hlt
      rw [HX.out] at this
      exact this
    have hbl : Op.bytesLess NM.toList PN.toList = false := by
      rw [Go.Proofs.bytesLess_eq, ByteArray.toList_eq, ByteArray.toList_eq]
      exact decide_eq_false (fun h => List.lt_irrefl _ (List.lt_trans h hlt2))
    have hbe : (NM.toList == PN.toList) = false := by
      rw [ByteArray.toList_eq, ByteArray.toList_eq, beq_eq_false_iff_ne]
      intro e
      rw [e] at hlt2
      exact List.lt_irrefl _ hlt2
    clear hPN hlt hlt2
    go_wp2_with fail
    go_quiet (fail)
    have hdr := below_of_grown (grown_drewN w3 nq)
    have HBC4 := hideN (HBC3.out.next hdr)
    have HBR4 := hideN (HBR3.out.next hdr)
    have HB4 : Hid (Below w.heap.size w _) := hideN (HB3.out.trans (hdr.mono HB3.out.size))
    have HB04 : Hid (Below w0.heap.size w0 _) := hideN (HB03.out.trans (hdr.mono HB03.out.size))
    clear r0 r1 r2 r3 c0 c1 hdr HBC3 HBR3 HB3 HB03
    generalize w3.drewN nq = w4 at *
    have r0 := HBR4.out.cell (i := 0) rfl
    have r1 := HBR4.out.cell (i := 1) rfl
    have r2 := HBR4.out.cell (i := 2) rfl
    have r3 := HBR4.out.cell (i := 3) rfl
    have c0 := HBC4.out.cell (i := 0) rfl
    have c1 := HBC4.out.cell (i := 1) rfl
    have HADN := hideN (add_any a NM rl rp (.slice pv idl cv) ri mf mu nF nU F U B w4 (by rw [HIDL.out]; exact HLEN.out) HWF.out HWR.out ((HE.out _ HB04.out).sub (by decide)) (HIDS.out _ HB04.out) (fun hn k hk => by have := HROW.out hn k hk; exact ⟨by omega, by omega⟩) hne ⟨by have := HEG.out; omega, by have := HEG.out; omega⟩ hnF hnU hB hFB hUB (HF.out.below HB4.out) (HU.out.below HB4.out))
    unfold AddPost at HADN
    go_wp2_with fail
    refine HADN.out.mono ?_
    rintro e w5 ⟨ev5, rfl, he5, ho5, hadd5⟩
    have HE5 := hideN he5
    have HA5 := hideN hadd5
    have HOF := hideN ((Off.of_below (F := fun k => k = mf ∨ k = mu) HB4.out).trans ho5 (fun _ _ h => h))
    clear hadd5 he5 ho5 HADN
    go_wp2_with fail
    go_ret
    exact ⟨_, rfl, HE5.out, HOF.out, HA5.out⟩
  · have h0' : ¬ (0 : Int) < (at' : Int) := by omega
    go_wp2_with fail
    go_quiet (fail)
    have hdr := below_of_grown (grown_drewN w3 nq)
    have HBC4 := hideN (HBC3.out.next hdr)
    have HBR4 := hideN (HBR3.out.next hdr)
    have HB4 : Hid (Below w.heap.size w _) := hideN (HB3.out.trans (hdr.mono HB3.out.size))
    have HB04 : Hid (Below w0.heap.size w0 _) := hideN (HB03.out.trans (hdr.mono HB03.out.size))
    clear r0 r1 r2 r3 c0 c1 hdr HBC3 HBR3 HB3 HB03
    generalize w3.drewN nq = w4 at *
    have r0 := HBR4.out.cell (i := 0) rfl
    have r1 := HBR4.out.cell (i := 1) rfl
    have r2 := HBR4.out.cell (i := 2) rfl
    have r3 := HBR4.out.cell (i := 3) rfl
    have c0 := HBC4.out.cell (i := 0) rfl
    have c1 := HBC4.out.cell (i := 1) rfl
    have HADN := hideN (add_any a NM rl rp (.slice pv idl cv) ri mf mu nF nU F U B w4 (by rw [HIDL.out]; exact HLEN.out) HWF.out HWR.out ((HE.out _ HB04.out).sub (by decide)) (HIDS.out _ HB04.out) (fun hn k hk => by have := HROW.out hn k hk; exact ⟨by omega, by omega⟩) hne ⟨by have := HEG.out; omega, by have := HEG.out; omega⟩ hnF hnU hB hFB hUB (HF.out.below HB4.out) (HU.out.below HB4.out))
    unfold AddPost at HADN
    go_wp2_with fail
    refine HADN.out.mono ?_
    rintro e w5 ⟨ev5, rfl, he5, ho5, hadd5⟩
    have HE5 := hideN he5
    have HA5 := hideN hadd5
    have HOF := hideN ((Off.of_below (F := fun k => k = mf ∨ k = mu) HB4.out).trans ho5 (fun _ _ h => h))
    clear hadd5 he5 ho5 HADN
    go_wp2_with fail
    go_ret
    exact ⟨_, rfl, HE5.out, HOF.out, HA5.out⟩
end Go.Proofs.YtjdobbjdlighpabGreatDoor
namespace Go.Proofs.YtjdobbjdlighpabGreatDoor
open Go.RowKit Go.Maps

/- The first place from k on at which err is not 0. -/
def firstErr (err : Nat → Int) : Nat → Nat → Option Nat
  | _, 0 => none
  | k, n + 1 => if err k ≠ 0 then some k else firstErr err (k + 1) n
def firstAns (err : Nat → Int) (many : Nat) : Int × Int := match firstErr err 0 many with | none => (0, -1) | some k => (err k, k)
def FirstPost (a : Nat → Addr) (base : Nat) (J : World → Prop) (I : Nat → World → Prop) (err : Nat → Int) (many : Nat) (e : Ending) (w' : World) : Prop :=
  ∃ ev, e = .returned ev ∧ ErrIn base w' a ev (firstAns err many) ∧ (firstErr err 0 many = none → I many w') ∧ J w'
set_option maxRecDepth 100000 in
set_option maxHeartbeats 4000000 in
theorem first1_any (a : Nat → Addr) (lb : Array Value) (many : Nat) (err : Nat → Int) (J : World → Prop) (I : Nat → World → Prop) (w : World) (hm : many ≤ 1000) (hJ0 : J w) (hJa : ∀ W o, J W → J (W.alloc o))
    (hcall : ∀ k W, k < many → w.heap.size ≤ W.heap.size → I k W → Calls Tryz.prog 61 (#[.int .i64 k] ++ lb) W fun e w' => ∃ ev, e = .returned ev ∧ ((err k = 0 ∧ ev = .nilIface) ∨ ∃ i : Nat, i < 12 ∧ err k = (i : Int) + 1 ∧ ev = sentV a i) ∧ w.heap.size ≤ w'.heap.size ∧ (err k = 0 → I (k + 1) w') ∧ J w') (h0 : I 0 w) :
    Calls Tryz.prog 60 #[.int .i64 many, .func (.func 61) #[] lb] w (FirstPost a w.heap.size J I err many) := by
  have HC := hideN hcall
  have HI0 := hideN h0
  have HJ0 := hideN hJ0
  have HJA := hideN hJa
  clear hJ0 hJa
  have hm' : (many : Int) ≤ 1000 := by omega
  obtain ⟨RES, hRES⟩ : ∃ RES, firstErr err 0 many = RES := ⟨_, rfl⟩
  have HRES := hideN hRES
  clear hcall h0 hRES
  go_enter Tryz.func60, Tryz.ntmps60
  go_wp2_with fail
  go_loopw [8] (fun iv wr => ∃ (k : Nat), k ≤ many ∧ iv = .int .i64 k ∧ Hid (I k wr) ∧ Hid (firstErr err k (many - k) = RES) ∧ Hid (w.heap.size ≤ wr.heap.size) ∧ Hid (J wr)) (fun iv _ => many - (intOf iv).toNat)
  case atStart => exact ⟨0, Nat.zero_le _, rfl, HI0.out, HRES.out, Nat.le_refl _, HJ0.out⟩
  case round =>
    clear HI0
    obtain ⟨k, hk, rfl, HI, HR, HS, HJ⟩ := hrel
    by_cases hlt : k < many
    · have hlt' : (k : Int) < (many : Int) := by omega
      have HCK := hideN (HC.out k wr hlt HS.out HI.out)
      have hsub : many - k = (many - (k + 1)) + 1 := by omega
      rw [hsub, firstErr] at HR
      clear hsub
      go_wp2_with fail
      refine HCK.out.mono ?_
      rintro e w2 ⟨ev2, rfl, he2, hs2, hi2, hj2⟩
      have HJ2 := hideN hj2
      have HS2 := hideN hs2
      have HI2 := hideN hi2
      clear hs2 hi2 HCK hj2
      rcases he2 with ⟨h0, rfl⟩ | ⟨i, hi, h0, rfl⟩
      · rw [if_neg (by rw [h0]; simp)] at HR
        have HI3 := hideN (HI2.out h0)
        clear h0 HI2
        go_wp2_with fail
        go_roundw
        case rel => exact ⟨k + 1, hlt, by go_num, HI3.out, HR.out, HS2.out, HJ2.out⟩
        case measure => simp [intOf]; omega
      · have hne : err k ≠ 0 := by rw [h0]; omega
        rw [if_pos hne] at HR
        have HQ := hideN h0
        have HIL := hideN hi
        clear h0 hne HI2 hi
        go_wp2_with fail
        go_ret
        have hres : firstErr err 0 many = some k := HRES.out.trans HR.out.symm
        refine ⟨_, rfl, ?_, fun h => ?_, HJA.out _ _ HJ2.out⟩
        · unfold firstAns
          rw [hres]
          exact .inr (.inr ⟨i, w2.heap.size, 0, (k : Int), HIL.out, HS2.out, rfl, new_cell _ _ _ rfl rfl, new_cell _ _ _ rfl rfl, by simp only; rw [HQ.out]⟩)
        · rw [hres] at h
          cases h
    · have hge : (many : Int) ≤ (k : Int) := by omega
      have hz : many - k = 0 := by omega
      have hkm : k = many := by omega
      rw [hz, firstErr] at HR
      have hres : firstErr err 0 many = none := HRES.out.trans HR.out.symm
      have HRS := hideN hres
      rw [hkm] at HI
      clear hz hkm hres
      go_wp2_with fail
      go_ret
      refine ⟨_, rfl, ?_, fun _ => HI.out, HJ.out⟩
      unfold firstAns
      rw [HRS.out]
      exact .inl ⟨rfl, rfl⟩
set_option maxRecDepth 100000 in
set_option maxHeartbeats 4000000 in
theorem first2_any (a : Nat → Addr) (lb : Array Value) (many : Nat) (err : Nat → Int) (J : World → Prop) (I : Nat → World → Prop) (w : World) (hm : many ≤ 1000) (hJ0 : J w) (hJa : ∀ W o, J W → J (W.alloc o))
    (hcall : ∀ k W, k < many → w.heap.size ≤ W.heap.size → I k W → Calls Tryz.prog 63 (#[.int .i64 k] ++ lb) W fun e w' => ∃ ev, e = .returned ev ∧ ((err k = 0 ∧ ev = .nilIface) ∨ ∃ i : Nat, i < 12 ∧ err k = (i : Int) + 1 ∧ ev = sentV a i) ∧ w.heap.size ≤ w'.heap.size ∧ (err k = 0 → I (k + 1) w') ∧ J w') (h0 : I 0 w) :
    Calls Tryz.prog 60 #[.int .i64 many, .func (.func 63) #[] lb] w (FirstPost a w.heap.size J I err many) := by
  have HC := hideN hcall
  have HI0 := hideN h0
  have HJ0 := hideN hJ0
  have HJA := hideN hJa
  clear hJ0 hJa
  have hm' : (many : Int) ≤ 1000 := by omega
  obtain ⟨RES, hRES⟩ : ∃ RES, firstErr err 0 many = RES := ⟨_, rfl⟩
  have HRES := hideN hRES
  clear hcall h0 hRES
  go_enter Tryz.func60, Tryz.ntmps60
  go_wp2_with fail
  go_loopw [8] (fun iv wr => ∃ (k : Nat), k ≤ many ∧ iv = .int .i64 k ∧ Hid (I k wr) ∧ Hid (firstErr err k (many - k) = RES) ∧ Hid (w.heap.size ≤ wr.heap.size) ∧ Hid (J wr)) (fun iv _ => many - (intOf iv).toNat)
  case atStart => exact ⟨0, Nat.zero_le _, rfl, HI0.out, HRES.out, Nat.le_refl _, HJ0.out⟩
  case round =>
    clear HI0
    obtain ⟨k, hk, rfl, HI, HR, HS, HJ⟩ := hrel
    by_cases hlt : k < many
    · have hlt' : (k : Int) < (many : Int) := by omega
      have HCK := hideN (HC.out k wr hlt HS.out HI.out)
      have hsub : many - k = (many - (k + 1)) + 1 := by omega
      rw [hsub, firstErr] at HR
      clear hsub
      go_wp2_with fail
      refine HCK.out.mono ?_
      rintro e w2 ⟨ev2, rfl, he2, hs2, hi2, hj2⟩
      have HJ2 := hideN hj2
      have HS2 := hideN hs2
      have HI2 := hideN hi2
      clear hs2 hi2 HCK hj2
      rcases he2 with ⟨h0, rfl⟩ | ⟨i, hi, h0, rfl⟩
      · rw [if_neg (by rw [h0]; simp)] at HR
        have HI3 := hideN (HI2.out h0)
        clear h0 HI2
        go_wp2_with fail
        go_roundw
        case rel => exact ⟨k + 1, hlt, by go_num, HI3.out, HR.out, HS2.out, HJ2.out⟩
        case measure => simp [intOf]; omega
      · have hne : err k ≠ 0 := by rw [h0]; omega
        rw [if_pos hne] at HR
        have HQ := hideN h0
        have HIL := hideN hi
        clear h0 hne HI2 hi
        go_wp2_with fail
        go_ret
        have hres : firstErr err 0 many = some k := HRES.out.trans HR.out.symm
        refine ⟨_, rfl, ?_, fun h => ?_, HJA.out _ _ HJ2.out⟩
        · unfold firstAns
          rw [hres]
          exact .inr (.inr ⟨i, w2.heap.size, 0, (k : Int), HIL.out, HS2.out, rfl, new_cell _ _ _ rfl rfl, new_cell _ _ _ rfl rfl, by simp only; rw [HQ.out]⟩)
        · rw [hres] at h
          cases h
    · have hge : (many : Int) ≤ (k : Int) := by omega
      have hz : many - k = 0 := by omega
      have hkm : k = many := by omega
      rw [hz, firstErr] at HR
      have hres : firstErr err 0 many = none := HRES.out.trans HR.out.symm
      have HRS := hideN hres
      rw [hkm] at HI
      clear hz hkm hres
      go_wp2_with fail
      go_ret
      refine ⟨_, rfl, ?_, fun _ => HI.out, HJ.out⟩
      unfold firstAns
      rw [HRS.out]
      exact .inl ⟨rfl, rfl⟩
end Go.Proofs.YtjdobbjdlighpabGreatDoor
