/-
  Own text. OnceOnce by a contract: whatever the calls, true.
-/
import Derived.Test.YtjngnnbondejaabDoorOnceLm
namespace Go.Proofs.YtjngnnbondejaabDoor
open Go.RowKit Go.Maps

theorem ErrIn.kindE {base : Nat} {w : World} {a : Nat → Addr} {v : Value} {c x : Int} (h : ErrIn base w a v (c, x)) (hc : c ≠ 0) : ∃ t q, v = .iface t (.pointer q) ∧ ErrIn base w a (.iface t (.pointer q)) (c, x) := by
  obtain ⟨t, q, rfl⟩ := h.some hc
  exact ⟨t, q, rfl, h⟩
set_option maxRecDepth 100000 in
set_option maxHeartbeats 8000000 in
theorem onceOnce_any (a : Nat → Addr) (v : Value) (cs : List Call4) (w : World) (hE : ErrW w a) (hv : CallsAt w v cs) :
    Calls Tryd.prog 5 #[v] w fun e w' => e = .returned (.bool true) ∧ Below w.heap.size w w' := by
  have HE := hideN (fun W (hb : Below w.heap.size w W) => hE.below hb (Nat.le_refl _))
  have HV := hideN hv
  have HON := hideN (onced_any a w hE)
  obtain ⟨p, c, rfl, _⟩ := id hv
  clear hE hv
  go_enter Tryd.func5, Tryd.ntmps5
  go_wp2_with fail
  refine HON.out.mono ?_
  rintro e w1 ⟨rfl, hb1⟩
  have HB1 := hideN hb1
  have HV1 := hideN (HV.out.below hb1)
  clear hb1 HON
  go_wp2_with fail
  refine (longCalls_any _ cs w1 HV1.out).mono ?_
  rintro e w2 ⟨b, rfl, rfl, hlong⟩
  cases b with
  | true =>
    clear hlong
    go_wp2_with fail
    go_ret
    exact ⟨rfl, HB1.out⟩
  | false =>
    obtain ⟨hlen, hsz⟩ := hlong rfl
    have HSZ := hideN hsz
    have hl2 : (cs.length : Int) ≤ 80 := by omega
    have HLEN := hideN hlen
    clear hsz hlong hlen
    go_wp2_with fail
    refine (onceNew_any w2).mono ?_
    rintro e w3 ⟨rfl, ht3, hb3⟩
    have HS3 : Hid (OSt w w3 (w2.heap.size + 1) w2.heap.size []) := ⟨HB1.out.trans (hb3.mono HB1.out.size), ht3, by have := HB1.out.size; omega, HB1.out.size⟩
    obtain ⟨T, hT⟩ : ∃ T, w2.heap.size + 1 = T := ⟨_, rfl⟩
    obtain ⟨m, hm⟩ : ∃ m, w2.heap.size = m := ⟨_, rfl⟩
    rw [hm] at HS3
    rw [hm] at hT
    rw [hm, hT]
    rw [hT] at HS3
    clear ht3 hb3 hT hm HV1
    go_wp2_with fail
    go_loopw [5] (fun i wr => ∃ (j : Nat) (l : OL), j ≤ cs.length ∧ i = .int .i64 j ∧ Hid (OSt w wr T m l) ∧ Hid (OOk j l)) (fun i _ => cs.length - (intOf i).toNat)
    case atStart => exact ⟨0, [], Nat.zero_le _, rfl, HS3.out, OOk.nil⟩
    case round =>
      obtain ⟨j, l, hj, rfl, HS, HK⟩ := hrel
      by_cases hlt : j < cs.length
      · have hlt' : (j : Int) < (cs.length : Int) := by omega
        have hj0 : (0 : Int) ≤ (j : Int) := by omega
        obtain ⟨p', c', hpc, hcell⟩ := HV.out.below HS.out.below
        obtain ⟨rfl, rfl⟩ : p = p' ∧ c = c' := by simpa using hpc
        obtain ⟨bb, oo, rfl, hbl, c0, c1, c2, c3⟩ := hcell j hlt
        have hz := HSZ.out j hlt
        obtain ⟨y, hy⟩ : ∃ y, cs[j] = y := ⟨_, rfl⟩
        rw [hy] at c0 c1 c2 c3 hz
        clear hy hcell hpc
        obtain ⟨nt, cl, tx, n⟩ := y
        simp only at c0 c1 c2 c3 hz
        have HZ := hideN hz
        have hal := (Below.refl wr.heap.size wr).alloc (Nat.le_refl _) (.cells #[.bool nt, .string cl, .string tx, .int .i64 n] 51)
        have hX := Blk.new wr #[.bool nt, .string cl, .string tx, .int .i64 n] 51
        have HS1 := hideN (HS.out.next hal)
        have HX1 := hideN hX
        have HXM : Hid (m < wr.heap.size) := HS.out.tab.map.lt
        have hjk : (0 : Int) ≤ (j : Int) := hj0
        have HC := hideN (oCases HK.out hjk cl.data.toList tx.data.toList n)
        have HJ := hideN hlt
        have HL80 : Hid ((j : Int) ≤ 80) := by show _ ≤ _; have := HLEN.out; omega
        have x1 := hX.cell (i := 1) rfl
        have x2 := hX.cell (i := 2) rfl
        have x3 := hX.cell (i := 3) rfl
        clear hal hX hlt hz
        go_wp2_with fail
        obtain ⟨W, hW⟩ : ∃ W, wr.alloc (.cells #[.bool nt, .string cl, .string tx, .int .i64 n] 51) = W := ⟨_, rfl⟩
        rw [hW] at HS1 HX1 x1 x2 x3 ⊢
        obtain ⟨X, hXX⟩ : ∃ X, wr.heap.size = X := ⟨_, rfl⟩
        rw [hXX] at HX1 HXM x1 x2 x3 ⊢
        clear hW hXX c0 c1 c2 c3 hbl
        refine (onceAsk_any a cl n T m l W (by have := HZ.out; omega) (HK.out.more (by have := HL80.out; omega)) ((HE.out W HS1.out.below).on (by decide)) HS1.out.tab).mono ?_
        rintro e w4 ⟨ev4, rfl, he4, hb4⟩
        have HS4 := hideN (HS1.out.next hb4)
        have HX4 := hideN (HX1.out.next hb4)
        have HE4 := hideN he4
        have y1 := HX4.out.cell (i := 1) rfl
        have y2 := HX4.out.cell (i := 2) rfl
        have y3 := HX4.out.cell (i := 3) rfl
        clear he4 hb4 x1 x2 x3 HX1 HS1
        obtain ⟨⟨tk, bk, ck⟩, hask⟩ : ∃ r, oAsk l cl.data.toList n = r := ⟨_, rfl⟩
        have HASK := hideN hask
        rw [hask] at HE4 ⊢
        clear hask
        go_wp2_with fail
        refine (onceNote_any a cl tx n T m l w4 (by have := HZ.out; omega) (HK.out.more (by have := HL80.out; omega)) ((HE.out w4 HS4.out.below).on (by decide)) HS4.out.tab).mono ?_
        rintro e w5 ⟨ev5, rfl, he5, ht5, ho5⟩
        have HX5 := hideN (ho5.blk HX4.out (fun e => by have := HXM.out; omega))
        have z1 := HX5.out.cell (i := 1) rfl
        have z2 := HX5.out.cell (i := 2) rfl
        have z3 := HX5.out.cell (i := 3) rfl
        have HS5 := hideN (HS4.out.note ho5 ht5)
        have HE5 := hideN he5
        have HKN := hideN (HK.out.note (n := n) (c := cl.data.toList) (s := tx.data.toList) hjk)
        clear he5 ht5 ho5 HX4 HS4 y1 y2 y3
        rcases HC.out with ⟨x, hx, ha, hn⟩ | ⟨t, ha, hn⟩ | ⟨ha, hn⟩ | ⟨l', ha, hn, hp1, hp2, hp3, hn1, hnk⟩
        · rw [ha] at HASK
          obtain ⟨rfl, rfl, rfl⟩ : [] = tk ∧ false = bk ∧ x = ck := by simpa using HASK.out
          rw [hn] at HE5 HS5 HKN
          obtain ⟨t4, q4, rfl⟩ := HE4.out.some hx
          obtain ⟨t5, q5, rfl⟩ := HE5.out.some hx
          clear ha hn HC HX5 HASK hx
          go_wp2_with fail
          go_roundw
          case rel => exact ⟨j + 1, l, HJ.out, by go_num, HS5.out, by have := HKN.out; exact this⟩
          case measure => have := HJ.out; simp [intOf]; omega
        · rw [ha] at HASK
          obtain ⟨rfl, rfl, rfl⟩ : t = tk ∧ true = bk ∧ 0 = ck := by simpa using HASK.out
          rw [hn] at HE5 HS5 HKN
          obtain rfl := HE4.out.nil
          obtain ⟨t5, q5, rfl⟩ := HE5.out.some (show (8 : Int) ≠ 0 by decide)
          clear ha hn HC HX5 HASK
          go_wp2_with fail
          go_roundw
          case rel => exact ⟨j + 1, l, HJ.out, by go_num, HS5.out, by have := HKN.out; exact this⟩
          case measure => have := HJ.out; simp [intOf]; omega
        · rw [ha] at HASK
          obtain ⟨rfl, rfl, rfl⟩ : [] = tk ∧ false = bk ∧ 0 = ck := by simpa using HASK.out
          rw [hn] at HE5 HS5 HKN
          obtain rfl := HE4.out.nil
          obtain ⟨t5, q5, rfl, he5⟩ := HE5.out.kindE (show (7 : Int) ≠ 0 by decide)
          have HE6 := hideN he5
          clear ha hn HC HX5 HASK he5
          go_wp2_with fail
          refine (coded3_true a _ 7 w5 (HE.out w5 HS5.out.below) HE6.out.at).mono ?_
          rintro e w6 ⟨rfl, hb6⟩
          have HS6 := hideN (HS5.out.next hb6)
          clear hb6
          go_wp2_with fail
          go_roundw
          case rel => exact ⟨j + 1, l, HJ.out, by go_num, HS6.out, by have := HKN.out; exact this⟩
          case measure => have := HJ.out; simp [intOf]; omega
        · rw [ha] at HASK
          obtain ⟨rfl, rfl, rfl⟩ : [] = tk ∧ false = bk ∧ 0 = ck := by simpa using HASK.out
          rw [hn] at HE5 HS5 HKN
          obtain rfl := HE4.out.nil
          obtain rfl := HE5.out.nil
          have HP1 := hideN hp1
          have HP2 := hideN hp2
          have HP3 := hideN hp3
          have HN1 := hideN hn1
          have HNK := hideN hnk
          have HKB : Hid (OOk 1000 l') := by show OOk _ _; exact HKN.out.more (by have := HL80.out; omega)
          clear ha hn HC HASK hp1 hp2 hp3 hn1 hnk
          go_wp2_with fail
          refine (onceAsk_any a cl n T m l' w5 (by have := HZ.out; omega) HKB.out ((HE.out w5 HS5.out.below).on (by decide)) HS5.out.tab).mono ?_
          rintro e w6 ⟨ev6, rfl, he6, hb6⟩
          rw [HP1.out] at he6 ⊢
          obtain rfl := he6.nil
          have HS6 := hideN (HS5.out.next hb6)
          have HX6 := hideN (HX5.out.next hb6)
          have v1 := HX6.out.cell (i := 1) rfl
          have v2 := HX6.out.cell (i := 2) rfl
          have v3 := HX6.out.cell (i := 3) rfl
          have htx : bsV tx.data.toList = .string tx := by simp only [bsV]
          rw [htx]
          clear he6 hb6 htx z1 z2 z3 HX5 HS5
          go_wp2_with fail
          refine (onceNote_any a cl ⟨#[120]⟩ n T m l' w6 (by have := HZ.out; omega) HKB.out ((HE.out w6 HS6.out.below).on (by decide)) HS6.out.tab).mono ?_
          rintro e w7 ⟨ev7, rfl, he7, ht7, ho7⟩
          rw [HP2.out] at he7 ht7
          have HS7 := hideN (HS6.out.note ho7 ht7)
          have HX7 := hideN (ho7.blk HX6.out (fun e => by have := HXM.out; omega))
          have HE7 := hideN he7
          clear he7 ht7 ho7 v1 v2 v3 HX6 HS6
          go_wp2_with fail
          refine (coded3_true a _ 8 w7 (HE.out w7 HS7.out.below) HE7.out.at).mono ?_
          rintro e w8 ⟨rfl, hb8⟩
          have HS8 := hideN (HS7.out.next hb8)
          have HX8 := hideN (HX7.out.next hb8)
          have u1 := HX8.out.cell (i := 1) rfl
          have u2 := HX8.out.cell (i := 2) rfl
          have u3 := HX8.out.cell (i := 3) rfl
          clear hb8 HX7 HS7 HE7
          have hlo : (-9223372036854775808 : Int) ≤ n + 1 := by have := HN1.out; omega
          have hhi : n + 1 < 9223372036854775808 := by have := HNK.out; have := HL80.out; omega
          go_wp2_with fail
          refine (onceAsk_any a cl (n + 1) T m l' w8 (by have := HZ.out; omega) HKB.out ((HE.out w8 HS8.out.below).on (by decide)) HS8.out.tab).mono ?_
          rintro e w9 ⟨ev9, rfl, he9, hb9⟩
          rw [HP3.out] at he9 ⊢
          obtain rfl := he9.nil
          have HS9 := hideN (HS8.out.next hb9)
          clear he9 hb9 HX8 HS8 u1 u2 u3 hlo hhi
          go_wp2_with fail
          go_roundw
          case rel => exact ⟨j + 1, l', HJ.out, by go_num, HS9.out, by have := HKN.out; exact this⟩
          case measure => have := HJ.out; simp [intOf]; omega
      · have hge : (cs.length : Int) ≤ (j : Int) := by omega
        go_wp2_with fail
        refine (onceClients_any T m l wr (by have := HK.out.len; omega) HK.out.srt HS.out.tab).mono ?_
        rintro e w4 ⟨vc, rfl, hrow, hb4⟩
        obtain ⟨pc, cc, rfl⟩ := row_shapeK hrow
        have hl20 : (l.length : Int) ≤ 20 := by have := HK.out.len; omega
        have HB4 : Hid (Below w.heap.size w w4) := HS.out.below.trans (hb4.mono HS.out.below.size)
        clear hrow hb4
        go_wp2_with fail
        go_ret
        exact ⟨rfl, HB4.out⟩
end Go.Proofs.YtjngnnbondejaabDoor
