/-
  Own text. OnceActs by a contract: whatever the calls, true.
-/
import Derived.Test.YtjngnnbondejaabDoorOnceLm
import Derived.Test.YtjngnnbondejaabDoorOnceDn
import Derived.Test.YtjngnnbondejaabDoorErrOff
import Derived.Deep.RegionHeld3
namespace Go.Proofs.YtjngnnbondejaabDoor
open Go.RowKit Go.Maps

theorem bne_text {x : ByteArray} : (x.toList != x.toList) = false := by simp
/- Both tables beside each other, all new since w. -/
structure OTwo (w W : World) (T m M : Nat) (v : Value) (l : OL) : Prop where
  prog : OSt w W T m l
  doc : RTab W M v l
  new : ∀ k, rFoot M v k → w.heap.size ≤ k
  off : ∀ k, rFoot M v k → k ≠ T ∧ k ≠ m
theorem OTwo.next {w W W' : World} {T m M : Nat} {v : Value} {l : OL} (h : OTwo w W T m M v l) (hb : Below W.heap.size W W') : OTwo w W' T m M v l := ⟨h.prog.next hb, h.doc.below hb, h.new, h.off⟩
theorem OTwo.notes {w W W1 W2 : World} {T m M : Nat} {v v' : Value} {l l' : OL} (h : OTwo w W T m M v l) (ho1 : Off (fun k => k = m) W W1) (ht1 : OTab W1 T m l') (ho2 : Off (rFoot M v) W1 W2) (ht2 : RTab W2 M v' l') (hv : ∀ k, v'.ownBlock = some k → v.ownBlock = some k ∨ W1.heap.size ≤ k) : OTwo w W2 T m M v' l' := by
  have h1 := h.prog.note ho1 ht1
  have hm1 : m < W1.heap.size := ht1.map.lt
  have hT1 : T < W1.heap.size := ht1.blk.lt
  have hk : ∀ k, rFoot M v' k → rFoot M v k ∨ W1.heap.size ≤ k := fun k hk => by
    rcases hk with rfl | hk
    · exact .inl (.inl rfl)
    · exact (hv k hk).imp .inr id
  refine ⟨⟨h1.below.trans (ho2.below h1.below.size (fun k hk e => by have := h.new k e; omega)), ht1.off ho2 (fun e => (h.off _ e).1 rfl) (fun e => (h.off _ e).2 rfl), h.prog.newT, h.prog.newm⟩, ht2, fun k hk2 => ?_, fun k hk2 => ?_⟩
  · rcases hk k hk2 with h2 | h2
    · exact h.new k h2
    · exact Nat.le_trans h1.below.size h2
  · rcases hk k hk2 with h2 | h2
    · exact h.off k h2
    · exact ⟨by omega, by omega⟩
set_option maxRecDepth 100000 in
set_option maxHeartbeats 8000000 in
theorem onceActs_any (a : Nat → Addr) (v : Value) (cs : List Call4) (w : World) (hE : ErrW w a) (hv : CallsAt w v cs) :
    Calls Tryd.prog 6 #[v] w fun e w' => e = .returned (.bool true) ∧ Below w.heap.size w w' := by
  have HE := hideN (fun W (hb : Below w.heap.size w W) => hE.below hb (Nat.le_refl _))
  have HV := hideN hv
  have HON := hideN (onced_any a w hE)
  obtain ⟨p, c, rfl, _⟩ := id hv
  clear hE hv
  go_enter Tryd.func6, Tryd.ntmps6
  go_wp2_with fail
  refine HON.out.mono ?_
  rintro e w1 ⟨rfl, hb1⟩
  have HB1 := hideN hb1
  have HV1 := hideN (HV.out.below hb1)
  clear hb1 HON
  go_wp2_with fail
  refine (longCalls_any _ cs w1 HV1.out).mono ?_
  rintro e w2 ⟨b, rfl, rfl, hlong⟩
  cases b with
  | true =>
    clear hlong
    go_wp2_with fail
    go_ret
    exact ⟨rfl, HB1.out⟩
  | false =>
    obtain ⟨hlen, hsz⟩ := hlong rfl
    have HSZ := hideN hsz
    have hl2 : (cs.length : Int) ≤ 80 := by omega
    have HLEN := hideN hlen
    clear hsz hlong hlen
    go_wp2_with fail
    refine (onceNew_any w2).mono ?_
    rintro e w3 ⟨rfl, ht3, hb3⟩
    have HS3 : Hid (OSt w w3 (w2.heap.size + 1) w2.heap.size []) := ⟨HB1.out.trans (hb3.mono HB1.out.size), ht3, by have := HB1.out.size; omega, HB1.out.size⟩
    obtain ⟨T, hT⟩ : ∃ T, w2.heap.size + 1 = T := ⟨_, rfl⟩
    obtain ⟨m, hm⟩ : ∃ m, w2.heap.size = m := ⟨_, rfl⟩
    rw [hm] at HS3
    rw [hm] at hT
    rw [hm, hT]
    rw [hT] at HS3
    have hal3 := (Below.refl w3.heap.size w3).alloc (Nat.le_refl _) (.cells #[.slice none 0 0] 61)
    have hB3 := Blk.new w3 #[.slice none 0 0] 61
    have HT3 : Hid (OTwo w (w3.alloc (.cells #[.slice none 0 0] 61)) T m w3.heap.size (.slice none 0 0) []) := by
      have h1 := HS3.out.tab.blk.lt
      have h2 := HS3.out.tab.map.lt
      have h3 := HS3.out.below.size
      refine ⟨HS3.out.next hal3, ⟨hB3, World.ownsRow_nil _ _ _ _, by simp [Value.ownBlock]⟩, fun k hk => ?_, fun k hk => ?_⟩
      · rcases hk with rfl | hk
        · exact h3
        · simp [Value.ownBlock] at hk
      · rcases hk with rfl | hk
        · exact ⟨by omega, by omega⟩
        · simp [Value.ownBlock] at hk
    clear ht3 hb3 hT hm HV1 hal3 hB3
    go_wp2_with fail
    obtain ⟨W0, hW0⟩ : ∃ W0, w3.alloc (.cells #[.slice none 0 0] 61) = W0 := ⟨_, rfl⟩
    rw [hW0] at HT3 ⊢
    obtain ⟨M, hM⟩ : ∃ M, w3.heap.size = M := ⟨_, rfl⟩
    rw [hM] at HT3 ⊢
    clear hW0 hM HS3
    go_loopw [6] (fun i wr => ∃ (j : Nat) (l : OL) (vl : Value), j ≤ cs.length ∧ i = .int .i64 j ∧ Hid (OTwo w wr T m M vl l) ∧ Hid (OOk j l)) (fun i _ => cs.length - (intOf i).toNat)
    case atStart => exact ⟨0, [], _, Nat.zero_le _, rfl, HT3.out, OOk.nil⟩
    case round =>
      obtain ⟨j, l, vl, hj, rfl, HT, HK⟩ := hrel
      by_cases hlt : j < cs.length
      · have hlt' : (j : Int) < (cs.length : Int) := by omega
        have hj0 : (0 : Int) ≤ (j : Int) := by omega
        obtain ⟨p', c', hpc, hcell⟩ := HV.out.below HT.out.prog.below
        obtain ⟨rfl, rfl⟩ : p = p' ∧ c = c' := by simpa using hpc
        obtain ⟨bb, oo, rfl, hbl, c0, c1, c2, c3⟩ := hcell j hlt
        have hz := HSZ.out j hlt
        obtain ⟨y, hy⟩ : ∃ y, cs[j] = y := ⟨_, rfl⟩
        rw [hy] at c0 c1 c2 c3 hz
        clear hy hcell hpc
        obtain ⟨nt, cl, tx, n⟩ := y
        simp only at c0 c1 c2 c3 hz
        have HZ := hideN hz
        have hal := (Below.refl wr.heap.size wr).alloc (Nat.le_refl _) (.cells #[.bool nt, .string cl, .string tx, .int .i64 n] 51)
        have hX := Blk.new wr #[.bool nt, .string cl, .string tx, .int .i64 n] 51
        have HT1 := hideN (HT.out.next hal)
        have HX1 := hideN hX
        have HXM : Hid (m < wr.heap.size) := HT.out.prog.tab.map.lt
        have HXF : Hid (∀ k, rFoot M vl k → k < wr.heap.size) := HT.out.doc.lt
        have HJ := hideN hlt
        have HL80 : Hid ((j : Int) ≤ 80) := by show _ ≤ _; have := HLEN.out; omega
        have x0 := hX.cell (i := 0) rfl
        have x1 := hX.cell (i := 1) rfl
        have x2 := hX.cell (i := 2) rfl
        have x3 := hX.cell (i := 3) rfl
        clear hal hX hlt hz
        cases nt with
        | true =>
          go_wp2_with fail
          obtain ⟨W, hW⟩ : ∃ W, wr.alloc (.cells #[.bool true, .string cl, .string tx, .int .i64 n] 51) = W := ⟨_, rfl⟩
          rw [hW] at HT1 HX1 x0 x1 x2 x3 ⊢
          obtain ⟨X, hXX⟩ : ∃ X, wr.heap.size = X := ⟨_, rfl⟩
          rw [hXX] at HX1 HXM HXF x0 x1 x2 x3 ⊢
          clear hW hXX c0 c1 c2 c3 hbl
          have HRX := hideN HX1.out.lt
          have HN1 := hideN (fun W' (hS : OTwo w W' T m M vl l) => onceNote_any a cl tx n T m l W' (by have := HZ.out; omega) (HK.out.more (by have := HL80.out; omega)) ((HE.out W' hS.prog.below).on (by decide)) hS.prog.tab)
          have HN2 := hideN (fun W' (hS : RTab W' M vl l) => rNote_any cl tx n M vl l W' (by have := HZ.out; omega) (HK.out.more (by have := HL80.out; omega)) hS)
          have HKN := hideN (HK.out.note (n := n) (c := cl.data.toList) (s := tx.data.toList) hj0)
          obtain ⟨⟨ck, l'⟩, hnote⟩ : ∃ r, oNote l cl.data.toList n tx.data.toList = r := ⟨_, rfl⟩
          rw [hnote] at HN1 HN2 HKN
          unfold NotePost at HN1
          unfold RNotePost at HN2
          simp only at HN1 HN2 HKN
          have HTD := hideN (HT1.out.next (Below.refl _ W).drew)
          have HXD := hideN (HX1.out.next (Below.refl _ W).drew)
          clear x0 x1 x2 x3 hnote HT1
          go_region_held3 (fun w' => w'.cell? ⟨X, 1, none⟩ = some (.string cl) ∧ w'.cell? ⟨X, 2, none⟩ = some (.string tx) ∧ w'.cell? ⟨X, 3, none⟩ = some (.int .i64 n)) (first | exact ⟨HX6.out.cell (i := 1) rfl, HX6.out.cell (i := 2) rfl, HX6.out.cell (i := 3) rfl⟩ | exact ⟨HX5.out.cell (i := 1) rfl, HX5.out.cell (i := 2) rfl, HX5.out.cell (i := 3) rfl⟩ | exact ⟨HX4.out.cell (i := 1) rfl, HX4.out.cell (i := 2) rfl, HX4.out.cell (i := 3) rfl⟩ | exact ⟨HX1.out.cell (i := 1) rfl, HX1.out.cell (i := 2) rfl, HX1.out.cell (i := 3) rfl⟩ | go_keep) (first
            | (go_at_call 25; refine (HN1.out _ HTD.out).mono ?_; rintro e w4 ⟨ev4, rfl, he4, ht4, ho4⟩; have HO4 := hideN ho4; have HT4 := hideN ht4; have HR4 := hideN (HTD.out.doc.off ho4 (fun k hk e => (HTD.out.off k hk).2 e)); have HX4 := hideN (ho4.blk HXD.out (fun e => by have := HXM.out; omega)); have HEI := hideN he4; clear he4 ht4 ho4)
            | (go_at_call 28; refine (HN2.out _ HR4.out).mono ?_; rintro e w5 ⟨v5, rfl, ht5, hv5, ho5⟩; have HT5 := hideN (HTD.out.notes HO4.out HT4.out ho5 ht5 hv5); have HE5 := hideN (HEI.out.off ho5 (fun j hj hg => by have h1 := HXF.out j hg; have h2 := HRX.out; have h3 : W.heap.size ≤ j := hj; omega)).at; have HX5 := hideN (ho5.blk HX4.out (fun e => by have := HXF.out _ e; omega)); clear ht5 hv5 ho5)
            | (go_at_call 26; refine (coded3_true a ev4 _ w5 (HE.out _ HT5.out.prog.below) HE5.out).mono ?_; rintro e w6 ⟨rfl, hb6⟩; have HT6 := hideN (HT5.out.next hb6); have HX6 := hideN (HX5.out.next hb6); clear hb6))
          go_wp2_with fail
          go_roundw
          case rel => exact ⟨j + 1, l', v5, HJ.out, by go_num, HT6.out, by have := HKN.out; exact this⟩
          case measure => have := HJ.out; simp [intOf]; omega
        | false =>
          go_wp2_with fail
          obtain ⟨W, hW⟩ : ∃ W, wr.alloc (.cells #[.bool false, .string cl, .string tx, .int .i64 n] 51) = W := ⟨_, rfl⟩
          rw [hW] at HT1 HX1 x0 x1 x2 x3 ⊢
          obtain ⟨X, hXX⟩ : ∃ X, wr.heap.size = X := ⟨_, rfl⟩
          rw [hXX] at HX1 HXM HXF x0 x1 x2 x3 ⊢
          clear hW hXX c0 c1 c2 c3 hbl
          refine (onceAsk_any a cl n T m l W (by have := HZ.out; omega) (HK.out.more (by have := HL80.out; omega)) ((HE.out W HT1.out.prog.below).on (by decide)) HT1.out.prog.tab).mono ?_
          rintro e w4 ⟨ev4, rfl, he4, hb4⟩
          have HT4 := hideN (HT1.out.next hb4)
          have HX4 := hideN (HX1.out.next hb4)
          have HE4 := hideN he4
          have y1 := HX4.out.cell (i := 1) rfl
          have y3 := HX4.out.cell (i := 3) rfl
          clear he4 hb4 x0 x1 x2 x3 HX1 HT1
          obtain ⟨⟨tk, bk, ck⟩, hask⟩ : ∃ r, oAsk l cl.data.toList n = r := ⟨_, rfl⟩
          have HASK := hideN hask
          rw [hask] at HE4 ⊢
          clear hask
          obtain ⟨TK, hTK⟩ : ∃ TK : ByteArray, (⟨tk.toArray⟩ : ByteArray) = TK := ⟨_, rfl⟩
          have hbs : bsV tk = .string TK := by show Value.string _ = _; rw [hTK]
          have HBS := hideN hbs
          simp only
          rw [hbs]
          clear hTK hbs
          go_wp2_with fail
          refine (rAsk_any cl n M vl l w4 (by have := HZ.out; omega) (HK.out.more (by have := HL80.out; omega)) HT4.out.doc).mono ?_
          rintro e w5 ⟨rfl, rfl⟩
          rw [HASK.out]
          simp only
          have hb2 : txV tk = .string TK := HBS.out
          rw [hb2]
          have hne := bne_text (x := TK)
          clear hb2 HX4
          go_wp2_with fail
          refine (coded3_true a _ ck w5 (HE.out w5 HT4.out.prog.below) HE4.out.at).mono ?_
          rintro e w6 ⟨rfl, hb6⟩
          have HT6 := hideN (HT4.out.next hb6)
          clear hb6
          have hbb : (bk != bk) = false := by simp
          go_wp2_with fail
          go_roundw
          case rel => exact ⟨j + 1, l, vl, HJ.out, by go_num, HT6.out, HK.out.more (by omega)⟩
          case measure => have := HJ.out; simp [intOf]; omega
      · have hge : (cs.length : Int) ≤ (j : Int) := by omega
        have HK1 := hideN HK.out.srt
        have HK20 : Hid (l.length ≤ 20) := HK.out.len
        have hcp : ∀ W v', World.ownsRow W 0 9 1 v' l.length (l.map fun q => txV q.1) → CellsAt W v' ((l.map (·.1)).map txtV) := fun W v' h => CellsAt.of_row (base := 0) (e := 9) (n := l.length) (by rw [List.map_map]; exact h)
        have HCP := hideN hcp
        have hxn : ((l.map (·.1)).length : Int) ≤ 9223372036854775807 := by rw [List.length_map]; have := HK20.out; omega
        have HXN := hideN hxn
        clear hcp hxn hlt hj HV
        go_wp2_with fail
        refine (onceCopy_any T m l wr HT.out.prog.tab).mono ?_
        rintro e w4 ⟨T', m', rfl, ht4, hb4⟩
        have HT4 := hideN (HT.out.next hb4)
        have HC4 := hideN ht4
        clear ht4 hb4 HT
        go_wp2_with fail
        refine (onceClients_any T m l w4 (by have := HK20.out; omega) HK1.out HT4.out.prog.tab).mono ?_
        rintro e w5 ⟨va, rfl, hr5, hb5⟩
        have HT5 := hideN (HT4.out.next hb5)
        have HC5 := hideN (HC4.out.below hb5)
        have HR5 := hideN (ownsRow_low hr5 (Nat.zero_le _))
        clear hr5 hb5 HT4 HC4
        go_wp2_with fail
        refine (rClients_any M vl l w5 (by have := HK20.out; omega) HT5.out.doc).mono ?_
        rintro e w6 ⟨vb, rfl, hr6, hb6⟩
        have HT6 := hideN (HT5.out.next hb6)
        have HC6 := hideN (HC5.out.below hb6)
        have HA6 := hideN (HCP.out w6 va (row_below HR5.out hb6))
        have HB6 := hideN (HCP.out w6 vb (ownsRow_low hr6 (Nat.zero_le _)))
        clear hr6 hb6 HT5 HC5 HR5
        go_wp2_with fail
        refine (sameTextsC va vb _ w6 HXN.out HA6.out HB6.out).mono ?_
        rintro e w7 ⟨rfl, hb7⟩
        have HT7 := hideN (HT6.out.next hb7)
        have HC7 := hideN (HC6.out.below hb7)
        clear hb7 HT6 HC6 HA6 HB6
        go_wp2_with fail
        refine (onceClients_any T' m' l w7 (by have := HK20.out; omega) HK1.out HC7.out).mono ?_
        rintro e w8 ⟨va, rfl, hr8, hb8⟩
        have HT8 := hideN (HT7.out.next hb8)
        have HR8 := hideN (ownsRow_low hr8 (Nat.zero_le _))
        clear hr8 hb8 HT7 HC7
        go_wp2_with fail
        refine (rClients_any M vl l w8 (by have := HK20.out; omega) HT8.out.doc).mono ?_
        rintro e w9 ⟨vb, rfl, hr9, hb9⟩
        have HT9 := hideN (HT8.out.next hb9)
        have HA9 := hideN (HCP.out w9 va (row_below HR8.out hb9))
        have HB9 := hideN (HCP.out w9 vb (ownsRow_low hr9 (Nat.zero_le _)))
        clear hr9 hb9 HT8 HR8
        go_wp2_with fail
        refine (sameTextsC va vb _ w9 HXN.out HA9.out HB9.out).mono ?_
        rintro e wz ⟨rfl, hbz⟩
        have HBZ := hideN (HT9.out.next hbz).prog.below
        clear hbz HT9 HA9 HB9
        go_wp2_with fail
        go_ret
        exact ⟨rfl, HBZ.out⟩
end Go.Proofs.YtjngnnbondejaabDoor
