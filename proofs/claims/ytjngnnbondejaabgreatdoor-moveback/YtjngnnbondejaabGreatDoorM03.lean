/- A part. -/
import Derived.Test.YtjngnnbondejaabGreatDoorM02
import Derived.Deep.RegionHeld3
import Derived.Shelf.Strings.OnBuilder
import Derived.Shelf.Small.Wraps
import Derived.Shelf.Strings.BuilderK
import Derived.Shelf.Strconv.Itoa3
import Derived.Shelf.Strconv.Clone
import Derived.Shelf.Strings.Shaped
import Derived.Shelf.GgSortFunc.Tiny
import Derived.Shelf.Strings.Split
import Derived.Shelf.Unicode.DecodeSlow
import Derived.Shelf.Slices.SearchI
import Derived.Shelf.SortM.Plain
import Derived.Shelf.SortM.SortNone
import Derived.Test.YtjngnnbondejaabGreatDoorProg
import Derived.Lib.SmallJoins
import Derived.Laws.CopyOwn
import Derived.RangeFuncNested
set_option maxHeartbeats 4000000
set_option maxRecDepth 100000
namespace Go.Proofs.YtjngnnbondejaabGreatDoor
open Go.RowKit
def lesser (m y:Nat×Int):Nat×Int:=if Qo y m=true then y else m
def Zq:List (Nat×Int)→Nat×Int
 | []=>(2166136261,0)
 | x::r=>r.foldl lesser x
theorem Qnr (l:List (Nat×Int))(y:Nat×Int)(h:l≠[]):Zq (l++[y])=lesser (Zq l) y:=by
 cases l with
 | nil=>exact(h rfl).elim
 | cons x r=>show(r++[y]).foldl lesser x=_;rw[List.foldl_append];rfl
theorem Qfj (ids:List (Nat×Int))(k:Nat)(h:k<ids.length)(h1:1≤k):Zq (ids.take (k+1))=lesser (Zq (ids.take k)) ids[k]:=by
 rw[List.take_succ_eq_append_getElem h,Qnr];intro e;have:=congrArg List.length e;rw[List.length_take,List.length_nil]at this;omega
structure Qdp (w W:World)(v:Value)(m:Nat×Int):Prop where
 below:Below w.heap.size w W
 size:w.heap.size+1+1<W.heap.size
 b3:W.cell? ⟨w.heap.size,3,none⟩=some v
 r0:W.cell? ⟨w.heap.size+1,0,none⟩=some (.int .u32 0)
 r1:W.cell? ⟨w.heap.size+1,1,none⟩=some (.int .i64 0)
 f0:W.frozen? ⟨w.heap.size+1,0,none⟩=false
 f1:W.frozen? ⟨w.heap.size+1,1,none⟩=false
 q0:W.cell? ⟨w.heap.size+1+1,0,none⟩=some (.int .u32 (m.1:Nat))
 q1:W.cell? ⟨w.heap.size+1+1,1,none⟩=some (.int .i64 m.2)
 g0:W.frozen? ⟨w.heap.size+1+1,0,none⟩=false
 g1:W.frozen? ⟨w.heap.size+1+1,1,none⟩=false
theorem Qdp.new (w:World)(nm:ByteArray)(len p:Int)(v:Value)(m:Nat×Int)(t t':TypeId):Qdp w (((w.alloc (.cells #[.string nm,.int .i64 len,.int .u32 p,v] t)).alloc (.cells #[.int .u32 0,.int .i64 0] t')).alloc (.cells #[.int .u32 (m.1:Nat),.int .i64 m.2] t')) v m where
 below:=(((Below.refl _ w).alloc wz _).alloc (by simp) _).alloc (by simp;omega) _
 size:=by simp
 b3:=by rw[World.cell?_alloc_lt _ _ ⟨w.heap.size,3,none⟩ (by simp;omega),World.cell?_alloc_lt _ _ ⟨w.heap.size,3,none⟩ (by simp)];simp
 r0:=by rw[World.cell?_alloc_lt _ _ ⟨w.heap.size+1,0,none⟩ (by simp)];simp
 r1:=by rw[World.cell?_alloc_lt _ _ ⟨w.heap.size+1,1,none⟩ (by simp)];simp
 f0:=by rw[X3 _ _ (by simp)];simp
 f1:=by rw[X3 _ _ (by simp)];simp
 q0:=Zh _ _ _ rfl (by simp)
 q1:=Zh _ _ _ rfl (by simp)
 g0:=Yh _ _ _ (by simp)
 g1:=Yh _ _ _ (by simp)
theorem Qdp.next {w W W':World}{v:Value}{m:Nat×Int}(h:Qdp w W v m)(hb:Below W.heap.size W W'):Qdp w W' v m:=by
 have hs:=h.size;have hs':=hb.size;exact⟨h.below.trans (hb.mono h.below.size),by omega,(hb.cell (p:=⟨_,3,none⟩) (by simp;omega)).trans h.b3,(hb.cell (p:=⟨_,0,none⟩) (by simp;omega)).trans h.r0,(hb.cell (p:=⟨_,1,none⟩) (by simp;omega)).trans h.r1,(hb.frozen (p:=⟨_,0,none⟩) (by simp;omega)).trans h.f0,(hb.frozen (p:=⟨_,1,none⟩) (by simp;omega)).trans h.f1,
  (hb.cell (p:=⟨_,0,none⟩) (by simp;omega)).trans h.q0,(hb.cell (p:=⟨_,1,none⟩) (by simp;omega)).trans h.q1,(hb.frozen (p:=⟨_,0,none⟩) (by simp;omega)).trans h.g0,(hb.frozen (p:=⟨_,1,none⟩) (by simp;omega)).trans h.g1⟩
theorem Qdp.set {w W:World}{v:Value}{m:Nat×Int}(h:Qdp w W v m)(y:Nat×Int):Qdp w ((W.setCell ⟨w.heap.size+1+1,0,none⟩ (.int .u32 (y.1:Nat))).setCell ⟨w.heap.size+1+1,1,none⟩ (.int .i64 y.2)) v y:=by
 have o:∀(b i:Nat),b≠w.heap.size+1+1→((W.setCell ⟨w.heap.size+1+1,0,none⟩ (.int .u32 (y.1:Nat))).setCell ⟨w.heap.size+1+1,1,none⟩ (.int .i64 y.2)).cell? ⟨b,i,none⟩=W.cell? ⟨b,i,none⟩:=fun b i hb=>by have hn:∀j,(⟨w.heap.size+1+1,j,none⟩:Addr)≠⟨b,i,none⟩:=fun j e=>hb (by cases e;rfl);rw[World.cell?_setCell_other _ _ _ _ (hn 1),World.cell?_setCell_other _ _ _ _ (hn 0)]
 refine⟨(h.below.setCell (p:=⟨w.heap.size+1+1,0,none⟩) (by show _≤w.heap.size+1+1;omega) _).setCell (p:=⟨w.heap.size+1+1,1,none⟩) (by show _≤w.heap.size+1+1;omega) _,by simp[World.setCell];exact h.size,(o _ _ (by omega)).trans h.b3,(o _ _ (by omega)).trans h.r0,(o _ _ (by omega)).trans h.r1,by rw[World.frozen?_setCell,World.frozen?_setCell];exact h.f0,by rw[World.frozen?_setCell,World.frozen?_setCell];exact h.f1,?_,?_,by rw[World.frozen?_setCell,World.frozen?_setCell];exact h.g0,by rw[World.frozen?_setCell,World.frozen?_setCell];exact h.g1⟩
 ·rw[World.cell?_setCell_other _ _ _ _ (by simp),World.cell?_setCell_same' _ _ _ (by rw[h.q0];rfl)]
 ·rw[World.cell?_setCell_same' _ _ _ (by rw[World.cell?_setCell_other _ _ _ _ (by simp),h.q1];rfl)]
theorem Vi (nm:ByteArray)(len p:Int)(v:Value)(ids:List (Nat×Int))(w:World)(hv:Q3 w v ids)(hlen:ids.length≤maxLen) :
 Calls Tryz.prog 128 #[rcpV nm len p v] w fun e w'=>e=.returned (idV ((Zq ids).1:Nat) (Zq ids).2)∧Below w.heap.size w w':=by
 obtain⟨pa,c,rfl,hcell⟩:=hv;have hl2:(ids.length:Int)≤9223372036854775807:=by unfold maxLen at hlen;omega
 clear hlen;by_cases h0:ids=[]
 ·subst h0;go_enter Tryz.func128,Tryz.ntmps128;go_wp2_with fail;refine(Qap ⟨#[]⟩ _ (by unfold maxLen;decide)).mono ?_;rintro e w1 ⟨rfl,hb1⟩;rw[Ue];have hs1:=hb1.size;have k0:w1.cell? ⟨w.heap.size+1,0,none⟩=some (.int .u32 0):=(hb1.cell (p:=⟨w.heap.size+1,0,none⟩) (by simp)).trans (by simp);have k1:w1.cell? ⟨w.heap.size+1,1,none⟩=some (.int .i64 0):=(hb1.cell (p:=⟨w.heap.size+1,1,none⟩) (by simp)).trans (by simp);have f0:w1.frozen? ⟨w.heap.size+1,0,none⟩=false:=(hb1.frozen (p:=⟨w.heap.size+1,0,none⟩) (by simp)).trans (by simp);have f1:w1.frozen? ⟨w.heap.size+1,1,none⟩=false:=(hb1.frozen (p:=⟨w.heap.size+1,1,none⟩) (by simp)).trans (by simp);have hbw:Below w.heap.size w w1:=(((Below.refl _ w).alloc wz _).alloc (by simp) _).trans (hb1.mono (by simp;omega));have hlt:w.heap.size+1<w1.heap.size:=by simp at hs1;omega
  clear hb1 hs1;go_wp2_with fail;exact bodyPost_ret (v:=idV (2166136261:Nat) 0) (by simp[results,Tryz.results128,go_sem,k0,k1]) rfl ⟨rfl,(hbw.setCell (p:=⟨w.heap.size+1,0,none⟩) (by simp) _).setCell (p:=⟨w.heap.size+1,1,none⟩) (by simp) _⟩
 ·have hn1:1≤ids.length:=by rcases Nat.eq_zero_or_pos ids.length with h|h;exact(h0 (List.eq_nil_of_length_eq_zero h)).elim;exact h
  have hn1':(1:Int)≤(ids.length:Int):=by omega
  have hz:((ids.length:Int)==0)=false:=by rw[beq_eq_false_iff_ne];omega
  clear h0;obtain⟨b,o,rfl,hbl,hc0,hc1⟩:=hcell 0 (by omega);rw[Nat.zero_mul,Nat.add_zero]at hc0 hc1;have HCELL:Hid (∀W',Below w.heap.size w W'→∀i (h:i<ids.length),W'.cell? ⟨b,o+i*2,none⟩=some (.int .u32 (ids[i].1:Nat))∧W'.cell? ⟨b,o+i*2+1,none⟩=some (.int .i64 ids[i].2)):=fun W' hb i hi=>by obtain⟨b',o',hp,hlt,h1,h2⟩:=hcell i hi;cases hp;exact⟨(hb.cell (p:=⟨b,o+i*2,none⟩) hlt).trans h1,(hb.cell (p:=⟨b,o+i*2+1,none⟩) hlt).trans h2⟩
  clear hcell;have hc0':∀oo oo',((w.alloc oo).alloc oo').cell? ⟨b,o,none⟩=some (.int .u32 (ids[0].1:Nat)):=fun oo oo'=>by rw[World.cell?_alloc_lt _ _ ⟨b,o,none⟩ (by simp;omega),World.cell?_alloc_lt _ _ ⟨b,o,none⟩ hbl];exact hc0
  have hc1':∀oo oo',((w.alloc oo).alloc oo').cell? ⟨b,o+1,none⟩=some (.int .i64 ids[0].2):=fun oo oo'=>by rw[World.cell?_alloc_lt _ _ ⟨b,o+1,none⟩ (by simp;omega),World.cell?_alloc_lt _ _ ⟨b,o+1,none⟩ hbl];exact hc1
  go_enter Tryz.func128,Tryz.ntmps128;go_wp2_with fail;have hR:Qdp w (((w.alloc (.cells #[.string nm,.int .i64 len,.int .u32 p,.slice (some ⟨b,o,none⟩) ids.length c] 40)).alloc (.cells #[.int .u32 0,.int .i64 0] 25)).alloc (.cells #[.int .u32 (ids[0].1:Nat),.int .i64 ids[0].2] 25)) (.slice (some ⟨b,o,none⟩) ids.length c) ids[0]:=Qdp.new w nm len p _ ids[0] _ _;have HI0:Hid (Zq (ids.take 1)=ids[0]):=by
   show _=_;cases ids with
   | nil=>simp at hn1
   | cons x r=>rfl
  clear hc0 hc1 hc0' hc1'
  go_loopw [4] (fun i wr=>∃(k:Nat),1≤k∧k≤ids.length∧i=.int .i64 k∧Qdp w wr (.slice (some ⟨b,o,none⟩) ids.length c) (Zq (ids.take k))) (fun i _=>ids.length - (intOf i).toNat)
  case atStart=>exact⟨1,wz,hn1,rfl,by rw[HI0.out];exact hR⟩
  case round=>
   obtain⟨k,hk1,hk,rfl,hRW⟩:=hrel;clear hR HI0;have hb3:=hRW.b3;by_cases hlt:k<ids.length
   ·have hlt':(k:Int)<(ids.length:Int):=(by omega);have hk1':(0:Int)≤(k:Int):=(by omega);obtain⟨hd0,hd1⟩:=HCELL.out wr hRW.below k hlt;have HNX:Hid (Zq (ids.take (k+1))=lesser (Zq (ids.take k)) ids[k]):=Qfj ids k hlt hk1;obtain⟨m,hm⟩:∃m,Zq (ids.take k)=m:=⟨_,rfl⟩;obtain⟨y,hy⟩:∃y,ids[k]=y:=⟨_,rfl⟩;rw[hm]at hRW HNX;rw[hy]at HNX hd0 hd1;have HCY:Hid (∀W',Below w.heap.size w W'→W'.cell? ⟨b,o+k*2,none⟩=some (.int .u32 (y.1:Nat))∧W'.cell? ⟨b,o+k*2+1,none⟩=some (.int .i64 y.2)):=fun W' hb=>by have:=HCELL.out W' hb k hlt;rwa [hy]at this
    clear hm hy;have hq0:=hRW.q0;have hq1:=hRW.q1;obtain⟨Lb,hL⟩:∃Lb,(if (y.1:Int)=(m.1:Int) then decide (y.2<m.2) else decide ((y.1:Int)<(m.1:Int)))=Lb:=⟨_,rfl⟩
    have HL:Hid ((if (y.1:Int)=(m.1:Int) then decide (y.2<m.2) else decide ((y.1:Int)<(m.1:Int)))=Lb):=hL
    have HLS:Hid (lesser m y=if Lb=true then y else m):=(by show _=_;unfold lesser Qo;rw[hL])
    clear hL;cases Lb with
    | true=>
     go_wp2_with fail
     go_region_held3 (fun w'=>w'.cell? ⟨w.heap.size,3,none⟩=some (.slice (some ⟨b,o,none⟩) ids.length c)∧w'.cell? ⟨b,o+k*2,none⟩=some (.int .u32 (y.1:Nat))∧w'.cell? ⟨b,o+k*2+1,none⟩=some (.int .i64 y.2)∧w'.cell? ⟨w.heap.size+1+1,0,none⟩=some (.int .u32 (m.1:Nat))∧w'.cell? ⟨w.heap.size+1+1,1,none⟩=some (.int .i64 m.2)) (go_keep) (first
      | (go_at_call 91;refine(Kj _ _ _ _ _).mono ?_;rintro e w2 ⟨rfl,hb2⟩;rw[HL.out];have hR2:Qdp w w2 (.slice (some ⟨b,o,none⟩) ids.length c) m:=hRW.next ((Below.refl _ wr).drew.trans (hb2.mono wz));have z0:=hR2.b3;have z1:=hR2.q0;have z2:=hR2.q1;have z3:=hR2.g0;have z4:=hR2.g1;obtain⟨z5,z6⟩:=HCY.out w2 hR2.below))
     go_wp2_with fail;go_roundw
     case rel=>exact⟨k+1,by omega,by omega,by go_num,by rw[HNX.out,HLS.out];exact hR2.set y⟩
     case measure=>simp[intOf];omega
    | false=>
     go_wp2_with fail
     go_region_held3 (fun w'=>w'.cell? ⟨w.heap.size,3,none⟩=some (.slice (some ⟨b,o,none⟩) ids.length c)∧w'.cell? ⟨b,o+k*2,none⟩=some (.int .u32 (y.1:Nat))∧w'.cell? ⟨b,o+k*2+1,none⟩=some (.int .i64 y.2)∧w'.cell? ⟨w.heap.size+1+1,0,none⟩=some (.int .u32 (m.1:Nat))∧w'.cell? ⟨w.heap.size+1+1,1,none⟩=some (.int .i64 m.2)) (go_keep) (first
      | (go_at_call 91;refine(Kj _ _ _ _ _).mono ?_;rintro e w2 ⟨rfl,hb2⟩;rw[HL.out];have hR2:Qdp w w2 (.slice (some ⟨b,o,none⟩) ids.length c) m:=hRW.next ((Below.refl _ wr).drew.trans (hb2.mono wz));have z0:=hR2.b3;have z1:=hR2.q0;have z2:=hR2.q1;have z3:=hR2.g0;have z4:=hR2.g1;obtain⟨z5,z6⟩:=HCY.out w2 hR2.below))
     go_wp2_with fail;go_roundw
     case rel=>exact⟨k+1,by omega,by omega,by go_num,by rw[HNX.out,HLS.out];exact hR2⟩
     case measure=>simp[intOf];omega
   ·have hge:(ids.length:Int)≤(k:Int):=(by omega);rw[List.take_of_length_le (by omega)]at hRW;obtain⟨m,hm⟩:∃m,Zq ids=m:=⟨_,rfl⟩;have HM:Hid (Zq ids=m):=hm;rw[hm]at hRW;clear hm;have hq0:=hRW.q0;have hq1:=hRW.q1;have k0:=hRW.r0;have k1:=hRW.r1;have f0:=hRW.f0;have f1:=hRW.f1;go_wp2_with fail;exact bodyPost_ret (v:=idV (m.1:Nat) m.2) (by simp[results,Tryz.results128,go_sem,k0,k1]) rfl ⟨by rw[HM.out],(hRW.below.setCell (p:=⟨w.heap.size+1,0,none⟩) (by simp) _).setCell (p:=⟨w.heap.size+1,1,none⟩) (by simp) _⟩
def hexAt (z:Nat)(n k j:Nat):Nat:=if 8≤j+k then (hexDig (n / 16 ^ (7 - j) % 16)).toNat else z
theorem Ql4 (n k j:Nat)(h:j<k):(hexLast n k)[j]? = some (hexDig (n / 16 ^ (k - 1 - j) % 16)):=by
 induction k generalizing n with
 | zero=>omega
 | succ k ih=>
  rw[hexLast];by_cases hj:j=k
  ·subst hj;rw[List.getElem?_append_right (by rw[Qm];omega),Qm];simp
  ·rw[List.getElem?_append_left (by rw[Qm];omega),ih _ (by omega),Nat.div_div_eq_div_mul,←Nat.pow_succ',show(k - 1 - j).succ=k+1 - 1 - j by omega]
theorem Qsy:∀d:Fin 16,((#[48,49,50,51,52,53,54,55,56,57,97,98,99,100,101,102]:Array UInt8)[d.val]'d.isLt).toNat=(hexDig d.val).toNat:=by decide
theorem Quz (d:Nat)(h:d<16)(hq:d<(⟨#[48,49,50,51,52,53,54,55,56,57,97,98,99,100,101,102]⟩:ByteArray).size):((⟨#[48,49,50,51,52,53,54,55,56,57,97,98,99,100,101,102]⟩:ByteArray)[d]'hq).toNat=(hexDig d).toNat:=Qsy ⟨d,h⟩
structure Qod (z:Nat)(w:World)(B n k:Nat)(wr:World):Prop where
 below:Below w.heap.size w wr
 size:B<wr.heap.size
 cell:∀j,j<8→wr.cell? ⟨B,j,none⟩=some (.int .u8 (hexAt z n k j:Nat))
 free:∀j,j<8→wr.frozen? ⟨B,j,none⟩=false
theorem Qod.next {z:Nat}{w:World}{B n k:Nat}{wr:World}(h:Qod z w B n k wr)(hB:w.heap.size≤B)(hk:k<8){o:Nat}(ho:o=7 - k){d:Nat}(hd:d=(hexDig (n / 16 ^ k % 16)).toNat) :
 Qod z w B n (k+1) (wr.setCell ⟨B,o,none⟩ (.int .u8 (d:Int))) where
 below:=h.below.setCell hB _
 size:=by simpa[World.setCell]using h.size
 cell j hj:=by
  subst ho hd;by_cases hjk:j=7 - k
  ·subst hjk;rw[World.cell?_setCell_same _ _ _ (h.cell _ hj)];unfold hexAt;rw[if_pos (by omega),show 7 - (7 - k)=k by omega]
  ·rw[World.cell?_setCell_other _ _ _ _ (fun e=>hjk (by injection e;omega)),h.cell j hj];unfold hexAt;by_cases h8:8≤j+k
   ·rw[if_pos h8,if_pos (by omega)]
   ·rw[if_neg h8,if_neg (by omega)]
 free j hj:=by rw[World.frozen?_setCell];exact h.free j hj
theorem Qod.string {z:Nat}{w:World}{B n:Nat}{wr:World}(h:Qod z w B n 8 wr)(c:Nat) :
 (convert 82 9 (.slice (some ⟨B,0,none⟩) 8 c)).run Tryz.prog wr=.ok (.string ⟨(hexLast n 8).toArray⟩) wr:=by
 have hl:=Qm n 8;have:=run_convert_bytes_back (P:=Tryz.prog) wr 82 9 5 ⟨B,0,none⟩ c (hexLast n 8) Tryz.underlying82 Tryz.underlying5 Tryz.underlying9 (fun j hj=>by
  have hg:=Ql4 n 8 j (by omega);rw[List.getElem?_eq_getElem hj]at hg;have hp:(⟨B,0,none⟩:Addr).add j=⟨B,j,none⟩:=by unfold Addr.add;split<;>simp_all
  rw[Option.some.inj hg,hp,h.cell j (by omega)];unfold hexAt;rw[if_pos (by omega)])
 rw[hl]at this;exact this
theorem Qwx (m:Nat)(hm:m<4294967296):bits .and .u32 (m:Int) 15=((m % 16:Nat):Int):=by
 have:=bits_mask .u32 32 (by decide) (fun n h0 h1=>by rw[IntKind.wrap_u32];omega) 4 (by decide) (m:Int) (by omega) (by omega);simpa using this
theorem Qt0 (n k:Nat):n / 16 ^ k / 16=n / 16 ^ (k+1):=by rw[Nat.div_div_eq_div_mul,Nat.pow_succ]
theorem hexText_any (n:Nat)(hn:n<4294967296)(w:World) :
 Calls Tryz.prog 195 #[.int .u32 n] w fun e w'=>e=.returned (.string ⟨(hexLast n 8).toArray⟩)∧Below w.heap.size w w':=by
 have hmk:∀w,(Instr.makeSlice 82 (.int .i64 8) (.int .i64 8)).run Tryz.prog w=.ok (.slice (some ⟨w.heap.size,0,none⟩) 8 8) (w.alloc (.cells #[.int .u8 0,.int .u8 0,.int .u8 0,.int .u8 0,.int .u8 0,.int .u8 0,.int .u8 0,.int .u8 0] 5)):=fun _=>by kernel_rfl
 go_enter Tryz.func195,Tryz.ntmps195
 go_wp2
 go_loopw [0,8] (fun q i wr=>∃k:Nat,k≤8∧i=.int .i64 k∧q=.int .u32 (n / 16 ^ k:Nat)∧Qod 0 w w.heap.size n k wr) (fun _ i _=>8 - (intOf i).toNat)
 case atStart=>
  refine⟨0,Nat.zero_le _,rfl,by simp,(Below.refl _ _).alloc wz _,by simp,?_,?_⟩
  ·intro j hj;have:j=0∨j=1∨j=2∨j=3∨j=4∨j=5∨j=6∨j=7:=(by omega);rcases this with rfl|rfl|rfl|rfl|rfl|rfl|rfl|rfl<;>simp[hexAt]
  ·intro j hj;simp
 case round=>
  obtain⟨k,hk,rfl,rfl,hH⟩:=hrel;by_cases hlt:k<8
  ·have hc:=hH.cell (7 - k) (by omega);have hf:=hH.free (7 - k) (by omega);have hsz:=hH.size;have hlt':(k:Int)<8:=(by omega);have hm:n / 16 ^ k<4294967296:=Nat.lt_of_le_of_lt (Nat.div_le_self _ _) hn;have hnx:∀d:Nat,d=(hexDig (n / 16 ^ k % 16)).toNat→Qod 0 w w.heap.size n (k+1) (wr.setCell ⟨w.heap.size,7 - k,none⟩ (.int .u8 (d:Int))):=fun d hd=>hH.next wz hlt rfl hd;have HD:Hid (n / 16 ^ k / 16=n / 16 ^ (k+1)):=Qt0 n k;generalize n / 16 ^ k=m at *;have hand:=Qwx m hm;clear hH
   go_wp2
   go_roundw
   case rel=>exact⟨k+1,by omega,by go_num,by rw[←HD.out];rfl,hnx _ (Quz _ (by omega) _)⟩
   case measure=>simp[intOf];omega
  ·obtain rfl:k=8:=(by omega);have hcv:=hH.string 8;have hbl:=hH.below;clear hH
   go_wp2
   go_ret;exact⟨rfl,hbl⟩
theorem Qf7 (a b:List UInt8):(⟨a.toArray⟩:ByteArray)++⟨b.toArray⟩=⟨(a++b).toArray⟩:=by
 apply ByteArray.ext;simp[ByteArray.data_append]
theorem Vt (u:Nat)(h:u≤9223372036854775807):(Lib.decDigits u).length≤19:=by
 have h4:(10:Nat) ^ 19=10000000000000000000:=by decide
 exact J4 u 19 (by decide) (by rw[h4];omega)
end Go.Proofs.YtjngnnbondejaabGreatDoor
namespace Go.Proofs
open Go.Shelf
def Tryz.lays169_ren:Go.Shelf.Ren:=⟨fun|169=>194|n=>n,fun|70=>260|9=>9|0=>0|72=>262|37=>82|127=>325|3=>3|5=>5|n=>n,fun|n=>n⟩
theorem Tryz.lays169:Go.Proofs.Lays.n169 Tryz.prog Tryz.lays169_ren:={
 mixed:=by kernel_rfl
 f169:=Tryz.func194.trans (congrArg some (by kernel_rfl))
 t0:=Tryz.underlying0
 a0:=Tryz.isAgg0
 z0:=Tryz.sizeOf0
 v0:=Tryz.zeroValue0
 t3:=Tryz.underlying3
 a3:=Tryz.isAgg3
 z3:=Tryz.sizeOf3
 v3:=Tryz.zeroValue3
 t9:=Tryz.underlying9
 a9:=Tryz.isAgg9
 z9:=Tryz.sizeOf9
 v9:=Tryz.zeroValue9
 t37:=Tryz.underlying82
 a37:=Tryz.isAgg82
 z37:=Tryz.sizeOf82
 v37:=Tryz.zeroValue82
 t70:=Tryz.underlying260
 a70:=Tryz.isAgg260
 z70:=Tryz.sizeOf260
 v70:=Tryz.zeroValue260
 t72:=Tryz.underlying262
 a72:=Tryz.isAgg262
 z72:=Tryz.sizeOf262
 v72:=Tryz.zeroValue262
 t127:=Tryz.underlying325
 a127:=Tryz.isAgg325
 z127:=Tryz.sizeOf325
 v127:=Tryz.zeroValue325 }
theorem Tryz.Builder_Extra_169:Builder.Extra Tryz.prog Tryz.lays169_ren:={
 sizeBuilder:=by kernel_rfl
 liesBuilder:=by kernel_rfl
 t5:=Tryz.underlying5
 a5:=Tryz.isAgg5
 z5:=Tryz.sizeOf5
 v5:=Tryz.zeroValue5
 infoByte:=by kernel_rfl
 cellsByte:=by kernel_rfl
 sizeByte:=by kernel_rfl
 neB5:=by decide }
open Go.RowKit in
theorem Tryz.Builder_String (B b:Nat)(l:List UInt8)(w:World)(h:Lib.IsBuilder 262 5 B b (Lib.byteCells l) w)(h0:l≠[]) :
 Calls Tryz.prog 194 #[.pointer (some ⟨b,0,none⟩)] w fun e w'=>e=.returned (.string ⟨l.toArray⟩)∧Below B w w':=Any.Builder_String Tryz.lays169 Tryz.Builder_Extra_169 B b l w h h0
def Tryz.lays156_ren:Go.Shelf.Ren:=⟨fun|156=>200|165=>275|166=>191|169=>194|240=>263|241=>313|276=>305|277=>331|n=>n,fun|31=>73|9=>9|3=>3|4=>4|0=>0|20=>20|72=>262|76=>69|70=>260|37=>82|75=>42|127=>325|164=>248|5=>5|80=>265|n=>n,fun|n=>n⟩
theorem Tryz.lays156:Go.Proofs.Lays.n156 Tryz.prog Tryz.lays156_ren:={
 mixed:=by kernel_rfl
 f156:=Tryz.func200.trans (congrArg some (by kernel_rfl))
 f165:=Tryz.func275.trans (congrArg some (by kernel_rfl))
 f166:=Tryz.func191.trans (congrArg some (by kernel_rfl))
 f169:=Tryz.func194.trans (congrArg some (by kernel_rfl))
 f240:=Tryz.func263.trans (congrArg some (by kernel_rfl))
 f241:=Tryz.func313.trans (congrArg some (by kernel_rfl))
 f276:=Tryz.func305.trans (congrArg some (by kernel_rfl))
 f277:=Tryz.func331.trans (congrArg some (by kernel_rfl))
 t0:=Tryz.underlying0
 a0:=Tryz.isAgg0
 z0:=Tryz.sizeOf0
 v0:=Tryz.zeroValue0
 t3:=Tryz.underlying3
 a3:=Tryz.isAgg3
 z3:=Tryz.sizeOf3
 v3:=Tryz.zeroValue3
 t4:=Tryz.underlying4
 a4:=Tryz.isAgg4
 z4:=Tryz.sizeOf4
 v4:=Tryz.zeroValue4
 t9:=Tryz.underlying9
 a9:=Tryz.isAgg9
 z9:=Tryz.sizeOf9
 v9:=Tryz.zeroValue9
 t20:=Tryz.underlying20
 a20:=Tryz.isAgg20
 z20:=Tryz.sizeOf20
 v20:=Tryz.zeroValue20
 t31:=Tryz.underlying73
 a31:=Tryz.isAgg73
 z31:=Tryz.sizeOf73
 v31:=Tryz.zeroValue73
 t37:=Tryz.underlying82
 a37:=Tryz.isAgg82
 z37:=Tryz.sizeOf82
 v37:=Tryz.zeroValue82
 t70:=Tryz.underlying260
 a70:=Tryz.isAgg260
 z70:=Tryz.sizeOf260
 v70:=Tryz.zeroValue260
 t72:=Tryz.underlying262
 a72:=Tryz.isAgg262
 z72:=Tryz.sizeOf262
 v72:=Tryz.zeroValue262
 t75:=Tryz.underlying42
 a75:=Tryz.isAgg42
 z75:=Tryz.sizeOf42
 v75:=Tryz.zeroValue42
 t76:=Tryz.underlying69
 a76:=Tryz.isAgg69
 z76:=Tryz.sizeOf69
 v76:=Tryz.zeroValue69
 t127:=Tryz.underlying325
 a127:=Tryz.isAgg325
 z127:=Tryz.sizeOf325
 v127:=Tryz.zeroValue325
 t164:=Tryz.underlying248
 a164:=Tryz.isAgg248
 z164:=Tryz.sizeOf248
 v164:=Tryz.zeroValue248 }
theorem Tryz.Builder_Extra_156:Builder.Extra Tryz.prog Tryz.lays156_ren:={
 sizeBuilder:=by kernel_rfl
 liesBuilder:=by kernel_rfl
 t5:=Tryz.underlying5
 a5:=Tryz.isAgg5
 z5:=Tryz.sizeOf5
 v5:=Tryz.zeroValue5
 infoByte:=by kernel_rfl
 cellsByte:=by kernel_rfl
 sizeByte:=by kernel_rfl
 neB5:=by decide }
open Go.RowKit in
theorem Tryz.strings_Join_none (a:Option Addr)(c:Nat)(sep:ByteArray)(w:World) :
 Calls Tryz.prog 200 #[.slice a 0 c,.string sep] w fun e w'=>e=.returned (.string ⟨#[]⟩)∧w'=w:=Any.strings_Join_none Tryz.lays156 Tryz.Builder_Extra_156 a c sep w
open Go.RowKit in
theorem Tryz.strings_Join (bk o c:Nat)(xs:List ByteArray)(sep:ByteArray)(w:World)(hcells:∀(j:Nat) x,xs[j]? = some x→w.cell? ⟨bk,o+j,none⟩=some (.string x))(hbk:bk<w.heap.size)(hN:xs.length≤140737488355328)(hcap:xs.length≤c)(hlen:(Lib.join (xs.map (·.data.toList)) sep.data.toList).length≤140737488355328) :
 Calls Tryz.prog 200 #[.slice (some ⟨bk,o,none⟩) xs.length c,.string sep] w fun e w'=>e=.returned (.string ⟨(Lib.join (xs.map (·.data.toList)) sep.data.toList).toArray⟩)∧Below w.heap.size w w':=Any.strings_Join Tryz.lays156 Tryz.Builder_Extra_156 bk o c xs sep w hcells hbk hN hcap hlen
def Tryz.lays103_ren:Go.Shelf.Ren:=⟨fun|103=>350|210=>362|206=>367|n=>n,fun|9=>9|4=>4|24=>409|3=>3|n=>n,fun|n=>n⟩
theorem Tryz.lays103:Go.Proofs.Lays.n103 Tryz.prog Tryz.lays103_ren:={
 mixed:=by kernel_rfl
 f103:=Tryz.func350.trans (congrArg some (by kernel_rfl))
 f206:=Tryz.func367.trans (congrArg some (by kernel_rfl))
 f210:=Tryz.func362.trans (congrArg some (by kernel_rfl))
 t3:=Tryz.underlying3
 a3:=Tryz.isAgg3
 z3:=Tryz.sizeOf3
 v3:=Tryz.zeroValue3
 t4:=Tryz.underlying4
 a4:=Tryz.isAgg4
 z4:=Tryz.sizeOf4
 v4:=Tryz.zeroValue4
 t9:=Tryz.underlying9
 a9:=Tryz.isAgg9
 z9:=Tryz.sizeOf9
 v9:=Tryz.zeroValue9
 t24:=Tryz.underlying409
 a24:=Tryz.isAgg409
 z24:=Tryz.sizeOf409
 v24:=Tryz.zeroValue409 }
open Go.RowKit in
theorem Tryz.strings_CutPrefix (s p:ByteArray)(w:World) :
 Calls Tryz.prog 350 #[.string s,.string p] w fun e w'=>e=.returned (.tuple #[.string ⟨(Lib.trimPrefix s.data.toList p.data.toList).toArray⟩,.bool (Lib.hasPrefix s.data.toList p.data.toList)])∧w'=w:=Any.strings_CutPrefix Tryz.lays103 s p w
def Tryz.laysM171_ren:Go.Shelf.Ren:=⟨fun|171=>193|243=>264|246=>306|283=>323|284=>324|285=>325|286=>326|129=>253|317=>342|318=>343|319=>344|320=>345|337=>358|338=>359|n=>n,fun|3=>3|9=>9|2=>2|4=>4|171=>389|0=>0|53=>317|37=>82|5=>5|173=>391|212=>406|51=>23|20=>20|213=>407|46=>256|232=>419|233=>420|n=>n,fun|17=>13|18=>15|19=>16|n=>n⟩
theorem Tryz.laysM171:Go.Proofs.LaysM.n171 Tryz.prog Tryz.laysM171_ren:={
 mixed:=by kernel_rfl
 f129:=Tryz.func253.trans (congrArg some (by kernel_rfl))
 f171:=Tryz.func193.trans (congrArg some (by kernel_rfl))
 f243:=Tryz.func264.trans (congrArg some (by kernel_rfl))
 f246:=Tryz.func306.trans (congrArg some (by kernel_rfl))
 f283:=Tryz.func323.trans (congrArg some (by kernel_rfl))
 f284:=Tryz.func324.trans (congrArg some (by kernel_rfl))
 f285:=Tryz.func325.trans (congrArg some (by kernel_rfl))
 f286:=Tryz.func326.trans (congrArg some (by kernel_rfl))
 f317:=Tryz.func342.trans (congrArg some (by kernel_rfl))
 f318:=Tryz.func343.trans (congrArg some (by kernel_rfl))
 f319:=Tryz.func344.trans (congrArg some (by kernel_rfl))
 f320:=Tryz.func345.trans (congrArg some (by kernel_rfl))
 f337:=Tryz.func358.trans (congrArg some (by kernel_rfl))
 f338:=Tryz.func359.trans (congrArg some (by kernel_rfl))
 t0:=Tryz.underlying0
 a0:=Tryz.isAgg0
 z0:=Tryz.sizeOf0
 v0:=Tryz.zeroValue0
 t2:=Tryz.underlying2
 a2:=Tryz.isAgg2
 z2:=Tryz.sizeOf2
 v2:=Tryz.zeroValue2
 t3:=Tryz.underlying3
 a3:=Tryz.isAgg3
 z3:=Tryz.sizeOf3
 v3:=Tryz.zeroValue3
 t4:=Tryz.underlying4
 a4:=Tryz.isAgg4
 z4:=Tryz.sizeOf4
 v4:=Tryz.zeroValue4
 t5:=Tryz.underlying5
 a5:=Tryz.isAgg5
 z5:=Tryz.sizeOf5
 v5:=Tryz.zeroValue5
 t9:=Tryz.underlying9
 a9:=Tryz.isAgg9
 z9:=Tryz.sizeOf9
 v9:=Tryz.zeroValue9
 t20:=Tryz.underlying20
 a20:=Tryz.isAgg20
 z20:=Tryz.sizeOf20
 v20:=Tryz.zeroValue20
 t37:=Tryz.underlying82
 a37:=Tryz.isAgg82
 z37:=Tryz.sizeOf82
 v37:=Tryz.zeroValue82
 t46:=Tryz.underlying256
 a46:=Tryz.isAgg256
 z46:=Tryz.sizeOf256
 v46:=Tryz.zeroValue256
 t51:=Tryz.underlying23
 a51:=Tryz.isAgg23
 z51:=Tryz.sizeOf23
 v51:=Tryz.zeroValue23
 t53:=Tryz.underlying317
 a53:=Tryz.isAgg317
 z53:=Tryz.sizeOf317
 v53:=Tryz.zeroValue317
 t171:=Tryz.underlying389
 a171:=Tryz.isAgg389
 z171:=Tryz.sizeOf389
 v171:=Tryz.zeroValue389
 t173:=Tryz.underlying391
 a173:=Tryz.isAgg391
 z173:=Tryz.sizeOf391
 v173:=Tryz.zeroValue391
 t212:=Tryz.underlying406
 a212:=Tryz.isAgg406
 z212:=Tryz.sizeOf406
 v212:=Tryz.zeroValue406
 t213:=Tryz.underlying407
 a213:=Tryz.isAgg407
 z213:=Tryz.sizeOf407
 t232:=Tryz.underlying419
 a232:=Tryz.isAgg419
 z232:=Tryz.sizeOf419
 v232:=Tryz.zeroValue419
 t233:=Tryz.underlying420
 a233:=Tryz.isAgg420
 z233:=Tryz.sizeOf420
 v233:=Tryz.zeroValue420
 g17:=by kernel_rfl
 g18:=by kernel_rfl
 g19:=by kernel_rfl
 i0:=by kernel_rfl
 i2:=by kernel_rfl
 i3:=by kernel_rfl
 i4:=by kernel_rfl
 i5:=by kernel_rfl
 i9:=by kernel_rfl
 i20:=by kernel_rfl
 i37:=by kernel_rfl
 i46:=by kernel_rfl
 i51:=by kernel_rfl
 i53:=by kernel_rfl
 i171:=by kernel_rfl
 i173:=by kernel_rfl
 i212:=by kernel_rfl
 i232:=by kernel_rfl
 i233:=by kernel_rfl
 m17:=by kernel_rfl
 m18:=by kernel_rfl
 m19:=by kernel_rfl }
open Go.RowKit Go.Sort Go.Lib in
theorem Tryz.strconv_Itoa (n:Int)(h0:-9223372036854775808≤n)(h1:n≤9223372036854775807)(w:World)(htab:Lib.TabIs Tryz.prog w "internal/strconv.uint64pow10" .u64 Lib.pow10Tab) :
 Calls Tryz.prog 193 #[.int .i64 n] w fun e w'=>e=.returned (.string ⟨(Lib.itoa n).toArray⟩)∧∃k os,w'=grow (w.drewN k) os:=Any.strconv_Itoa Tryz.laysM171 n h0 h1 w htab
def Tryz.laysM316_ren:Go.Shelf.Ren:=⟨fun|316=>242|n=>n,fun|9=>9|3=>3|4=>4|37=>82|0=>0|127=>325|5=>5|n=>n,fun|n=>n⟩
theorem Tryz.laysM316:Go.Proofs.LaysM.n316 Tryz.prog Tryz.laysM316_ren:={
 mixed:=by kernel_rfl
 f316:=Tryz.func242.trans (congrArg some (by kernel_rfl))
 t0:=Tryz.underlying0
 a0:=Tryz.isAgg0
 z0:=Tryz.sizeOf0
 v0:=Tryz.zeroValue0
 t3:=Tryz.underlying3
 a3:=Tryz.isAgg3
 z3:=Tryz.sizeOf3
 v3:=Tryz.zeroValue3
 t4:=Tryz.underlying4
 a4:=Tryz.isAgg4
 z4:=Tryz.sizeOf4
 v4:=Tryz.zeroValue4
 t9:=Tryz.underlying9
 a9:=Tryz.isAgg9
 z9:=Tryz.sizeOf9
 v9:=Tryz.zeroValue9
 t37:=Tryz.underlying82
 a37:=Tryz.isAgg82
 z37:=Tryz.sizeOf82
 v37:=Tryz.zeroValue82
 t127:=Tryz.underlying325
 a127:=Tryz.isAgg325
 z127:=Tryz.sizeOf325
 v127:=Tryz.zeroValue325
 t5:=Tryz.underlying5
 a5:=Tryz.isAgg5
 z5:=Tryz.sizeOf5
 v5:=Tryz.zeroValue5
 i0:=by kernel_rfl
 i3:=by kernel_rfl
 i4:=by kernel_rfl
 i5:=by kernel_rfl
 i9:=by kernel_rfl
 i37:=by kernel_rfl
 i127:=by kernel_rfl }
open Go.RowKit in
theorem Tryz.stringslite_Clone (s:ByteArray)(w:World)(hlim:s.size≤281474976710656) :
 Calls Tryz.prog 242 #[.string s] w fun e w'=>e=.returned (.string s)∧Below w.heap.size w w':=Any.stringslite_Clone Tryz.laysM316 s w hlim
def Tryz.lays145_ren:Go.Shelf.Ren:=⟨fun|145=>266|220=>307|219=>327|217=>346|225=>347|224=>348|267=>349|266=>360|314=>361|n=>n,fun|9=>9|4=>4|59=>326|3=>3|5=>5|46=>256|146=>414|51=>23|n=>n,fun|1=>14|n=>n⟩
theorem Tryz.lays145:Go.Proofs.Lays.n145 Tryz.prog Tryz.lays145_ren:={
 mixed:=by kernel_rfl
 f145:=Tryz.func266.trans (congrArg some (by kernel_rfl))
 f217:=Tryz.func346.trans (congrArg some (by kernel_rfl))
 f219:=Tryz.func327.trans (congrArg some (by kernel_rfl))
 f220:=Tryz.func307.trans (congrArg some (by kernel_rfl))
 f224:=Tryz.func348.trans (congrArg some (by kernel_rfl))
 f225:=Tryz.func347.trans (congrArg some (by kernel_rfl))
 f266:=Tryz.func360.trans (congrArg some (by kernel_rfl))
 f267:=Tryz.func349.trans (congrArg some (by kernel_rfl))
 f314:=Tryz.func361.trans (congrArg some (by kernel_rfl))
 t3:=Tryz.underlying3
 a3:=Tryz.isAgg3
 z3:=Tryz.sizeOf3
 v3:=Tryz.zeroValue3
 t4:=Tryz.underlying4
 a4:=Tryz.isAgg4
 z4:=Tryz.sizeOf4
 v4:=Tryz.zeroValue4
 t5:=Tryz.underlying5
 a5:=Tryz.isAgg5
 z5:=Tryz.sizeOf5
 v5:=Tryz.zeroValue5
 t9:=Tryz.underlying9
 a9:=Tryz.isAgg9
 z9:=Tryz.sizeOf9
 v9:=Tryz.zeroValue9
 t46:=Tryz.underlying256
 a46:=Tryz.isAgg256
 z46:=Tryz.sizeOf256
 v46:=Tryz.zeroValue256
 t51:=Tryz.underlying23
 a51:=Tryz.isAgg23
 z51:=Tryz.sizeOf23
 v51:=Tryz.zeroValue23
 t59:=Tryz.underlying326
 a59:=Tryz.isAgg326
 z59:=Tryz.sizeOf326
 v59:=Tryz.zeroValue326
 t146:=Tryz.underlying414
 a146:=Tryz.isAgg414
 z146:=Tryz.sizeOf414
 v146:=Tryz.zeroValue414
 g1:=by kernel_rfl }
open Go.RowKit Go.Lib in
theorem Tryz.strings_Cut (s sep:ByteArray)(m:Int)(w:World)(hs:s.size<4294967281)(hm:w.cell? ⟨14,0,none⟩=some (.int .i64 m)) :
 Calls Tryz.prog 266 #[.string s,.string sep] w fun e w'=>e=.returned (.tuple #[.string ⟨(Lib.cut s.data.toList sep.data.toList).1.toArray⟩,.string ⟨(Lib.cut s.data.toList sep.data.toList).2.1.toArray⟩,.bool (Lib.cut s.data.toList sep.data.toList).2.2])∧∃n,w'=w.drewN n:=Any.strings_Cut Tryz.lays145 s sep m w hs hm
def Tryz.laysGg6_ren:Go.Shelf.Ren:=⟨fun|6=>108|10=>185|11=>186|12=>187|13=>188|14=>189|24=>252|25=>253|26=>254|27=>255|28=>256|29=>257|30=>258|31=>259|32=>260|33=>261|34=>300|35=>301|36=>302|37=>303|38=>304|39=>322|n=>n,fun|20=>20|26=>167|35=>251|0=>0|37=>253|3=>3|41=>256|44=>259|49=>23|51=>317|4=>4|54=>320|53=>319|58=>230|5=>5|9=>9|60=>368|64=>372|66=>387|67=>122|17=>17|32=>248|33=>249|82=>437|12=>12|75=>432|76=>303|77=>433|78=>325|79=>434|80=>435|n=>n,fun|n=>n⟩
theorem Tryz.laysGg6:Go.Proofs.LaysGg.n6 Tryz.prog Tryz.laysGg6_ren:={
 mixed:=by kernel_rfl
 f6:=Tryz.func108.trans (congrArg some (by kernel_rfl))
 f10:=Tryz.func185.trans (congrArg some (by kernel_rfl))
 f11:=Tryz.func186.trans (congrArg some (by kernel_rfl))
 f12:=Tryz.func187.trans (congrArg some (by kernel_rfl))
 f13:=Tryz.func188.trans (congrArg some (by kernel_rfl))
 f14:=Tryz.func189.trans (congrArg some (by kernel_rfl))
 f24:=Tryz.func252.trans (congrArg some (by kernel_rfl))
 f25:=Tryz.func253.trans (congrArg some (by kernel_rfl))
 f26:=Tryz.func254.trans (congrArg some (by kernel_rfl))
 f27:=Tryz.func255.trans (congrArg some (by kernel_rfl))
 f28:=Tryz.func256.trans (congrArg some (by kernel_rfl))
 f29:=Tryz.func257.trans (congrArg some (by kernel_rfl))
 f30:=Tryz.func258.trans (congrArg some (by kernel_rfl))
 f31:=Tryz.func259.trans (congrArg some (by kernel_rfl))
 f32:=Tryz.func260.trans (congrArg some (by kernel_rfl))
 f33:=Tryz.func261.trans (congrArg some (by kernel_rfl))
 f34:=Tryz.func300.trans (congrArg some (by kernel_rfl))
 f35:=Tryz.func301.trans (congrArg some (by kernel_rfl))
 f36:=Tryz.func302.trans (congrArg some (by kernel_rfl))
 f37:=Tryz.func303.trans (congrArg some (by kernel_rfl))
 f38:=Tryz.func304.trans (congrArg some (by kernel_rfl))
 f39:=Tryz.func322.trans (congrArg some (by kernel_rfl))
 t0:=Tryz.underlying0
 a0:=Tryz.isAgg0
 z0:=Tryz.sizeOf0
 v0:=Tryz.zeroValue0
 i0:=by kernel_rfl
 t3:=Tryz.underlying3
 a3:=Tryz.isAgg3
 z3:=Tryz.sizeOf3
 v3:=Tryz.zeroValue3
 i3:=by kernel_rfl
 t4:=Tryz.underlying4
 a4:=Tryz.isAgg4
 z4:=Tryz.sizeOf4
 v4:=Tryz.zeroValue4
 i4:=by kernel_rfl
 t5:=Tryz.underlying5
 a5:=Tryz.isAgg5
 z5:=Tryz.sizeOf5
 v5:=Tryz.zeroValue5
 i5:=by kernel_rfl
 t9:=Tryz.underlying9
 a9:=Tryz.isAgg9
 z9:=Tryz.sizeOf9
 v9:=Tryz.zeroValue9
 i9:=by kernel_rfl
 t12:=Tryz.underlying12
 a12:=Tryz.isAgg12
 z12:=Tryz.sizeOf12
 v12:=Tryz.zeroValue12
 i12:=by kernel_rfl
 t17:=Tryz.underlying17
 a17:=Tryz.isAgg17
 z17:=Tryz.sizeOf17
 v17:=Tryz.zeroValue17
 i17:=by kernel_rfl
 t20:=Tryz.underlying20
 a20:=Tryz.isAgg20
 z20:=Tryz.sizeOf20
 v20:=Tryz.zeroValue20
 i20:=by kernel_rfl
 t26:=Tryz.underlying167
 a26:=Tryz.isAgg167
 z26:=Tryz.sizeOf167
 v26:=Tryz.zeroValue167
 i26:=by kernel_rfl
 t32:=Tryz.underlying248
 a32:=Tryz.isAgg248
 z32:=Tryz.sizeOf248
 v32:=Tryz.zeroValue248
 i32:=by kernel_rfl
 t33:=Tryz.underlying249
 a33:=Tryz.isAgg249
 z33:=Tryz.sizeOf249
 v33:=Tryz.zeroValue249
 i33:=by kernel_rfl
 t35:=Tryz.underlying251
 a35:=Tryz.isAgg251
 z35:=Tryz.sizeOf251
 v35:=Tryz.zeroValue251
 i35:=by kernel_rfl
 t37:=Tryz.underlying253
 a37:=Tryz.isAgg253
 z37:=Tryz.sizeOf253
 v37:=Tryz.zeroValue253
 i37:=by kernel_rfl
 t41:=Tryz.underlying256
 a41:=Tryz.isAgg256
 z41:=Tryz.sizeOf256
 v41:=Tryz.zeroValue256
 i41:=by kernel_rfl
 t44:=Tryz.underlying259
 a44:=Tryz.isAgg259
 z44:=Tryz.sizeOf259
 v44:=Tryz.zeroValue259
 i44:=by kernel_rfl
 t49:=Tryz.underlying23
 a49:=Tryz.isAgg23
 z49:=Tryz.sizeOf23
 v49:=Tryz.zeroValue23
 i49:=by kernel_rfl
 t51:=Tryz.underlying317
 a51:=Tryz.isAgg317
 z51:=Tryz.sizeOf317
 v51:=Tryz.zeroValue317
 i51:=by kernel_rfl
 t53:=Tryz.underlying319
 a53:=Tryz.isAgg319
 z53:=Tryz.sizeOf319
 v53:=Tryz.zeroValue319
 i53:=by kernel_rfl
 t54:=Tryz.underlying320
 a54:=Tryz.isAgg320
 z54:=Tryz.sizeOf320
 v54:=Tryz.zeroValue320
 i54:=by kernel_rfl
 t58:=Tryz.underlying230
 a58:=Tryz.isAgg230
 z58:=Tryz.sizeOf230
 v58:=Tryz.zeroValue230
 i58:=by kernel_rfl
 t60:=Tryz.underlying368
 a60:=Tryz.isAgg368
 z60:=Tryz.sizeOf368
 v60:=Tryz.zeroValue368
 i60:=by kernel_rfl
 t64:=Tryz.underlying372
 a64:=Tryz.isAgg372
 z64:=Tryz.sizeOf372
 v64:=Tryz.zeroValue372
 i64:=by kernel_rfl
 t66:=Tryz.underlying387
 a66:=Tryz.isAgg387
 z66:=Tryz.sizeOf387
 v66:=Tryz.zeroValue387
 i66:=by kernel_rfl
 t67:=Tryz.underlying122
 a67:=Tryz.isAgg122
 z67:=Tryz.sizeOf122
 v67:=Tryz.zeroValue122
 i67:=by kernel_rfl
 t75:=Tryz.underlying432
 a75:=Tryz.isAgg432
 z75:=Tryz.sizeOf432
 v75:=Tryz.zeroValue432
 i75:=by kernel_rfl
 t76:=Tryz.underlying303
 a76:=Tryz.isAgg303
 z76:=Tryz.sizeOf303
 v76:=Tryz.zeroValue303
 i76:=by kernel_rfl
 t77:=Tryz.underlying433
 a77:=Tryz.isAgg433
 z77:=Tryz.sizeOf433
 v77:=Tryz.zeroValue433
 i77:=by kernel_rfl
 t78:=Tryz.underlying325
 a78:=Tryz.isAgg325
 z78:=Tryz.sizeOf325
 v78:=Tryz.zeroValue325
 i78:=by kernel_rfl
 t79:=Tryz.underlying434
 a79:=Tryz.isAgg434
 z79:=Tryz.sizeOf434
 v79:=Tryz.zeroValue434
 i79:=by kernel_rfl
 t80:=Tryz.underlying435
 a80:=Tryz.isAgg435
 z80:=Tryz.sizeOf435
 v80:=Tryz.zeroValue435
 i80:=by kernel_rfl
 t82:=Tryz.underlying437
 a82:=Tryz.isAgg437
 z82:=Tryz.sizeOf437
 v82:=Tryz.zeroValue437
 i82:=by kernel_rfl }
def Tryz.lays146_ren:Go.Shelf.Ren:=⟨fun|146=>310|221=>330|268=>351|138=>352|143=>353|195=>363|197=>364|218=>365|219=>327|260=>368|217=>346|225=>347|224=>348|267=>349|266=>360|314=>361|n=>n,fun|9=>9|31=>73|3=>3|4=>4|0=>0|105=>416|21=>21|5=>5|46=>256|119=>421|139=>424|138=>423|146=>414|51=>23|n=>n,fun|1=>14|3=>17|4=>18|n=>n⟩
theorem Tryz.lays146:Go.Proofs.Lays.n146 Tryz.prog Tryz.lays146_ren:={
 mixed:=by kernel_rfl
 f138:=Tryz.func352.trans (congrArg some (by kernel_rfl))
 f143:=Tryz.func353.trans (congrArg some (by kernel_rfl))
 f146:=Tryz.func310.trans (congrArg some (by kernel_rfl))
 f195:=Tryz.func363.trans (congrArg some (by kernel_rfl))
 f197:=Tryz.func364.trans (congrArg some (by kernel_rfl))
 f217:=Tryz.func346.trans (congrArg some (by kernel_rfl))
 f218:=Tryz.func365.trans (congrArg some (by kernel_rfl))
 f219:=Tryz.func327.trans (congrArg some (by kernel_rfl))
 f221:=Tryz.func330.trans (congrArg some (by kernel_rfl))
 f224:=Tryz.func348.trans (congrArg some (by kernel_rfl))
 f225:=Tryz.func347.trans (congrArg some (by kernel_rfl))
 f260:=Tryz.func368.trans (congrArg some (by kernel_rfl))
 f266:=Tryz.func360.trans (congrArg some (by kernel_rfl))
 f267:=Tryz.func349.trans (congrArg some (by kernel_rfl))
 f268:=Tryz.func351.trans (congrArg some (by kernel_rfl))
 f314:=Tryz.func361.trans (congrArg some (by kernel_rfl))
 t0:=Tryz.underlying0
 a0:=Tryz.isAgg0
 z0:=Tryz.sizeOf0
 v0:=Tryz.zeroValue0
 t3:=Tryz.underlying3
 a3:=Tryz.isAgg3
 z3:=Tryz.sizeOf3
 v3:=Tryz.zeroValue3
 t4:=Tryz.underlying4
 a4:=Tryz.isAgg4
 z4:=Tryz.sizeOf4
 v4:=Tryz.zeroValue4
 t5:=Tryz.underlying5
 a5:=Tryz.isAgg5
 z5:=Tryz.sizeOf5
 v5:=Tryz.zeroValue5
 t9:=Tryz.underlying9
 a9:=Tryz.isAgg9
 z9:=Tryz.sizeOf9
 v9:=Tryz.zeroValue9
 t21:=Tryz.underlying21
 a21:=Tryz.isAgg21
 z21:=Tryz.sizeOf21
 v21:=Tryz.zeroValue21
 t31:=Tryz.underlying73
 a31:=Tryz.isAgg73
 z31:=Tryz.sizeOf73
 v31:=Tryz.zeroValue73
 t46:=Tryz.underlying256
 a46:=Tryz.isAgg256
 z46:=Tryz.sizeOf256
 v46:=Tryz.zeroValue256
 t51:=Tryz.underlying23
 a51:=Tryz.isAgg23
 z51:=Tryz.sizeOf23
 v51:=Tryz.zeroValue23
 t105:=Tryz.underlying416
 a105:=Tryz.isAgg416
 z105:=Tryz.sizeOf416
 v105:=Tryz.zeroValue416
 t119:=Tryz.underlying421
 a119:=Tryz.isAgg421
 z119:=Tryz.sizeOf421
 t138:=Tryz.underlying423
 a138:=Tryz.isAgg423
 z138:=Tryz.sizeOf423
 v138:=Tryz.zeroValue423
 t139:=Tryz.underlying424
 a139:=Tryz.isAgg424
 z139:=Tryz.sizeOf424
 v139:=Tryz.zeroValue424
 t146:=Tryz.underlying414
 a146:=Tryz.isAgg414
 z146:=Tryz.sizeOf414
 v146:=Tryz.zeroValue414
 g1:=by kernel_rfl
 g3:=by kernel_rfl
 g4:=by kernel_rfl }
open Go.RowKit Go.Lib in
theorem Tryz.strings_Split (s sep:ByteArray)(m:Int)(w:World)(hs:s.size<4294967281)(hm:w.cell? ⟨14,0,none⟩=some (.int .i64 m))(h1:1≤sep.size) :
 Calls Tryz.prog 310 #[.string s,.string sep] w fun e w'=>
  e=.returned (.slice (some ⟨w.heap.size,0,none⟩) (Lib.countB s sep+1) (Lib.countB s sep+1))∧w'=w.alloc (.cells ((Lib.splitB sep 0 (Lib.countB s sep) s).map Value.string).toArray 9):=Any.strings_Split Tryz.lays146 (by kernel_rfl) s sep m w hs hm h1
end Go.Proofs
namespace Go.Proofs.YtjngnnbondejaabGreatDoor
open Go.RowKit
theorem Qvn {B:Nat}{W w1:World}(hb:Below B W w1):(∀b o,b<B→w1.cell? ⟨b,o,none⟩=W.cell? ⟨b,o,none⟩)∧(∀b o,b<B→w1.frozen? ⟨b,o,none⟩=W.frozen? ⟨b,o,none⟩):=
 ⟨fun b o h=>hb.cell (p:=⟨b,o,none⟩) h,fun b o h=>hb.frozen (p:=⟨b,o,none⟩) h⟩
theorem Qng (n l:Nat):(⟨(hexLast n 8).toArray⟩:ByteArray)++⟨#[45]⟩++⟨(Lib.decDigits l).toArray⟩=⟨(idText n l).toArray⟩:=by
 have h:(⟨#[45]⟩:ByteArray)=⟨[45].toArray⟩:=rfl;rw[h,Qf7,Qf7];simp[idText]
theorem below_grow (w:World)(k:Nat)(os:Array Obj):Below w.heap.size w (Go.Sort.grow (w.drewN k) os):=
 ⟨rfl,rfl,rfl,by simp[Go.Sort.grow,World.drewN],fun j hj=>by show((w.drewN k).heap++os)[j]? = _;have e:(w.drewN k).heap=w.heap:=rfl;rw[e,Array.getElem?_append_left hj]⟩
abbrev Y9 (w:World):Prop:=Lib.TabIs Tryz.prog w "internal/strconv.uint64pow10" .u64 Lib.pow10Tab
theorem Qtm:Tryz.prog.globalNamed "internal/strconv.uint64pow10"=some 13:=by kernel_rfl
theorem Y9.below {B:Nat}{w w':World}(h:Y9 w)(hb:Below B w w')(hB:w.heap.size≤B):Y9 w':=Joins.tab_stays Qtm h hb hB
theorem Qam (l:Nat)(hl:l≤9223372036854775807)(w:World)(ht:Y9 w) :
 Calls Tryz.prog 193 #[.int .i64 l] w fun e w'=>e=.returned (.string ⟨(Lib.decDigits l).toArray⟩)∧Below w.heap.size w w':=by refine(Tryz.strconv_Itoa l (by omega) (by omega) w ht).mono ?_;rintro e w' ⟨rfl,k,os,rfl⟩;exact⟨by rw[Lib.itoa_nonneg],below_grow w k os⟩
theorem Qk4 (n l:Nat)(hn:n<4294967296)(hl:l≤9223372036854775807)(w:World)(ht:Y9 w) :
 Calls Tryz.prog 262 #[idV n l] w fun e w'=>e=.returned (.string ⟨(idText n l).toArray⟩)∧Below w.heap.size w w':=by
 have h0:¬(l:Int)<0:=by omega
 have hlx:=Qm n 8;have hld:=Vt l hl;have HP:Hid (∀w' B,Below B w w'→w.heap.size≤B→Y9 w'):=fun w' B hb hB=>ht.below hb hB;clear ht;go_enter Tryz.func262,Tryz.ntmps262;go_wp2_with fail
 go_region_with (first|(go_at_call 195;refine(hexText_any n hn _).mono ?_;rintro e w1 ⟨rfl,hb1⟩;obtain⟨hc1,hf1⟩:=Qvn hb1)|(go_at_call 193;refine(Qam l hl _ ?_).mono ?_;exact HP.out _ _ (((Below.refl _ _).alloc wz _).trans ((Below.drew (Below.refl _ _)).trans (hb1.mono (by simp)))) wz;rintro e w2 ⟨rfl,hb2⟩;obtain⟨hc2,hf2⟩:=Qvn hb2))
 all_goals go_wp2
 all_goals go_ret
 all_goals refine⟨?_,?_⟩
 all_goals first
  | (rw[←Qng];rfl)
  | exact(((Below.refl _ _).alloc wz _).trans ((Below.drew (Below.refl _ _)).trans (hb1.mono (by simp)))).trans (hb2.mono (by have:=hb1.size;simp at this;omega))
def idsText (ids:List (Nat×Int)):List UInt8:=(ids.map fun x=>32::idText x.1 x.2.toNat).flatten
def Zy (nm:List UInt8)(len:Int)(p:Nat)(ids:List (Nat×Int)):List UInt8:=nm++[32]++Lib.decDigits len.toNat++[32]++hexLast p 8++idsText ids
theorem bytes_append (a b:ByteArray):(a++b).data.toList=a.data.toList++b.data.toList:=by
 rw[ByteArray.data_append,Array.toList_append]
theorem Qvw (a b:ByteArray)(h:a.size+b.size≤100000):∃c:ByteArray,(∀w:World,(Op.stringOp .add a b).run Tryz.prog w=.ok (.string c) w)∧c.data.toList=a.data.toList++b.data.toList∧c.size=a.size+b.size:=
 ⟨a++b,fun w=>run_string_add_sum w a b (by omega),bytes_append a b,ByteArray.size_append⟩
theorem Ql6 {a:ByteArray}{l:List UInt8}(h:a.data.toList=l):a=⟨l.toArray⟩:=by
 apply ByteArray.ext;apply Array.toList_inj.1;rw[h]
theorem Qnl (n l:Nat)(h:l≤9223372036854775807):(idText n l).length≤28:=by
 have:=Vt l h;simp[idText,Qm];omega
def zs8:List UInt8:=List.replicate 8 0
def win (l:List UInt8)(n:Nat):List UInt8:=(zs8++l.take n).drop n
def V7 (xs:List UInt8):Nat:=(xs.map UInt8.toNat).sum
def Zp (l:List UInt8)(n:Nat):Bool:=n==64||(decide (16≤n)&&V7 (win l n) % 16==15)
def scan (l:List UInt8):Nat→Nat→Nat
 | n,0=>n
 | n,k+1=>if Zp l (n+1)=true then n+1 else scan l (n+1) k
def first (l:List UInt8):Nat:=scan l 0 l.length
def Qa8:Nat→List UInt8→List (List UInt8)
 | 0,_=>[]
 | k+1,l=>match l with
  | []=>[]
  | _::_=>l.take (first l)::Qa8 k (l.drop (first l))
def pieces (l:List UInt8):List (List UInt8):=Qa8 l.length l
def Qmm (n:Nat):List (List UInt8)→List Nat
 | []=>[]
 | p::r=>(n+p.length)::Qmm (n+p.length) r
def cuts (l:List UInt8):List Nat:=Qmm 0 (pieces l)
theorem win_length (l:List UInt8)(n:Nat)(h:n≤l.length):(win l n).length=8:=by
 simp[win,zs8,Nat.min_eq_left h];omega
theorem win_zero (l:List UInt8):win l 0=zs8:=by simp[win,zs8]
theorem Qsh (l:List UInt8)(n:Nat)(h:n<l.length):win l (n+1)=(win l n).drop 1++[l[n]]:=by
 have e:l.take (n+1)=l.take n++[l[n]]:=by rw[List.take_succ_eq_append_getElem h]
 unfold win;rw[e,←List.append_assoc,List.drop_append_of_le_length (by simp[zs8];omega),List.drop_drop]
theorem Qr1 (l:List UInt8)(n:Nat)(h8:8≤n):win l n=(l.drop (n - 8)).take 8:=by
 have e:=List.drop_append (l₁:=zs8) (l₂:=l.take n) (i:=n);unfold win;rw[e,List.drop_eq_nil_of_le (by simp[zs8];omega),List.nil_append,List.drop_take];simp[zs8];congr 1;omega
structure Yv (l:List UInt8)(n:Nat):Prop where
 pos:0<n
 le:n≤l.length
 no:∀j,0<j→j<n→Zp l j=false
 yes:Zp l n=true∨n=l.length
theorem Qol (l:List UInt8):∀(k n:Nat),n+k=l.length→0<l.length→(∀j,0<j→j≤n→Zp l j=false)→(k=0→False)→Yv l (scan l n k)
 | 0,n,_,_,_,h0=>(h0 rfl).elim
 | k+1,n,hk,hl,hno,_=>by
  rw[scan];by_cases h:Zp l (n+1)=true
  ·rw[if_pos h];exact⟨by omega,by omega,fun j h1 h2=>hno j h1 (by omega),.inl h⟩
  ·rw[if_neg h];have h':Zp l (n+1)=false:=(by simpa using h);have hno':∀j,0<j→j≤n+1→Zp l j=false:=fun j h1 h2=>by
    by_cases e:j=n+1
    ·rw[e];exact h'
    ·exact hno j h1 (by omega)
   cases k with
   | zero=>exact⟨by simp[scan],by simp[scan];omega,fun j h1 h2=>hno' j h1 (by simp[scan]at h2;omega),.inr (by simp[scan];omega)⟩
   | succ k=>exact Qol l (k+1) (n+1) (by omega) hl hno' (by omega)
theorem first_is (l:List UInt8)(h:l≠[]):Yv l (first l):=by
 have hl:0<l.length:=List.length_pos_iff.2 h;exact Qol l l.length 0 (by omega) hl (fun j h1 h2=>by omega) (by omega)
theorem Yv.uniq {l:List UInt8}{n m:Nat}(h:Yv l n)(k:Yv l m):n=m:=by
 rcases Nat.lt_trichotomy n m with hlt|e|hlt
 ·exfalso;have:=k.no n h.pos hlt;rcases h.yes with y|y
  ·rw[y]at this;cases this
  ·have:=k.le;omega
 ·exact e
 ·exfalso;have:=h.no m k.pos hlt;rcases k.yes with y|y
  ·rw[y]at this;cases this
  ·have:=h.le;omega
theorem Yv.eq {l:List UInt8}{n:Nat}(h:Yv l n):first l=n:=by
 refine(first_is l ?_).uniq h;intro e;have:=h.le;have:=h.pos;rw[e]at *;simp at *;omega
theorem Qp1:first []=0:=rfl
theorem Qcq (l:List UInt8):first l≤l.length:=by
 by_cases h:l=[]
 ·subst h;exact wz
 ·exact(first_is l h).le
theorem Ke (l:List UInt8)(h:l≠[]):0<first l:=(first_is l h).pos
theorem Qct:∀(k m:Nat) (l:List UInt8),l.length≤k→l.length≤m→Qa8 k l=Qa8 m l
 | 0,m,l,hk,_=>by obtain rfl:l=[]:=List.eq_nil_of_length_eq_zero (by omega);cases m<;>rfl
 | k+1,0,l,_,hm=>by obtain rfl:l=[]:=List.eq_nil_of_length_eq_zero (by omega);rfl
 | k+1,m+1,[],_,_=>rfl
 | k+1,m+1,x::l,hk,hm=>by
  have hp:=Ke (x::l) (by simp);have hd:((x::l).drop (first (x::l))).length≤l.length:=by simp;omega
  simp only[Qa8];rw[Qct k m _ (by simp at hk;omega) (by simp at hm;omega)]
theorem pieces_nil:pieces []=[]:=rfl
theorem Ka (l:List UInt8)(h:l≠[]):pieces l=l.take (first l)::pieces (l.drop (first l)):=by
 cases l with
 | nil=>exact(h rfl).elim
 | cons x l=>
  have hp:=Ke (x::l) (by simp);show _::Qa8 l.length _=_;rw[Qct l.length ((x::l).drop (first (x::l))).length _ (by simp;omega) wz];rfl
theorem Uq {P:List UInt8→Prop}(h0:P [])(h1:∀l,l≠[]→P (l.drop (first l))→P l):∀(l:List UInt8),P l:=by
 have:∀(k:Nat) (l:List UInt8),l.length≤k→P l:=by
  intro k
  induction k with
  | zero=>intro l hl;obtain rfl:l=[]:=List.eq_nil_of_length_eq_zero (by omega);exact h0
  | succ k ih=>
   intro l hl;by_cases e:l=[]
   ·subst e;exact h0
   ·have hp:=Ke l e;exact h1 l e (ih _ (by simp;omega))
 exact fun l=>this l.length l wz
theorem Y4:∀(l:List UInt8),(pieces l).flatten=l:=by
 refine Uq (by rw[pieces_nil];rfl) ?_;intro l hl ih;rw[Ka l hl,List.flatten_cons,ih,List.take_append_drop]
theorem Qhx (l:List UInt8):pieces l=[]↔l=[]:=by
 constructor
 ·intro h;by_cases e:l=[]
  ·exact e
  ·rw[Ka l e]at h;cases h
 ·rintro rfl;rfl
theorem Qy:∀(l:List UInt8),(pieces l).length≤l.length:=by
 refine Uq (by rw[pieces_nil];exact wz) ?_;intro l hl ih;have hp:=Ke l hl;have:=Qcq l;rw[Ka l hl,List.length_cons];simp at ih;omega
theorem Qnf (l:List UInt8):first l≤64:=by
 by_cases e:l=[]
 ·subst e;decide
 ·have h:=first_is l e;by_cases h64:first l≤64
  ·exact h64
  ·have:=h.no 64 (by omega) (by omega);simp[Zp]at this
theorem Qe3 (l:List UInt8)(h:first l<l.length):16≤first l:=by
 have e:l≠[]:=by rintro rfl;simp at h
 rcases(first_is l e).yes with y|y
 ·unfold Zp at y;simp at y;omega
 ·omega
theorem qz {l:List UInt8}{n:Nat}(h:l.drop n≠[]):n<l.length:=by
 by_cases e:n<l.length
 ·exact e
 ·exact(h (List.drop_eq_nil_of_le (by omega))).elim
theorem Vr:∀(l:List UInt8) (i:Nat) (h:i<(pieces l).length),0<((pieces l)[i]).length∧((pieces l)[i]).length≤64∧(i+1<(pieces l).length→16≤((pieces l)[i]).length):=by
 refine Uq (by intro i h;rw[pieces_nil]at h;simp at h) ?_;intro l hl ih i h;have e:=Ka l hl;have hf:=Qcq l;cases i with
 | zero=>
  have e0:(pieces l)[0]=l.take (first l):=by simp[e]
  have e1:(pieces l).length=(pieces (l.drop (first l))).length+1:=by rw[e,List.length_cons]
  rw[e0,List.length_take,Nat.min_eq_left hf];refine⟨Ke l hl,Qnf l,fun h1=>Qe3 l (qz (fun e2 => ?_))⟩;rw[e1,e2,pieces_nil]at h1;simp at h1
 | succ i=>
  have h':i<(pieces (l.drop (first l))).length:=by rw[e,List.length_cons]at h;omega
  have e0:(pieces l)[i+1]=(pieces (l.drop (first l)))[i]:=by simp[e]
  have e1:(pieces l).length=(pieces (l.drop (first l))).length+1:=by rw[e,List.length_cons]
  rw[e0,e1];have:=ih i h';exact⟨this.1,this.2.1,fun h1=>this.2.2 (by omega)⟩
def upto (ps:List (List UInt8))(k:Nat):Nat:=(ps.take k).flatten.length
abbrev u8V (c:UInt8):Value:=.int .u8 c.toNat
def Yl (w:World)(b:Nat)(xs:List UInt8):Prop:=w.heap[b]? = some (.cells (xs.map u8V).toArray 366 (0,0))
theorem Yl.cell {w:World}{b:Nat}{xs:List UInt8}(h:Yl w b xs){i:Nat}(hi:i<xs.length):w.cell? ⟨b,i,none⟩=some (u8V xs[i]):=by
 simp[World.cell?,show w.heap[b]? = _ from h,hi]
theorem Yl.frozen {w:World}{b:Nat}{xs:List UInt8}(h:Yl w b xs)(i:Nat):w.frozen? ⟨b,i,none⟩=false:=by
 simp[World.frozen?,show w.heap[b]? = _ from h]
theorem Yl.set {w:World}{b:Nat}{xs:List UInt8}(h:Yl w b xs)(i:Nat)(c:UInt8):Yl (w.setCell ⟨b,i,none⟩ (u8V c)) b (xs.set i c):=by
 obtain⟨hlt,hk⟩:=Array.getElem?_eq_some_iff.1 h;show(w.heap.modify b _)[b]? = _;rw[Array.getElem?_eq_getElem (by rw[Array.size_modify];exact hlt),Array.getElem_modify_self,hk];simp[List.map_set]
theorem Qsa (l:List UInt8)(x c:UInt8)(h:l.length=7):(l++[x]).set 7 c=l++[c]:=by
 rw[List.set_append_right _ _ (by omega),h];rfl
theorem infoByte:(Tryz.prog.info? 5).map (·.size)=some 1:=by kernel_rfl
theorem Qrx (b:Nat)(c:UInt8)(xs:List UInt8)(hx:xs.length=8)(w:World)(hw:Yl w b xs) :
 Calls Tryz.prog 298 #[.pointer (some ⟨b,0,none⟩),u8V c] w fun e w'=>(∃v,e=.returned v)∧Yl w' b (xs.drop 1++[c])∧Below b w w':=by
 have H:Hid (w.drew.heap[b]? = some (.cells (xs.map u8V).toArray 366 (0,0))):=hw;have HX:Hid (xs.length=8):=hx;have HN:Hid (((xs.drop 1).map u8V).length=Nat.min 7 8):=by show _=_;simp;omega
 have HS:Hid (∀j v,((xs.drop 1).map u8V)[j]? = some v→w.drew.cell? ((⟨b,1,none⟩:Addr).add j)=some v):=by
  intro j v h;have hj:j+1<xs.length:=by have:=(List.getElem?_eq_some_iff.1 h).1;simp at this;omega
  have e1:=Yl.cell (w:=w.drew) hw hj;rw[List.getElem?_map,List.getElem?_drop,Nat.add_comm 1 j,List.getElem?_eq_getElem hj]at h;simp at h;subst h;have e2:(⟨b,1,none⟩:Addr).add j=⟨b,j+1,none⟩:=by unfold Addr.add;split<;>simp_all[Nat.add_comm]
  rw[e2];exact e1
 have H1:Hid (∀v∈(xs.drop 1).map u8V,v.oneCell'=true):=by intro v h;simp only[List.mem_map]at h;obtain⟨u,_,rfl⟩:=h;rfl
 have HF:Hid (0+((xs.drop 1).map u8V).length≤(xs.map u8V).length):=by show _≤_;simp
 clear hw hx;go_enter Tryz.func298,Tryz.ntmps298
 go_wp2
 go_region_law (refine step_copy_splice rfl (.tmp 6) (.tmp 9) 82 82 rfl 5 Tryz.underlying82 infoByte (some ⟨b,0,none⟩) (some ⟨b,1,none⟩) 8 8 7 7 (by simp[Act.eval,Act.put]) (by simp[Act.eval,Act.put]) b 0 (xs.map u8V) 366 H.out ((xs.drop 1).map u8V) HN.out (fun _=>⟨rfl,_,rfl,HS.out⟩) HF.out H1.out b w (Below.refl b w).drew wz ?_;intro w4 hg4 hb4)
 obtain⟨ys,hys,hw4,hset⟩:∃ys:List UInt8,ys.length=8∧Yl w4 b ys∧ys.set 7 c=xs.drop 1++[c]:=by have hx:=HX.out;refine⟨xs.drop 1++[xs[7]'(by omega)],by simp;omega,?_,Qsa _ _ _ (by simp;omega)⟩;have:=hg4.out;show w4.heap[b]? = _;rw[this];congr 3;rw[splice];simp[hx];rw[List.drop_eq_getElem_cons (by simp;omega)];simp[hx]
 obtain⟨U,hc4⟩:∃U,w4.cell? ⟨b,7,none⟩=some (.int .u8 U):=⟨_,hw4.cell (i:=7) (by omega)⟩;have hf4:=hw4.frozen 7;have HW:Hid (Yl w4 b ys):=hw4;have HT:Hid (ys.set 7 c=xs.drop 1++[c]):=hset;clear hw4 hg4 hset
 go_wp2
 go_end0
 refine⟨⟨_,rfl⟩,?_,hb4.setCell (p:=⟨b,7,none⟩) wz _⟩;have:=HW.out.set 7 c;rwa [HT.out]at this
theorem Qij (xs:List UInt8)(j:Nat)(h:j<xs.length):V7 (xs.take (j+1))=V7 (xs.take j)+xs[j].toNat:=by
 rw[List.take_succ_eq_append_getElem h,V7,List.map_append,List.sum_append];simp[V7]
theorem Qlk (b:Nat)(xs:List UInt8)(hx:xs.length=8)(w:World)(hw:Yl w b xs) :
 Calls Tryz.prog 299 #[.pointer (some ⟨b,0,none⟩)] w fun e w'=>e=.returned (.bool (V7 xs % 16==15))∧w'=w:=by
 have HW:Hid (Yl w b xs):=hw;clear hw;go_enter Tryz.func299,Tryz.ntmps299
 go_wp2
 go_loopw [3,7] (fun v i wr=>∃(j:Nat),j≤8∧i=.int .i64 j∧v=.int .u8 ((V7 (xs.take j) % 256:Nat):Int)∧wr=w) (fun _ i _=>8 - (intOf i).toNat)
 case atStart=>exact⟨0,Nat.zero_le _,rfl,rfl,rfl⟩
 case round=>
  obtain⟨j,hj,rfl,rfl,rfl⟩:=hrel;by_cases hlt:j<8
  ·have hc:=HW.out.cell (i:=j) (by omega)
   go_wp2
   go_roundw
   case rel=>exact⟨j+1,by omega,by go_num,by rw[Qij xs j (by omega)];congr 1;omega,trivial⟩
   case measure=>simp[intOf];omega
  ·go_wp2
   go_ret;obtain rfl:j=8:=(by omega);rw[List.take_of_length_le (by omega)];refine⟨?_,rfl⟩;show Ending.returned (.bool _)=_;congr 2;rw[Bool.eq_iff_iff];simp;omega
theorem Yl.new (w:World):Yl (w.alloc (.cells #[.int .u8 0,.int .u8 0,.int .u8 0,.int .u8 0,.int .u8 0,.int .u8 0,.int .u8 0,.int .u8 0] 366)) w.heap.size zs8:=World.alloc_heap_new w _
theorem Qid (l:List UInt8):Zp l 64=true:=rfl
theorem Qe5 (l:List UInt8)(n:Nat)(h:n<16):Zp l n=false:=by simp[Zp];omega
theorem Qcb (l:List UInt8)(n:Nat)(h:16≤n)(h':n≠64):Zp l n=(V7 (win l n) % 16==15):=by simp[Zp,h,h']
theorem Qh4 {l:List UInt8}{k:Nat}(h:∀j,0<j→j≤k→Zp l j=false)(h':Zp l (k+1)=false):∀j,0<j→j≤k+1→Zp l j=false:=fun j h1 h2=>by
 by_cases e:j=k+1
 ·rw[e];exact h'
 ·exact h j h1 (by omega)
theorem Qpx (s:ByteArray)(w:World)(hs:s.size≤50000) :
 Calls Tryz.prog 241 #[.string s] w fun e w'=>e=.returned (.int .i64 (first s.data.toList:Nat))∧Below w.heap.size w w':=by
 have hsl:s.data.toList.length=s.size:=by rw[Array.length_toList];rfl
 have HSL:Hid (s.data.toList.length=s.size):=hsl;clear hsl;go_enter Tryz.func241,Tryz.ntmps241
 go_wp2
 have hb0:Below w.heap.size w (w.alloc (.cells #[.int .u8 0,.int .u8 0,.int .u8 0,.int .u8 0,.int .u8 0,.int .u8 0,.int .u8 0,.int .u8 0] 366)):=(Below.refl _ w).alloc wz _;have hw0:=Yl.new w
 go_loopw [8] (fun i wr=>∃(k:Nat),k≤s.size∧i=.int .i64 k∧(∀j,0<j→j≤k→Zp s.data.toList j=false)∧Yl wr w.heap.size (win s.data.toList k)∧Below w.heap.size w wr) (fun i _=>s.size - (intOf i).toNat)
 case atStart=>exact⟨0,Nat.zero_le _,rfl,fun j h1 h2=>by omega,by rw[win_zero];exact hw0,hb0⟩
 case round=>
  obtain⟨k,hk,rfl,hno,hwin,hbw⟩:=hrel;have HN:Hid (∀j,0<j→j≤k→Zp s.data.toList j=false):=hno;have HW:Hid (Yl wr w.heap.size (win s.data.toList k)):=hwin;clear hno hwin hb0 hw0;by_cases hlt:k<s.size
  ·have HT:Hid (win s.data.toList (k+1)=(win s.data.toList k).drop 1++[s[k]]):=Qsh _ _ (by rw[HSL.out];exact hlt);have HK:Hid ((win s.data.toList k).length=8):=win_length _ _ (by rw[HSL.out];omega);have HK1:Hid ((win s.data.toList (k+1)).length=8):=win_length _ _ (by rw[HSL.out];omega);go_wp2_with fail;refine(Qrx _ s[k] _ HK.out _ HW.out).mono ?_;rintro e w1 ⟨⟨v,rfl⟩,hw1,hb1⟩;rw[←HT.out]at hw1;have hbw1:=hbw.trans hb1;have HW1:Hid (Yl w1 w.heap.size (win s.data.toList (k+1))):=hw1;clear hw1 HW hbw hb1;by_cases h64:k=63
   ·subst h64;go_wp2_with fail;go_ret;have hsl:=HSL.out;exact⟨by rw[Yv.eq (n:=64) ⟨by omega,by omega,fun j h1 h2=>HN.out j h1 (by omega),.inl (Qid _)⟩];rfl,hbw1⟩
   ·by_cases h16:k<15
    ·go_wp2_with fail;go_roundw
     case rel=>exact⟨k+1,by omega,by go_num,Qh4 HN.out (Qe5 _ _ (by omega)),HW1.out,hbw1⟩
     case measure=>simp[intOf];omega
    ·by_cases he:(V7 (win s.data.toList (k+1)) % 16==15)=true
     ·go_wp2_with fail;refine(Qlk _ _ HK1.out _ HW1.out).mono ?_;rintro e w2 ⟨rfl,rfl⟩;go_wp2_with fail;go_ret;have hsl:=HSL.out;exact⟨by rw[Yv.eq (n:=k+1) ⟨by omega,by omega,fun j h1 h2=>HN.out j h1 (by omega),.inl ((Qcb _ _ (by omega) (by omega)).trans he)⟩];go_num,hbw1⟩
     ·have he':(V7 (win s.data.toList (k+1)) % 16==15)=false:=(by simpa using he);go_wp2_with fail;refine(Qlk _ _ HK1.out _ HW1.out).mono ?_;rintro e w2 ⟨rfl,rfl⟩;go_wp2_with fail;go_roundw
      case rel=>exact⟨k+1,by omega,by go_num,Qh4 HN.out ((Qcb _ _ (by omega) (by omega)).trans he'),HW1.out,hbw1⟩
      case measure=>simp[intOf];omega
  ·go_wp2_with fail;go_ret;have hsl:=HSL.out;refine⟨?_,hbw⟩;obtain rfl:k=s.size:=(by omega);by_cases h0:s.size=0
   ·rw[h0,show s.data.toList=[] from List.eq_nil_of_length_eq_zero (by omega),Qp1];rfl
   ·rw[Yv.eq (n:=s.size) ⟨by omega,by omega,fun j h1 h2=>HN.out j h1 (by omega),.inr hsl.symm⟩];rfl
open Go.RowKit Go.Shelf
attribute [local go_sem] Oper.semAt_some
abbrev Vz (p:List UInt8):Value:=.string ⟨p.toArray⟩
theorem X5 (s:ByteArray)(a b:Nat):s.extract a b=⟨((s.data.toList.drop a).take (b - a)).toArray⟩:=by
 apply ByteArray.ext;apply Array.toList_inj.1;rw[Lib.extract_data]
theorem Qk9 (s:ByteArray)(k:Nat):(s.extract k s.size).data.toList=s.data.toList.drop k:=by
 rw[X5];show(s.data.toList.drop k).take (s.size - k)=_;rw[List.take_of_length_le (by rw[List.length_drop,Array.length_toList];exact wz)]
def Qsi:Value→Nat
 | .string b=>b.size
 | _=>0
theorem Qva (n:Nat)(s:ByteArray)(w:World) :
 CallsIn Fence.wide n Tryz.prog 178 #[.string s] w fun e w'=>e=.returned (.func (.func 240) #[] #[.pointer (some ⟨w.heap.size,0,none⟩)])∧w'=w.alloc (.cells #[.string s] 9):=by
 refine callsIn_of_wp Tryz.func178 rfl trivial ?_ rfl;simp only[Tryz.ntmps178,List.size_toArray,List.length_cons,List.length_nil,Nat.reduceAdd,Nat.reduceSub,Array.replicate_succ,Array.replicate_zero,List.push_toArray,List.append_toArray,List.nil_append,List.cons_append]
 gi_wp2
 go_ret;exact⟨rfl,rfl⟩
theorem Qtx (n:Nat)(hn:1≤n)(l Bs:Nat)(s:ByteArray)(hs:s.size≤50000)(J Jx:List (List UInt8)→World→Prop)(W:World)
 (hJ:AbidesFrom W.heap.size J)
 (hY:∀pre x W1,J pre W1→pre.length<(pieces s.data.toList).length→YieldAt Fence.wide (n - 1) Tryz.prog l #[Vz x] W1 fun e W'=>
  (e=.returned (.bool true)∧J (pre++[x]) W'∧True)∨(e=.returned (.bool false)∧Jx (pre++[x]) W'))
 (hB:W.cell? ⟨Bs,0,none⟩=some (.string s))(h0:J [] W) :
 CallsIn Fence.wide n Tryz.prog 240 #[.func (.yield l) #[] #[],.pointer (some ⟨Bs,0,none⟩)] W fun e W'=>(∃v,e=.returned v) ∧
  ((∃ys,ys=pieces s.data.toList∧J ys W')∨(∃pre,pre <+: pieces s.data.toList∧Jx pre W')):=by
 refine callsIn_of_wp Tryz.func240 rfl trivial ?_ rfl;simp only[Tryz.ntmps240,List.size_toArray,List.length_cons,List.length_nil,Nat.reduceAdd,Nat.reduceSub,Array.replicate_succ,Array.replicate_zero,List.push_toArray,List.append_toArray,List.nil_append,List.cons_append]
 gi_wp2
 gi_loopw [3] (fun v wr=>∃(pre:List (List UInt8)) (rest:ByteArray),v=.string rest∧pieces s.data.toList=pre++pieces rest.data.toList∧rest.size≤50000∧J pre wr)
  (fun v _=>Qsi v)
 case atStart=>
  exact⟨[],s,rfl,rfl,hs,h0⟩
 case round=>
  obtain⟨pre,rest,rfl,hx,hr,hJs⟩:=hrel;have HX:Hid (pieces s.data.toList=pre++pieces rest.data.toList):=hx;clear hx;by_cases he:rest=⟨#[]⟩
  ·subst he
   gi_wp2
   go_end0
   have e:=HX.out;rw[pieces_nil,List.append_nil]at e;exact⟨⟨_,rfl⟩,.inl (by rw[e];exact hJs)⟩
  ·have hne:rest.toList.isEmpty=false:=(by rw[Lib.toList_data,List.isEmpty_eq_false_iff];intro e;exact he (ByteArray.ext (Array.toList_inj.1 e)));have HNE:Hid (rest.data.toList≠[]):=fun e=>he (ByteArray.ext (Array.toList_inj.1 e));have HSZ:Hid (rest.data.toList.length=rest.size):=(by show _=_;rw[Array.length_toList];rfl);clear he;obtain⟨k,hk⟩:∃k,first rest.data.toList=k:=⟨_,rfl⟩;have hk1:k≤rest.size:=(by rw[←hk,←HSZ.out];exact Qcq _);have hk0:0<k:=(by rw[←hk];exact Ke _ HNE.out);have HK:Hid (first rest.data.toList=k):=hk;have hex:rest.extract 0 k=⟨(rest.data.toList.take k).toArray⟩:=(by rw[X5,List.drop_zero,Nat.sub_zero]);have HP:Hid (pieces s.data.toList=(pre++[rest.data.toList.take k])++pieces (rest.data.toList.drop k)):=(by show _=_;rw[HX.out,Ka _ HNE.out,hk];simp);have HLT:Hid (pre.length<(pieces s.data.toList).length):=(by show _<_;rw[HP.out];simp);clear hk;gi_wp2_with (refine⟨trivial,?_⟩;gi_at_call 241;refine(callsIn_wide.2 (Qpx _ _ hr)).mono ?_;rintro e w1 ⟨rfl,hb1⟩;rw[HK.out];have hJ1:=hJ pre wr w1 none hJs (Qw hb1) (fun r e=>by cases e);obtain⟨fn,tmps,assign,body,hy,hR⟩:=hY pre (rest.data.toList.take k) w1 hJ1 HLT.out;dsimp only[Vz]at hy);refine hR.mono ?_;rintro e W3 (⟨rfl,hJ3,_⟩|⟨rfl,hJx3⟩)
   ·gi_wp2
    go_roundw
    case rel=>exact⟨pre++[rest.data.toList.take k],rest.extract k rest.size,rfl,by rw[Qk9];exact HP.out,by simp;omega,hJ3⟩
    case measure=>simp[Qsi];omega
   ·gi_wp2
    refine bodyPost_ret (results_none rfl _ _ _) rfl ?_;exact⟨⟨_,rfl⟩,.inr ⟨pre++[rest.data.toList.take k],⟨pieces (rest.data.toList.drop k),HP.out.symm⟩,hJx3⟩⟩
theorem each_stops (n:Nat)(hn:1≤n)(Bs:Nat)(s:ByteArray)(hs:s.size≤50000)(w:World)(hB:Bs<w.heap.size)(hc:w.cell? ⟨Bs,0,none⟩=some (.string s)) :
 SeqStopsK Fence.wide n Tryz.prog 240 #[.pointer (some ⟨Bs,0,none⟩)] (fun x:List UInt8 => #[Vz x]) (fun _ _=>True) (fun ys=>ys=pieces s.data.toList) (fun pre=>pre <+: pieces s.data.toList) (pieces s.data.toList).length w:=fun l J Jx W hW hJ _ hY h0=>
 Qtx n hn l Bs s hs J Jx W hJ hY ((hW.cell (p:=⟨Bs,0,none⟩) hB).trans hc) h0
attribute [local go_sem] Oper.semAt_some
theorem Qge:(Tryz.prog.info? 9).map (fun i=>(i.zero,i.size,i.bytes))=some (some (.string ⟨#[]⟩),1,16):=by kernel_rfl
theorem Ui {W:World}{base base':Nat}{e:TypeId}{size:Nat}{v:Value}{k:Nat}{xs:List Value}(h:W.ownsRow base e size v k xs)(hb:base'≤base):W.ownsRow base' e size v k xs:=by
 refine⟨h.1,?_⟩;rcases h.2 with hn|⟨g,cap,cur,hv,hbg,rest⟩
 ·exact .inl hn
 ·exact .inr ⟨g,cap,cur,hv,Nat.le_trans hb hbg,rest⟩
theorem Xf {w:World}{base:Nat}{e:TypeId}{size:Nat}{v:Value}{n:Nat}{xs:List Value}(h:w.ownsRow base e size v n xs){j:Nat}(hj:v.ownBlock=some j):base≤j:=by
 obtain⟨_,h⟩:=h;rcases h with⟨rfl,_⟩|⟨g,cap,cur,rfl,hg,_⟩
 ·simp[Value.ownBlock]at hj
 ·simp[Value.ownBlock]at hj;omega
theorem appendSeq_in (n:Nat)(hn:3≤n)(g:Nat)(lb:Array Value)(eg:∀args w,(callFunc g args).run Tryz.prog w=.ok (.enter g args) w)(xs:List (List UInt8))(Sp:List (List UInt8)→Prop)(hN:xs.length≤50000)(w w0:World)(hb0:Below w0.heap.size w0 w)
 (hseq:SeqStopsK Fence.wide (n - 1) Tryz.prog g lb (fun x:List UInt8 => #[Vz x]) (fun _ _=>True) (fun ys=>ys=xs) Sp xs.length w0) :
 CallsIn Fence.wide n Tryz.prog 239 #[.slice none 0 0,.func (.func g) #[] lb] w fun e w'=>∃v,e=.returned v∧w'.ownsRow w.heap.size 9 1 v xs.length (xs.map Vz)∧Below w.heap.size w w':=by
 have h1:1≤n:=by omega
 obtain⟨i0,hi,hz0,hz1,hz2⟩:=info_parts Qge;refine callsIn_of_wp_marks Tryz.func239 rfl trivial ?_ rfl;simp only[Tryz.ntmps239,List.size_toArray,List.length_cons,List.length_nil,Nat.reduceAdd,Nat.reduceSub,Array.replicate_succ,Array.replicate_zero,List.push_toArray,List.append_toArray,List.nil_append,List.cons_append]
 gi_wp2
 have bO:=Boxed.new w 73 (.slice none 0 0);have hB0:Below w.heap.size w (w.alloc (.cells #[.slice none 0 0] 73)):=(Below.refl _ w).alloc wz _;refine wpIn_rangeFunc_ownG rfl h1 (gf:=g) (lb:=lb) rfl trivial eg hseq (fun _ _=>trivial) (fun _ _ _ _ _ _ _ _=>trivial) (hb0.trans (hB0.mono hb0.size)) (fun _=>rfl)
  (fun pre W=>(∃v,Boxed W w.heap.size 73 v∧W.ownsRow w.heap.size 9 1 v pre.length (pre.map Vz)∧True)∧Below w.heap.size w W)
  (fun _ _ _=>False)
  (OwnFrom.and (Own.from (holdsRow_own w.heap.size w.heap.size 73 9 1 (fun pre:List (List UInt8)=>pre.length) (fun pre=>pre.map Vz) (fun _ _=>True)) _) (ownFrom_below wz (by simp)))
  (fun _ _ _ _ _ hs _ _=>hs)
  ⟨⟨_,bO,World.ownsRow_nil _ _ _ _,trivial⟩,hB0⟩
  (fun x=>{ tmps := #[.slice none 0 0,.func (.func g) #[] lb,.pointer (some ⟨w.heap.size,0,none⟩),undef,.slice none 0 0,Vz x,.func (.func g) #[] lb,Vz x,undef,undef,undef,undef,undef],defers:=[] }) ?assign ?body ?done ?stop
 case assign=>
  intro l x W K hK
  gi_wp2
  exact hK
 case body=>
  rintro l pre x W ⟨⟨v,hv,hrow,_⟩,hB⟩ hlt;have hc:=hv.cell;gi_wp2_with (gi_at_builtin;refine wpListIn_append_own _ rfl _ _ 73 rfl w.heap.size 9 i0 (.string ⟨#[]⟩) 1 16 Tryz.underlying73 hi hz0 hz1 hz2 rfl (by decide) _ _ _ rfl (hrow.alloc _) ⟨W.heap.size,0,none⟩ 1 1 [Vz x] rfl rfl (cell_one_new _ _ _) (by simp[Value.oneCell']) (by unfold maxLen;omega) (by omega) (by have:=hB.size;simp;omega) ?_;intro v' w1 hown' hgrow _;obtain⟨g',cap',rfl⟩:=ownsRow_succ hown';obtain⟨hv1,hv2,hr2,hk2,hb2⟩:=hv.appended (by decide) hrow hB.size wz hown' hgrow;have hc1:=hv1.cell;have hf1:=hv1.frozen);exact⟨hk2.from _,trivial,⟨_,hv2,by simpa using hr2,trivial⟩,hB.trans hb2⟩
 case done=>
  rintro D ys W hD rfl ⟨⟨v,hv,hrow,hnil⟩,hB⟩ hK;have hc:=hv.cell
  gi_wp2
  refine⟨by simp,.inl ⟨_,_,rfl,run_takeDeferred hK,?_⟩⟩;exact⟨_,results_tmp rfl _ _ _,v,rfl,ownsRow_putObj hrow _ hK rfl,hB.trans (belowK_b (w:=w) wz W D _ _ (by simp at hD;omega) hK rfl rfl)⟩
 case stop=>
  rintro D c pre W _ _ h _;exact h.elim
theorem collect_in (n:Nat)(hn:4≤n)(g:Nat)(lb:Array Value)(eg:∀args w,(callFunc g args).run Tryz.prog w=.ok (.enter g args) w)(xs:List (List UInt8))(Sp:List (List UInt8)→Prop)(hN:xs.length≤50000)(w:World)
 (hseq:SeqStopsK Fence.wide (n - 1 - 1) Tryz.prog g lb (fun x:List UInt8 => #[Vz x]) (fun _ _=>True) (fun ys=>ys=xs) Sp xs.length w) :
 CallsIn Fence.wide n Tryz.prog 177 #[.func (.func g) #[] lb] w fun e w'=>∃v,e=.returned v∧w'.ownsRow w.heap.size 9 1 v xs.length (xs.map Vz)∧Below w.heap.size w w':=by
 have h1:1≤n:=by omega
 refine callsIn_of_wp Tryz.func177 rfl trivial ?_ rfl;simp only[Tryz.ntmps177,List.size_toArray,List.length_cons,List.length_nil,Nat.reduceAdd,Nat.reduceSub,Array.replicate_succ,Array.replicate_zero,List.push_toArray,List.append_toArray,List.nil_append,List.cons_append];gi_wp2_with (refine⟨trivial,?_⟩;gi_at_call 239;refine(appendSeq_in (n - 1) (by omega) g lb eg xs Sp hN _ _ (Below.refl _ _) hseq).mono ?_;rintro e w' ⟨v,rfl,hrow,hb⟩);go_ret;exact⟨v,rfl,hrow,hb⟩
theorem Qf3 (s:ByteArray)(hs:s.size≤50000)(w:World) :
 Calls Tryz.prog 99 #[.string s] w fun e w'=>∃v,e=.returned v∧w'.ownsRow w.heap.size 9 1 v (pieces s.data.toList).length ((pieces s.data.toList).map Vz)∧Below w.heap.size w w':=by refine(callsIn_wide (n:=8)).1 ?_;have hlen:(pieces s.data.toList).length≤50000:=Nat.le_trans (Qy _) (by rw[Array.length_toList];exact hs);have HLEN:Hid ((pieces s.data.toList).length≤50000):=hlen;clear hlen;refine callsIn_of_wp Tryz.func99 rfl trivial ?_ rfl;simp only[Tryz.ntmps99,List.size_toArray,List.length_cons,List.length_nil,Nat.reduceAdd,Nat.reduceSub,Array.replicate_succ,Array.replicate_zero,List.push_toArray,List.append_toArray,List.nil_append,List.cons_append];gi_wp2_with (first|(refine⟨trivial,?_⟩;gi_at_call 178;refine(Qva _ s _).mono ?_;rintro e w' ⟨rfl,rfl⟩)|(refine⟨trivial,?_⟩;gi_at_call 177;refine(collect_in _ (by omega) 240 _ (enters_of Tryz.func240 (by kernel_rfl) rfl) (pieces s.data.toList) _ HLEN.out _ (each_stops _ (by omega) w.heap.size s hs _ (by simp) (Boxed.new w 9 (.string s)).cell)).mono ?_;rintro e w' ⟨v,rfl,hrow,hb⟩));go_ret;exact⟨v,rfl,Ui hrow (by simp),((Below.refl _ w).alloc wz _).trans (hb.mono (by simp))⟩
abbrev Qcd (p:List UInt8):Value:=.string ⟨p.toArray⟩
def Zj (w:World)(v:Value)(xs:List Value):Prop:=
 ∃(p:Option Addr) (c:Nat),v=.slice p xs.length c∧∀i (h:i<xs.length),∃b o,p=some ⟨b,o,none⟩∧(b<w.heap.size∧xs.length≤c)∧w.cell? ⟨b,o+i,none⟩=some xs[i]
theorem Zj.below {w w':World}{v:Value}{xs:List Value}(h:Zj w v xs)(hb:Below w.heap.size w w'):Zj w' v xs:=by
 obtain⟨p,c,rfl,h⟩:=h;refine⟨p,c,rfl,fun i hi => ?_⟩;obtain⟨b,o,hp,⟨hlt,hcap⟩,hc⟩:=h i hi;exact⟨b,o,hp,⟨Nat.lt_of_lt_of_le hlt hb.size,hcap⟩,(hb.cell (p:=⟨b,o+i,none⟩) hlt).trans hc⟩
theorem Zj.of_row {w:World}{base:Nat}{e:TypeId}{v:Value}{n:Nat}{xs:List Value}(h:w.ownsRow base e 1 v n xs):Zj w v xs:=by
 obtain⟨hl,h⟩:=h;rw[Nat.mul_one]at hl;rcases h with⟨rfl,h0⟩|⟨g,cap,cur,rfl,hg,hb,h1,h2,h3,h4⟩
 ·exact⟨none,0,by rw[hl,h0],fun i hi=>by omega⟩
 ·refine⟨some ⟨g,0,none⟩,cap,by rw[hl],fun i hi=>⟨g,0,rfl,⟨?_,by omega⟩,?_⟩⟩
  ·rcases Nat.lt_or_ge g w.heap.size with h'|h'
   ·exact h'
   ·simp[Array.getElem?_eq_none h']at hb
  ·have e1:cur.toList[i]? = xs[i]? := by rw[←h4,List.getElem?_take,if_pos (by omega)]
   simp only[World.cell?,hb,Nat.zero_add];rw[←Array.getElem?_toList,e1,List.getElem?_eq_getElem hi];simp
theorem Qsw {w:World}{base:Nat}{e:TypeId}{v:Value}{n:Nat}{xs:List Value}(h:w.ownsRow base e 1 v n xs)(hn:1≤n) :
 ∃g cap,v=.slice (some ⟨g,0,none⟩) n cap∧n≤cap∧cap≤maxLen∧g<w.heap.size∧∀j (hj:j<xs.length),w.cell? ⟨g,j,none⟩=some xs[j]:=by
 obtain⟨p,c,hv,hc⟩:=Zj.of_row h;obtain⟨hl,h⟩:=h;rw[Nat.mul_one]at hl;rcases h with⟨_,h0⟩|⟨g,cap,cur,rfl,hg,hb,h1,h2,h3,h4⟩
 ·omega
 have hp:p=some ⟨g,0,none⟩:=by have:=hv;simp at this;exact this.1.symm
 refine⟨g,cap,rfl,h1,h2,?_,fun j hj => ?_⟩
 ·obtain⟨b,o,hp',⟨hlt,_⟩,_⟩:=hc 0 (by omega);rw[hp]at hp';cases hp';exact hlt
 ·obtain⟨b,o,hp',_,hcell⟩:=hc j hj;rw[hp]at hp';cases hp';rw[Nat.zero_add]at hcell;exact hcell
theorem Qfv (va vb:Value)(xs:List (List UInt8))(w:World)(hn:(xs.length:Int)≤9223372036854775807)(ha:Zj w va (xs.map Qcd))(hb:Zj w vb (xs.map Qcd)) :
 Calls Tryz.prog 42 #[va,vb] w fun e w'=>e=.returned (.bool true)∧Below w.heap.size w w':=by
 obtain⟨pa,ca,rfl,ha⟩:=ha;obtain⟨pb,cb,rfl,hb⟩:=hb;simp only[List.length_map,List.getElem_map]at ha hb ⊢;go_enter Tryz.func42,Tryz.ntmps42;go_wp2_with fail
 go_loopw [5] (fun i wr=>∃j m:Nat,j≤xs.length∧i=.int .i64 j∧wr=w.drewN m) (fun i _=>xs.length - (intOf i).toNat)
 case atStart=>exact⟨0,0,Nat.zero_le _,rfl,rfl⟩
 case round=>
  obtain⟨j,m,hj,rfl,rfl⟩:=hrel;by_cases hlt:j<xs.length
  ·obtain⟨ba,oa,rfl,_,hca⟩:=ha j hlt;obtain⟨bb,ob,rfl,_,hcb⟩:=hb j hlt;have hlt':(j:Int)<(xs.length:Int):=(by omega);go_wp2_with fail;go_quiet (fail);go_wp2_with fail;go_roundw
   case rel=>exact⟨j+1,_,by omega,by go_num,rfl⟩
   case measure=>simp[intOf];omega
  ·have hge:(xs.length:Int)≤(j:Int):=(by omega);go_wp2_with fail;go_ret;exact⟨rfl,⟨rfl,rfl,rfl,wz,fun _ _=>rfl⟩⟩
end Go.Proofs.YtjngnnbondejaabGreatDoor
