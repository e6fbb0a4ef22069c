/- A part. -/
import Derived.Test.YtjngnnbondejaabGreatDoorM15
import Derived.Test.YtjngnnbondejaabGreatDoorM12
import Derived.Shelf.SlIter.Nil
set_option maxHeartbeats 8000000
set_option maxRecDepth 100000
namespace Go.Proofs.YtjngnnbondejaabGreatDoor
open Go.RowKit Go.Maps
theorem qi.off {F:Nat→Prop}{w w':World}{b o:Nat}{v:Value}{r:Rcp}(h:qi w b o v r)(ho:Off F w w')(hb:¬F b)(hv:r.2.2.2≠[]→∀k,v.ownBlock=some k→¬F k):qi w' b o v r:=by
 have e:=ho.block b h.lt hb;exact⟨Nat.lt_of_lt_of_le h.lt ho.size,(World.cell?_of_block (w:=w) e).trans h.c0,(World.cell?_of_block (w:=w) e).trans h.c1,(World.cell?_of_block (w:=w) e).trans h.c2,(World.cell?_of_block (w:=w) e).trans h.c3,h.ids.off ho hv⟩
def Qwz (n:Nat)(w:World)(v:Value)(fs:List Rcp):Prop:=Jo w v fs∧∀W,Below n w W→Jo W v fs
theorem Qh1 (a:Nat→Addr)(vf:Value)(fs:List Rcp)(at':Nat)(w0 w:World)(hat:at'<fs.length)(mf mu nF nU:Nat)(F:Nat×Int→Option Int)(U:Use→Option Int)(B:Int)
 (hv:Jo w0 vf fs)(hb0:Below w0.heap.size w0 w)(hm:w0.heap.size≤mf∧w0.heap.size≤mu)(hfl:fs.length≤30)
 (hgood:Qb fs[at'].1 fs[at'].2.1 fs[at'].2.2.2=(0,-1))(hord:∀(h:0<at'),fs[at' - 1].1<fs[at'].1)(hnm:∀r∈fs,r.1.length≤50000)
 (hwf:∀i∈fs[at'].2.2.2,Zv i)(hwr:Zv (Qv fs[at']))(hE:Je [1,2,3,4,6,8] w0 a)(hne:mf≠mu)(hnF:nF≤100000)(hnU:nU≤200000)(hB:0≤B∧B≤1000000)(hFB:∀y c,F y=some c→0≤c∧c≤B)(hUB:∀y c,U y=some c→0≤c∧c≤B)
 (hF:Kh.Fn w mf nF F)(hU:Jq.Fn w mu nU U) :
 Calls Tryz.prog 85 #[.agg #[.map (some mf),.map (some mu)],vf,.int .i64 at'] w (Qcp a w mf mu nF nU F U fs[at']):=by
 have HE:Hid (∀W,Below w0.heap.size w0 W→Je [1,2,3,4,6,8] W a):=fun W hb=>hE.below hb wz;have HEG:Hid (Xn 4<w0.heap.size):=lt_of_cell (hE.glob 4 rfl);have HB0:=Qa hb0;obtain⟨pa,ca,rfl,hcell⟩:=hv;obtain⟨b,o,vi,rfl,hR⟩:=hcell at' hat;have HRP:Hid (∀W,Below w0.heap.size w0 W→qi W b (o+at' * 4) vi fs[at']):=fun W hb=>hR.below hb;have HPR:Hid (∀(h:0<at') W,Below w0.heap.size w0 W→W.cell? ⟨b,o+(at' - 1)*4,none⟩=some (.string ⟨fs[at' - 1].1.toArray⟩)):=fun h W hb=>by
  obtain⟨b',o',vi',hp,hR'⟩:=hcell (at' - 1) (by omega);obtain⟨rfl,rfl⟩:b=b'∧o=o':=by simpa using hp
  exact(hR'.below hb).c0
 have hat':(at':Int)<(fs.length:Int):=by omega
 have hat0:(0:Int)≤(at':Int):=by omega
 have hfl':(fs.length:Int)≤30:=by omega
 have HORD:=Qa hord;have HF:=Qa hF;have HU:=Qa hU;have HNM:=Qa (hnm fs[at'] (List.getElem_mem hat));have HROW:Hid (fs[at'].2.2.2≠[]→∀k,vi.ownBlock=some k→k<w0.heap.size):=fun hn k hk=>hR.ids.lt hn hk;have HWF:=Qa hwf;have HWR:=Qa hwr;have HGOOD:=Qa hgood;obtain⟨pv,cv,hvi,_⟩:=hR.ids;have c0:=(hR.below hb0).c0;have c1:=(hR.below hb0).c1;have c2:=(hR.below hb0).c2;have c3:=(hR.below hb0).c3;have HIDS:Hid (∀W,Below w0.heap.size w0 W→Q3 W vi fs[at'].2.2.2):=fun W hb=>(hR.below hb).ids;obtain⟨⟨rn,rl,rp,ri⟩,hx⟩:∃x,fs[at']=x:=⟨_,rfl⟩;have HX:=Qa hx;rw[hx]at c0 c1 c2 HNM HROW HWF HWR HGOOD HIDS hvi ⊢;simp only at c0 c1 c2 HNM HROW HWF HWR HGOOD HIDS hvi ⊢;subst hvi;have HLEN:Hid (ri.length≤250):=by
  show _≤_;have:=HGOOD.out;unfold Qb at this;split at this
  ·cases this
  ·split at this
   ·cases this
   ·split at this
    ·cases this
    ·omega
 obtain⟨NM,hNM⟩:∃NM:ByteArray,(⟨rn.toArray⟩:ByteArray)=NM:=⟨_,rfl⟩;obtain rfl:rn=NM.data.toList:=by rw[←hNM]
 rw[hNM]at c0;obtain⟨idl,hidl⟩:∃idl,ri.length=idl:=⟨_,rfl⟩;have HIDL:=Qa hidl;rw[hidl]at c3 HIDS HLEN;rw[hidl]at HROW;have HNMZ:Hid (NM.size≤50000):=by show NM.size≤50000;have:=HNM.out;rw[Array.length_toList]at this;exact this
 clear hF hU hwf hwr hgood hord hnm hE hR hcell hx hNM HNM;have hal1:=(Below.refl _ w).alloc wz (.cells #[.map (some mf),.map (some mu)] 138);have hbc:=Blk.new w #[.map (some mf),.map (some mu)] 138;obtain⟨W1,hW1⟩:∃W1,w.alloc (.cells #[.map (some mf),.map (some mu)] 138)=W1:=⟨_,rfl⟩;rw[hW1]at hal1 hbc;have hs1:W1.heap.size=w.heap.size+1:=by rw[←hW1];simp
 have d0:=(hal1.cell (p:=⟨b,o+at' * 4,none⟩) (lt_of_cell c0)).trans c0;have d1:=(hal1.cell (p:=⟨b,o+at' * 4+1,none⟩) (lt_of_cell c0)).trans c1;have d2:=(hal1.cell (p:=⟨b,o+at' * 4+2,none⟩) (lt_of_cell c0)).trans c2;have d3:=(hal1.cell (p:=⟨b,o+at' * 4+3,none⟩) (lt_of_cell c0)).trans c3;have hal2:=(Below.refl _ W1).alloc wz (.cells #[.string NM,.int .i64 rl,.int .u32 rp,.slice pv idl cv] 40);have hbr:=Blk.new W1 #[.string NM,.int .i64 rl,.int .u32 rp,.slice pv idl cv] 40;have hbc2:=hbc.next hal2;have hB2:Below w.heap.size w _:=hal1.trans (hal2.mono hal1.size);rw[hs1]at hbr;have HBC:=Qa hbc2;have HBR:=Qa hbr;have HB2:=Qa hB2;have r0:=hbr.cell (i:=0) rfl;have r1:=hbr.cell (i:=1) rfl;have r2:=hbr.cell (i:=2) rfl;have r3:=hbr.cell (i:=3) rfl;rw[←hW1]at d0 d1 d2 d3 r0 r1 r2 r3;rw[←hW1]at HBC HBR HB2;have HSZ0:Hid (w0.heap.size≤w.heap.size):=HB0.out.size;clear hal1 hal2 hbc hbr hbc2 hB2 hs1 c0 c1 c2 c3 hW1;go_enter Tryz.func85,Tryz.ntmps85;go_wp2_with fail;generalize ((w.alloc (.cells #[.map (some mf),.map (some mu)] 138)).alloc (.cells #[.string NM,.int .i64 rl,.int .u32 rp,.slice pv idl cv] 40))=W2 at *;have HB02:Hid (Below w0.heap.size w0 W2):=HB0.out.trans (HB2.out.mono HSZ0.out);refine(Ua a NM (by unfold maxLen;have:=HNMZ.out;omega) rl rp (.slice pv idl cv) ri W2 ((HE.out _ HB02.out).sub (by decide)) (HIDS.out _ HB02.out) (by rw[HIDL.out];unfold maxLen;have:=HLEN.out;omega)).mono ?_;rintro e w3 ⟨ev3,rfl,he3,hb3⟩;rw[HGOOD.out]at he3;obtain rfl:=he3.nil;have HB3:Hid (Below w.heap.size w w3):=HB2.out.trans (hb3.mono HB2.out.size);have HB03:Hid (Below w0.heap.size w0 w3):=HB0.out.trans (HB3.out.mono HSZ0.out);have HBC3:=Qa (HBC.out.next hb3);have HBR3:=Qa (HBR.out.next hb3);clear hb3 he3 r0 r1 r2 r3 d0 d1 d2 d3 HBC HBR HB2 HB02 HGOOD;have r0:=HBR3.out.cell (i:=0) rfl;have r1:=HBR3.out.cell (i:=1) rfl;have r2:=HBR3.out.cell (i:=2) rfl;have r3:=HBR3.out.cell (i:=3) rfl;have c0:=HBC3.out.cell (i:=0) rfl;have c1:=HBC3.out.cell (i:=1) rfl;by_cases h0:0<at'
 ·have h0':(0:Int)<(at':Int):=by omega
  have hpr:=HPR.out h0 w3 HB03.out;have hlt:=HORD.out h0;obtain⟨m,hm'⟩:∃m,at' - 1=m:=⟨_,rfl⟩;have hwm:IntKind.i64.wrap ((at':Int) - 1)=(m:Int):=by rw[IntKind.wrap_i64];omega
  obtain⟨PN,hPN⟩:∃PN:ByteArray,(⟨fs[at' - 1].1.toArray⟩:ByteArray)=PN:=⟨_,rfl⟩;rw[hPN,hm']at hpr;have hml:(m:Int)<(fs.length:Int):=by omega
  have hm0:(0:Int)≤(m:Int):=by omega
  have hlt2:PN.data.toList<NM.data.toList:=by rw[←hPN];have:=hlt;rw[HX.out]at this;exact this
  have hbl:Op.bytesLess NM.toList PN.toList=false:=by rw[Go.Proofs.bytesLess_eq,ByteArray.toList_eq,ByteArray.toList_eq];exact decide_eq_false (fun h=>List.lt_irrefl _ (List.lt_trans h hlt2))
  have hbe:(NM.toList==PN.toList)=false:=by rw[ByteArray.toList_eq,ByteArray.toList_eq,beq_eq_false_iff_ne];intro e;rw[e]at hlt2;exact List.lt_irrefl _ hlt2
  clear hPN hlt hlt2;go_wp2_with fail;go_quiet (fail);have hdr:=Qe (grown_drewN w3 nq);have HBC4:=Qa (HBC3.out.next hdr);have HBR4:=Qa (HBR3.out.next hdr);have HB4:Hid (Below w.heap.size w _):=Qa (HB3.out.trans (hdr.mono HB3.out.size));have HB04:Hid (Below w0.heap.size w0 _):=Qa (HB03.out.trans (hdr.mono HB03.out.size));clear r0 r1 r2 r3 c0 c1 hdr HBC3 HBR3 HB3 HB03;generalize w3.drewN nq=w4 at *;have r0:=HBR4.out.cell (i:=0) rfl;have r1:=HBR4.out.cell (i:=1) rfl;have r2:=HBR4.out.cell (i:=2) rfl;have r3:=HBR4.out.cell (i:=3) rfl;have c0:=HBC4.out.cell (i:=0) rfl;have c1:=HBC4.out.cell (i:=1) rfl;have HADN:=Qa (Qo9 a NM rl rp (.slice pv idl cv) ri mf mu nF nU F U B w4 (by rw[HIDL.out];exact HLEN.out) HWF.out HWR.out ((HE.out _ HB04.out).sub (by decide)) (HIDS.out _ HB04.out) (fun hn k hk=>by have:=HROW.out hn k hk;exact⟨by omega,by omega⟩) hne ⟨by have:=HEG.out;omega,by have:=HEG.out;omega⟩ hnF hnU hB hFB hUB (HF.out.below HB4.out) (HU.out.below HB4.out));unfold Qcp at HADN;go_wp2_with fail;refine HADN.out.mono ?_;rintro e w5 ⟨ev5,rfl,he5,ho5,hadd5⟩;have HE5:=Qa he5;have HA5:=Qa hadd5;have HOF:=Qa ((Off.of_below (F:=fun k=>k=mf∨k=mu) HB4.out).trans ho5 (fun _ _ h=>h));clear hadd5 he5 ho5 HADN;go_wp2_with fail;go_ret;exact⟨_,rfl,HE5.out,HOF.out,HA5.out⟩
 ·have h0':¬(0:Int)<(at':Int):=by omega
  go_wp2_with fail;go_quiet (fail);have hdr:=Qe (grown_drewN w3 nq);have HBC4:=Qa (HBC3.out.next hdr);have HBR4:=Qa (HBR3.out.next hdr);have HB4:Hid (Below w.heap.size w _):=Qa (HB3.out.trans (hdr.mono HB3.out.size));have HB04:Hid (Below w0.heap.size w0 _):=Qa (HB03.out.trans (hdr.mono HB03.out.size));clear r0 r1 r2 r3 c0 c1 hdr HBC3 HBR3 HB3 HB03;generalize w3.drewN nq=w4 at *;have r0:=HBR4.out.cell (i:=0) rfl;have r1:=HBR4.out.cell (i:=1) rfl;have r2:=HBR4.out.cell (i:=2) rfl;have r3:=HBR4.out.cell (i:=3) rfl;have c0:=HBC4.out.cell (i:=0) rfl;have c1:=HBC4.out.cell (i:=1) rfl;have HADN:=Qa (Qo9 a NM rl rp (.slice pv idl cv) ri mf mu nF nU F U B w4 (by rw[HIDL.out];exact HLEN.out) HWF.out HWR.out ((HE.out _ HB04.out).sub (by decide)) (HIDS.out _ HB04.out) (fun hn k hk=>by have:=HROW.out hn k hk;exact⟨by omega,by omega⟩) hne ⟨by have:=HEG.out;omega,by have:=HEG.out;omega⟩ hnF hnU hB hFB hUB (HF.out.below HB4.out) (HU.out.below HB4.out));unfold Qcp at HADN;go_wp2_with fail;refine HADN.out.mono ?_;rintro e w5 ⟨ev5,rfl,he5,ho5,hadd5⟩;have HE5:=Qa he5;have HA5:=Qa hadd5;have HOF:=Qa ((Off.of_below (F:=fun k=>k=mf∨k=mu) HB4.out).trans ho5 (fun _ _ h=>h));clear hadd5 he5 ho5 HADN;go_wp2_with fail;go_ret;exact⟨_,rfl,HE5.out,HOF.out,HA5.out⟩
def Zc (err:Nat→Int):Nat→Nat→Option Nat
 | _,0=>none
 | k,n+1=>if err k≠0 then some k else Zc err (k+1) n
def Zx (err:Nat→Int)(many:Nat):Int×Int:=match Zc err 0 many with|none=>(0,-1)|some k=>(err k,k)
def FirstPost (a:Nat→Addr)(base:Nat)(J:World→Prop)(I:Nat→World→Prop)(err:Nat→Int)(many:Nat)(e:Ending)(w':World):Prop:=
 ∃ev,e=.returned ev∧Qp base w' a ev (Zx err many)∧(Zc err 0 many=none→I many w')∧J w'
theorem Qnd (a:Nat→Addr)(lb:Array Value)(many:Nat)(err:Nat→Int)(J:World→Prop)(I:Nat→World→Prop)(w:World)(hm:many≤1000)(hJ0:J w)(hJa:∀W o,J W→J (W.alloc o))
 (hcall:∀k W,k<many→w.heap.size≤W.heap.size→I k W→Calls Tryz.prog 84 (#[.int .i64 k]++lb) W fun e w'=>∃ev,e=.returned ev∧((err k=0∧ev=.nilIface)∨∃i:Nat,i<12∧err k=(i:Int)+1∧ev=sentV a i)∧w.heap.size≤w'.heap.size∧(err k=0→I (k+1) w')∧J w')(h0:I 0 w) :
 Calls Tryz.prog 83 #[.int .i64 many,.func (.func 84) #[] lb] w (FirstPost a w.heap.size J I err many):=by
 have HC:=Qa hcall;have HI0:=Qa h0;have HJ0:=Qa hJ0;have HJA:=Qa hJa;clear hJ0 hJa;have hm':(many:Int)≤1000:=by omega
 obtain⟨RES,hRES⟩:∃RES,Zc err 0 many=RES:=⟨_,rfl⟩;have HRES:=Qa hRES;clear hcall h0 hRES;go_enter Tryz.func83,Tryz.ntmps83;go_wp2_with fail
 go_loopw [8] (fun iv wr=>∃(k:Nat),k≤many∧iv=.int .i64 k∧Hid (I k wr)∧Hid (Zc err k (many - k)=RES)∧Hid (w.heap.size≤wr.heap.size)∧Hid (J wr)) (fun iv _=>many - (intOf iv).toNat)
 case atStart=>exact⟨0,Nat.zero_le _,rfl,HI0.out,HRES.out,wz,HJ0.out⟩
 case round=>
  clear HI0;obtain⟨k,hk,rfl,HI,HR,HS,HJ⟩:=hrel;by_cases hlt:k<many
  ·have hlt':(k:Int)<(many:Int):=(by omega);have HCK:=Qa (HC.out k wr hlt HS.out HI.out);have hsub:many - k=(many - (k+1))+1:=(by omega);rw[hsub,Zc]at HR;clear hsub;go_wp2_with fail;refine HCK.out.mono ?_;rintro e w2 ⟨ev2,rfl,he2,hs2,hi2,hj2⟩;have HJ2:=Qa hj2;have HS2:=Qa hs2;have HI2:=Qa hi2;clear hs2 hi2 HCK hj2;rcases he2 with⟨h0,rfl⟩|⟨i,hi,h0,rfl⟩
   ·rw[if_neg (by rw[h0];simp)]at HR;have HI3:=Qa (HI2.out h0);clear h0 HI2;go_wp2_with fail;go_roundw
    case rel=>exact⟨k+1,hlt,by go_num,HI3.out,HR.out,HS2.out,HJ2.out⟩
    case measure=>simp[intOf];omega
   ·have hne:err k≠0:=(by rw[h0];omega);rw[if_pos hne]at HR;have HQ:=Qa h0;have HIL:=Qa hi;clear h0 hne HI2 hi;go_wp2_with fail;go_ret;have hres:Zc err 0 many=some k:=HRES.out.trans HR.out.symm;refine⟨_,rfl,?_,fun h => ?_,HJA.out _ _ HJ2.out⟩
    ·unfold Zx;rw[hres];exact .inr (.inr ⟨i,w2.heap.size,0,(k:Int),HIL.out,HS2.out,rfl,Zh _ _ _ rfl rfl,Zh _ _ _ rfl rfl,by simp only;rw[HQ.out]⟩)
    ·rw[hres]at h;cases h
  ·have hge:(many:Int)≤(k:Int):=(by omega);have hz:many - k=0:=(by omega);have hkm:k=many:=(by omega);rw[hz,Zc]at HR;have hres:Zc err 0 many=none:=HRES.out.trans HR.out.symm;have HRS:=Qa hres;rw[hkm]at HI;clear hz hkm hres;go_wp2_with fail;go_ret;refine⟨_,rfl,?_,fun _=>HI.out,HJ.out⟩;unfold Zx;rw[HRS.out];exact .inl ⟨rfl,rfl⟩
theorem Qm8 (a:Nat→Addr)(lb:Array Value)(many:Nat)(err:Nat→Int)(J:World→Prop)(I:Nat→World→Prop)(w:World)(hm:many≤1000)(hJ0:J w)(hJa:∀W o,J W→J (W.alloc o))
 (hcall:∀k W,k<many→w.heap.size≤W.heap.size→I k W→Calls Tryz.prog 86 (#[.int .i64 k]++lb) W fun e w'=>∃ev,e=.returned ev∧((err k=0∧ev=.nilIface)∨∃i:Nat,i<12∧err k=(i:Int)+1∧ev=sentV a i)∧w.heap.size≤w'.heap.size∧(err k=0→I (k+1) w')∧J w')(h0:I 0 w) :
 Calls Tryz.prog 83 #[.int .i64 many,.func (.func 86) #[] lb] w (FirstPost a w.heap.size J I err many):=by
 have HC:=Qa hcall;have HI0:=Qa h0;have HJ0:=Qa hJ0;have HJA:=Qa hJa;clear hJ0 hJa;have hm':(many:Int)≤1000:=by omega
 obtain⟨RES,hRES⟩:∃RES,Zc err 0 many=RES:=⟨_,rfl⟩;have HRES:=Qa hRES;clear hcall h0 hRES;go_enter Tryz.func83,Tryz.ntmps83;go_wp2_with fail
 go_loopw [8] (fun iv wr=>∃(k:Nat),k≤many∧iv=.int .i64 k∧Hid (I k wr)∧Hid (Zc err k (many - k)=RES)∧Hid (w.heap.size≤wr.heap.size)∧Hid (J wr)) (fun iv _=>many - (intOf iv).toNat)
 case atStart=>exact⟨0,Nat.zero_le _,rfl,HI0.out,HRES.out,wz,HJ0.out⟩
 case round=>
  clear HI0;obtain⟨k,hk,rfl,HI,HR,HS,HJ⟩:=hrel;by_cases hlt:k<many
  ·have hlt':(k:Int)<(many:Int):=(by omega);have HCK:=Qa (HC.out k wr hlt HS.out HI.out);have hsub:many - k=(many - (k+1))+1:=(by omega);rw[hsub,Zc]at HR;clear hsub;go_wp2_with fail;refine HCK.out.mono ?_;rintro e w2 ⟨ev2,rfl,he2,hs2,hi2,hj2⟩;have HJ2:=Qa hj2;have HS2:=Qa hs2;have HI2:=Qa hi2;clear hs2 hi2 HCK hj2;rcases he2 with⟨h0,rfl⟩|⟨i,hi,h0,rfl⟩
   ·rw[if_neg (by rw[h0];simp)]at HR;have HI3:=Qa (HI2.out h0);clear h0 HI2;go_wp2_with fail;go_roundw
    case rel=>exact⟨k+1,hlt,by go_num,HI3.out,HR.out,HS2.out,HJ2.out⟩
    case measure=>simp[intOf];omega
   ·have hne:err k≠0:=(by rw[h0];omega);rw[if_pos hne]at HR;have HQ:=Qa h0;have HIL:=Qa hi;clear h0 hne HI2 hi;go_wp2_with fail;go_ret;have hres:Zc err 0 many=some k:=HRES.out.trans HR.out.symm;refine⟨_,rfl,?_,fun h => ?_,HJA.out _ _ HJ2.out⟩
    ·unfold Zx;rw[hres];exact .inr (.inr ⟨i,w2.heap.size,0,(k:Int),HIL.out,HS2.out,rfl,Zh _ _ _ rfl rfl,Zh _ _ _ rfl rfl,by simp only;rw[HQ.out]⟩)
    ·rw[hres]at h;cases h
  ·have hge:(many:Int)≤(k:Int):=(by omega);have hz:many - k=0:=(by omega);have hkm:k=many:=(by omega);rw[hz,Zc]at HR;have hres:Zc err 0 many=none:=HRES.out.trans HR.out.symm;have HRS:=Qa hres;rw[hkm]at HI;clear hz hkm hres;go_wp2_with fail;go_ret;refine⟨_,rfl,?_,fun _=>HI.out,HJ.out⟩;unfold Zx;rw[HRS.out];exact .inl ⟨rfl,rfl⟩
def X4 (U:Use→Option Int)(b:Qr):Int:=if b.2.all (fun h=>decide ((U (b.1,h.1)).getD 0=h.2.1))=true then 0 else 11
theorem Qec {U:Use→Option Int}{b:Qr}{h:Hd}(hm:h∈b.2)(hne:(U (b.1,h.1)).getD 0≠h.2.1):X4 U b=11:=by
 unfold X4;rw[if_neg];intro hall;have:=List.all_eq_true.1 hall h hm;simp only[decide_eq_true_eq]at this;exact hne this
theorem Qf6 {U:Use→Option Int}{b:Qr}(h:∀x∈b.2,(U (b.1,x.1)).getD 0=x.2.1):X4 U b=0:=by
 unfold X4;rw[if_pos (List.all_eq_true.2 fun x hx=>by simp only[decide_eq_true_eq];exact h x hx)]
def Qmd (a:Nat→Addr)(w:World)(c:Int)(e:Ending)(w':World):Prop:=∃ev,e=.returned ev∧((c=0∧ev=.nilIface)∨(c=11∧ev=sentV a 10))∧Below w.heap.size w w'
theorem Qjz (a:Nat→Addr)(vb:Value)(bs:List Qr)(at':Nat)(w:World)(hat:at'<bs.length)(mf mu nF nU:Nat)(F:Nat×Int→Option Int)(U:Use→Option Int)
 (hv:Y3 w vb bs)(hbl:bs.length≤100)(hll:∀b∈bs,b.2.length≤1000)(hwf:∀b∈bs,Zv b.1∧∀h∈b.2,Zv h.1)(hord:∀(h:0<at'),Qo bs[at' - 1].1 bs[at'].1=true)
 (hpos:(F bs[at'].1).getD 0≠0)(hids:∀h∈bs[at'].2,h.1=Qc h.2.2∧h.2.2.length≤1000)(hrise:Y7 bs[at'].2)(hE:Je [10] w a)
 (hF:Kh.Fn w mf nF F)(hU:Jq.Fn w mu nU U) :
 Calls Tryz.prog 87 #[.agg #[.map (some mf),.map (some mu)],vb,.int .i64 at'] w (Qmd a w (X4 U bs[at'])):=by
 obtain⟨pa,ca,rfl,hcell⟩:=hv;obtain⟨b,o,vi,rfl,hL⟩:=hcell at' hat;have HEE:Hid (∀W,Below w.heap.size w W→Je [10] W a):=fun W hb=>hE.below hb wz;have HPR:Hid (∀(h:0<at') W,Below w.heap.size w W→W.cell? ⟨b,o+(at' - 1)*3,none⟩=some (.int .u32 (bs[at' - 1].1.1:Nat))∧W.cell? ⟨b,o+(at' - 1)*3+1,none⟩=some (.int .i64 bs[at' - 1].1.2)):=fun h W hb=>by
  obtain⟨b',o',vi',hp,hL'⟩:=hcell (at' - 1) (by omega);obtain⟨rfl,rfl⟩:b=b'∧o=o':=by simpa using hp
  exact⟨(hL'.below hb).c0,(hL'.below hb).c1⟩
 have HF:Hid (∀W,Below w.heap.size w W→Kh.Fn W mf nF F):=fun W hb=>hF.below hb;have HU:Hid (∀W,Below w.heap.size w W→Jq.Fn W mu nU U):=fun W hb=>hU.below hb;have hat':(at':Int)<(bs.length:Int):=by omega
 have hat0:(0:Int)≤(at':Int):=by omega
 have hbl':(bs.length:Int)≤100:=by omega
 have HORD:=Qa hord;have HHD:Hid (∀W,Below w.heap.size w W→Q4 W vi bs[at'].2):=fun W hb=>(hL.below hb).helds;have HW:=Qa (hwf bs[at'] (List.getElem_mem hat));have HLL:=Qa (hll bs[at'] (List.getElem_mem hat));have HPOS:=Qa hpos;have HIDS:=Qa hids;have HRISE:=Qa hrise;obtain⟨ph,ch,hvi,_⟩:=hL.helds;have c0:=hL.c0;have c1:=hL.c1;have c2:=hL.c2;obtain⟨⟨⟨rp,rl⟩,l⟩,hx⟩:∃x,bs[at']=x:=⟨_,rfl⟩;rw[hx]at c0 c1 HHD HW HLL HPOS HIDS HRISE HORD hvi ⊢;simp only at c0 c1 HHD HW HLL HPOS HIDS HRISE HORD hvi;subst hvi;have hll':(l.length:Int)≤1000:=by have:=HLL.out;omega
 obtain⟨RES,hRES⟩:∃RES,X4 U ((rp,rl),l)=RES:=⟨_,rfl⟩;have HRES:=Qa hRES;rw[hRES];clear hF hU hwf hpos hids hrise hord hE hL hcell hx hll hRES;have hal1:=(Below.refl _ w).alloc wz (.cells #[.map (some mf),.map (some mu)] 138);have hbc:=Blk.new w #[.map (some mf),.map (some mu)] 138;obtain⟨W1,hW1⟩:∃W1,w.alloc (.cells #[.map (some mf),.map (some mu)] 138)=W1:=⟨_,rfl⟩;rw[hW1]at hal1 hbc;have hs1:W1.heap.size=w.heap.size+1:=by rw[←hW1];simp
 have d0:=(hal1.cell (p:=⟨b,o+at' * 3,none⟩) (lt_of_cell c0)).trans c0;have d1:=(hal1.cell (p:=⟨b,o+at' * 3+1,none⟩) (lt_of_cell c0)).trans c1;have d2:=(hal1.cell (p:=⟨b,o+at' * 3+2,none⟩) (lt_of_cell c0)).trans c2;have hal2:=(Below.refl _ W1).alloc wz (.cells #[.int .u32 (rp:Nat),.int .i64 rl,.slice ph l.length ch] 60);have hbr:=Blk.new W1 #[.int .u32 (rp:Nat),.int .i64 rl,.slice ph l.length ch] 60;rw[hs1]at hbr;have HBC:=Qa (hbc.next hal2);have HBR:=Qa hbr;have HB2:Hid (Below w.heap.size w _):=Qa (hal1.trans (hal2.mono hal1.size));rw[←hW1]at d0 d1 d2;rw[←hW1]at HBC HBR HB2;clear hal1 hal2 hbc hbr hs1 c0 c1 c2 hW1;go_enter Tryz.func87,Tryz.ntmps87;go_wp2_with fail;clear d0 d1 d2;generalize ((w.alloc (.cells #[.map (some mf),.map (some mu)] 138)).alloc (.cells #[.int .u32 (rp:Nat),.int .i64 rl,.slice ph l.length ch] 60))=W2 at *;have HSZ:Hid (w.heap.size+1<W2.heap.size):=HBR.out.lt;obtain⟨CB,hCB⟩:∃CB,w.heap.size=CB:=⟨_,rfl⟩;obtain⟨LB,hLB⟩:∃LB,w.heap.size+1=LB:=⟨_,rfl⟩;rw[hLB]at HBR HSZ ⊢;rw[hCB]at HBC ⊢;clear hLB hCB;by_cases h0:0<at'
 case' pos=>
  have h0':(0:Int)<(at':Int):=by omega
  have hle:=HORD.out h0;obtain⟨p0,p1⟩:=HPR.out h0 W2 HB2.out;have HPW:Hid (∀W,Below w.heap.size w W→W.cell? ⟨b,o+(at' - 1)*3,none⟩=some (.int .u32 (bs[at' - 1].1.1:Nat))∧W.cell? ⟨b,o+(at' - 1)*3+1,none⟩=some (.int .i64 bs[at' - 1].1.2)):=fun W hb=>HPR.out h0 W hb;obtain⟨⟨⟨qp,ql⟩,l'⟩,hy⟩:∃y,bs[at' - 1]=y:=⟨_,rfl⟩;rw[hy]at p0 p1 hle HPW;simp only at p0 p1 hle HPW;obtain⟨m,hkm⟩:∃m,at' - 1=m:=⟨_,rfl⟩;rw[hkm]at p0 p1 HPW;have HLE:Hid ((if (qp:Int)=(rp:Int) then decide (ql<rl) else decide ((qp:Int)<(rp:Int)))=true):=hle
  clear hle hy;have hm0:((m:Int))<(bs.length:Int):=by omega
  have hm2:(0:Int)≤(m:Int):=by omega
  have hm3:IntKind.i64.wrap ((at':Int) - 1)=(m:Int):=by rw[IntKind.wrap_i64];omega
  have k0:=HBR.out.cell (i:=0) rfl;have k1:=HBR.out.cell (i:=1) rfl
  go_region_held3 (fun w'=>w'.cell? ⟨b,o+m*3,none⟩=some (.int .u32 (qp:Nat))∧w'.cell? ⟨b,o+m*3+1,none⟩=some (.int .i64 ql)∧w'.cell? ⟨LB,0,none⟩=some (.int .u32 (rp:Nat))∧w'.cell? ⟨LB,1,none⟩=some (.int .i64 rl)) (first|exact⟨(HPW.out _ HBc.out).1,(HPW.out _ HBc.out).2,HBRc.out.cell (i:=0) rfl,HBRc.out.cell (i:=1) rfl⟩|go_keep) (first
   | (go_at_call 110;refine(Kn qp ql rp rl _).mono ?_;rintro e Wc ⟨rfl,hbc⟩;rw[HLE.out];have hBc:Below W2.heap.size W2 Wc:=(Below.refl _ W2).drew.trans hbc;have HBCc:=Qa (HBC.out.next hBc);have HBRc:=Qa (HBR.out.next hBc);have HBc:Hid (Below w.heap.size w Wc):=HB2.out.trans (hBc.mono HB2.out.size);clear hbc hBc))
  clear p0 p1 k0 k1 hm0 hm2 hm3 HBC HBR HB2
 case' neg=>
  have h0':¬(0:Int)<(at':Int):=by omega
  go_quiet (fail);have hdr:=Qe (grown_drewN W2 nq);have HBCc:=Qa (HBC.out.next hdr);have HBRc:=Qa (HBR.out.next hdr);have HBc:Hid (Below w.heap.size w _):=Qa (HB2.out.trans (hdr.mono HB2.out.size));clear hdr HBC HBR HB2;generalize W2.drewN nq=Wc at *
 all_goals
  have e0:=HBCc.out.cell (i:=0) rfl;have e1:=HBCc.out.cell (i:=1) rfl;have k0:=HBRc.out.cell (i:=0) rfl;have k1:=HBRc.out.cell (i:=1) rfl;have k2:=HBRc.out.cell (i:=2) rfl;have l0:=(HF.out _ HBc.out).look1 Tryz.underlying135 (Gl _) HW.out.1;change(Instr.lookup 135 (.map (some mf)) (idV (rp:Nat) rl) false).run Tryz.prog _=.ok (.int .i64 ((F (rp,rl)).getD 0)) _ at l0;have hz:((F (rp,rl)).getD 0==0)=false:=beq_eq_false_iff_ne.2 HPOS.out;obtain⟨n0,hn0⟩:∃n0,(F (rp,rl)).getD 0=n0:=⟨_,rfl⟩;rw[hn0]at l0 hz;clear hn0;go_wp2_with fail;clear e0 e1 k0 k1 k2 l0 hz
  go_loopw [39] (fun iv wr=>∃(k:Nat),k≤l.length∧iv=.int .i64 k∧Hid (∀x∈l.take k,(U ((rp,rl),x.1)).getD 0=x.2.1)∧Hid (Blk wr CB #[.map (some mf),.map (some mu)] 138)∧Hid (Blk wr LB #[.int .u32 (rp:Nat),.int .i64 rl,.slice ph l.length ch] 60)∧Hid (Below w.heap.size w wr)) (fun iv _=>l.length - (intOf iv).toNat)
  case atStart=>exact⟨0,Nat.zero_le _,rfl,fun x hx=>by simp at hx,HBCc.out,HBRc.out,HBc.out⟩
  case round=>
   clear HBCc HBRc HBc;obtain⟨k,hk,rfl,HALL,HBC0,HBR0,HB0⟩:=hrel;by_cases hlt:k<l.length
   ·have hlt':(k:Int)<(l.length:Int):=(by omega);have hk0:(0:Int)≤(k:Int):=(by omega);obtain⟨_,_,hve,hcell⟩:=HHD.out wr HB0.out;obtain⟨rfl,rfl⟩:ph=_∧ch=_:=(by simpa using hve);obtain⟨b2,o2,rfl,_,d0,d1,d2,d3⟩:=hcell k hlt;have HPV:Hid (∀(h:0<k) W,Below w.heap.size w W→W.cell? ⟨b2,o2+(k - 1)*4,none⟩=some (.int .u32 ((l[k - 1]'(by omega)).1.1:Nat))∧W.cell? ⟨b2,o2+(k - 1)*4+1,none⟩=some (.int .i64 (l[k - 1]'(by omega)).1.2)):=fun h W hb=>by obtain⟨_,_,hve',hcell'⟩:=HHD.out W hb;obtain⟨b',o',hp',_,z0,z1,_⟩:=hcell' (k - 1) (by omega);simp only[Value.slice.injEq]at hve';rw[←hve'.1]at hp';simp only[Option.some.injEq,Addr.mk.injEq]at hp';obtain⟨rfl,rfl,_⟩:=hp';exact⟨z0,z1⟩
    have HRS:Hid (∀(h:0<k),Qo (l[k - 1]'(by omega)).1 l[k].1=true):=fun h=>by have:=HRISE.out;unfold Y7 at this;rw[List.pairwise_iff_getElem]at this;exact this (k - 1) k (by omega) hlt (by omega)
    have HTK:=Qa (List.take_succ_eq_append_getElem hlt);have HMX:=Qa (List.getElem_mem hlt);have HIX:=Qa (HIDS.out l[k] (List.getElem_mem hlt));have HXW:=Qa (HW.out.2 l[k] (List.getElem_mem hlt));obtain⟨⟨⟨xp,xl⟩,u,t⟩,hy⟩:∃y,l[k]=y:=⟨_,rfl⟩;rw[hy]at d0 d1 d2 d3 HTK HMX HIX HXW HRS;simp only at d0 d1 d2 d3 HIX HXW HRS;obtain⟨TX,hT⟩:∃TX:ByteArray,(⟨t.toArray⟩:ByteArray)=TX:=⟨_,rfl⟩;rw[hT]at d3;have HTT:Hid (TX.data.toList=t):=(by show _=_;rw[←hT]);have HTM:Hid (TX.size≤maxLen):=(by show _≤_;have:TX.data.toList.length=TX.size:=(by rw[Array.length_toList];rfl);rw[HTT.out]at this;have:=HIX.out.2;unfold maxLen;omega);have HP1:Hid (pmore 2166136261 TX.data.toList=xp):=(by rw[HTT.out];exact(congrArg Prod.fst HIX.out.1).symm);have HP2:Hid ((TX.size:Int)=xl):=(by have h1:TX.data.toList.length=TX.size:=(by rw[Array.length_toList];rfl);have h2:xl=((t.length:Nat):Int):=congrArg Prod.snd HIX.out.1;rw[HTT.out]at h1;show _=_;omega);clear hT hy hcell hve;have hal:=(Below.refl _ wr).alloc wz (.cells #[.int .u32 (xp:Nat),.int .i64 xl,.int .i64 u,.string TX] 78);have HHB:=Qa (Blk.new wr #[.int .u32 (xp:Nat),.int .i64 xl,.int .i64 u,.string TX] 78);have HBC1:=Qa (HBC0.out.next hal);have HBR1:=Qa (HBR0.out.next hal);have HB1:Hid (Below w.heap.size w _):=Qa (HB0.out.trans (hal.mono HB0.out.size));clear hal HBC0 HBR0 HB0;go_wp2_with fail;clear d0 d1 d2 d3;generalize wr.alloc (.cells #[.int .u32 (xp:Nat),.int .i64 xl,.int .i64 u,.string TX] 78)=V1 at *;generalize wr.heap.size=HB9 at *;have HCE:Hid (∀W',Blk W' HB9 #[.int .u32 (xp:Nat),.int .i64 xl,.int .i64 u,.string TX] 78→W'.cell? ⟨HB9,0,none⟩=some (.int .u32 (xp:Nat))∧W'.cell? ⟨HB9,1,none⟩=some (.int .i64 xl)∧W'.cell? ⟨HB9,3,none⟩=some (.string TX)):=fun W' h=>⟨h.cell (i:=0) rfl,h.cell (i:=1) rfl,h.cell (i:=3) rfl⟩;obtain⟨y0,y1,y3⟩:=HCE.out V1 HHB.out
    go_region_held3 (fun w'=>w'.cell? ⟨HB9,0,none⟩=some (.int .u32 (xp:Nat))∧w'.cell? ⟨HB9,1,none⟩=some (.int .i64 xl)∧w'.cell? ⟨HB9,3,none⟩=some (.string TX)) (first|exact HCE.out _ HHB2.out|go_keep) (first
     | (go_at_call 168;refine(Y0 TX _ HTM.out).mono ?_;rintro e v2 ⟨rfl,hb2⟩;rw[HP1.out,HP2.out];have hB2:Below V1.heap.size V1 v2:=(Below.refl _ V1).drew.trans hb2;have HHB2:=Qa (HHB.out.next hB2);have HBC2:=Qa (HBC1.out.next hB2);have HBR2:=Qa (HBR1.out.next hB2);have HB2':Hid (Below w.heap.size w v2):=HB1.out.trans (hB2.mono HB1.out.size);clear hb2 hB2))
    clear y0 y1 y3 HHB HBC1 HBR1 HB1;by_cases hkp:0<k
    ·have hkp':(0:Int)<(k:Int):=(by omega);have hle:=HRS.out hkp;obtain⟨p0,p1⟩:=HPV.out hkp v2 HB2'.out;have HPW:Hid (∀W,Below w.heap.size w W→W.cell? ⟨b2,o2+(k - 1)*4,none⟩=some (.int .u32 ((l[k - 1]'(by omega)).1.1:Nat))∧W.cell? ⟨b2,o2+(k - 1)*4+1,none⟩=some (.int .i64 (l[k - 1]'(by omega)).1.2)):=fun W hb=>HPV.out hkp W hb;obtain⟨⟨⟨yp,yl⟩,u',t'⟩,hy⟩:∃y,l[k - 1]'(by omega)=y:=⟨_,rfl⟩;rw[hy]at p0 p1 hle HPW;simp only at p0 p1 hle HPW;obtain⟨m,hkm⟩:∃m,k - 1=m:=⟨_,rfl⟩;rw[hkm]at p0 p1 HPW;have HLE:Hid ((if (yp:Int)=(xp:Int) then decide (yl<xl) else decide ((yp:Int)<(xp:Int)))=true):=hle
     clear hle hy HPV HRS;have hm0:((m:Int))<(l.length:Int):=(by omega);have hm2:(0:Int)≤(m:Int):=(by omega);have hm3:IntKind.i64.wrap ((k:Int) - 1)=(m:Int):=(by rw[IntKind.wrap_i64];omega);have k2:=HBR2.out.cell (i:=2) rfl;have m0:=HHB2.out.cell (i:=0) rfl;have m1:=HHB2.out.cell (i:=1) rfl;go_wp2_with fail
     go_region_held3 (fun w'=>w'.cell? ⟨LB,2,none⟩=some (.slice (some ⟨b2,o2,none⟩) l.length ch)∧w'.cell? ⟨b2,o2+m*4,none⟩=some (.int .u32 (yp:Nat))∧w'.cell? ⟨b2,o2+m*4+1,none⟩=some (.int .i64 yl)∧w'.cell? ⟨HB9,0,none⟩=some (.int .u32 (xp:Nat))∧w'.cell? ⟨HB9,1,none⟩=some (.int .i64 xl)) (first|exact⟨HBR3.out.cell (i:=2) rfl,(HPW.out _ HB3.out).1,(HPW.out _ HB3.out).2,HHB3.out.cell (i:=0) rfl,HHB3.out.cell (i:=1) rfl⟩|go_keep) (first
      | (go_at_call 110;refine(Kn yp yl xp xl _).mono ?_;rintro e w3 ⟨rfl,hb3⟩;rw[HLE.out];have hB3:Below v2.heap.size v2 w3:=(Below.refl _ v2).drew.trans hb3;have HHB3:=Qa (HHB2.out.next hB3);have HBC3:=Qa (HBC2.out.next hB3);have HBR3:=Qa (HBR2.out.next hB3);have HB3:Hid (Below w.heap.size w w3):=HB2'.out.trans (hB3.mono HB2'.out.size);clear hb3 hB3))
     clear p0 p1 k2 m0 m1 hm0 hm2 hm3 HHB2 HBC2 HBR2 HB2';have e1:=HBC3.out.cell (i:=1) rfl;have k0:=HBR3.out.cell (i:=0) rfl;have k1:=HBR3.out.cell (i:=1) rfl;have m0:=HHB3.out.cell (i:=0) rfl;have m1:=HHB3.out.cell (i:=1) rfl;have m2:=HHB3.out.cell (i:=2) rfl;have hBd:Below w.heap.size w w3.drew:=HB3.out.trans ((Below.refl _ w3).drew.mono HB3.out.size);have lu:=(HU.out _ hBd).look1 Tryz.underlying136 (Gl _) (x:=((rp,rl),(xp,xl))) ⟨HW.out.1,HXW.out⟩;change(Instr.lookup 136 (.map (some mu)) (.agg #[.int .u32 (rp:Nat),.int .i64 rl,.int .u32 (xp:Nat),.int .i64 xl]) false).run Tryz.prog _=.ok (.int .i64 ((U ((rp,rl),(xp,xl))).getD 0)) _ at lu;obtain⟨nu,hnu⟩:∃nu,(U ((rp,rl),(xp,xl))).getD 0=nu:=⟨_,rfl⟩;have HNU:=Qa hnu;rw[hnu]at lu;have HBD:=Qa hBd;have HBC5:Hid (Blk w3.drew CB #[.map (some mf),.map (some mu)] 138):=HBC3.out;have HBR5:Hid (Blk w3.drew LB #[.int .u32 (rp:Nat),.int .i64 rl,.slice (some ⟨b2,o2,none⟩) l.length ch] 60):=HBR3.out;clear hnu hBd;by_cases hq:nu=u
     ·subst hq;have HALL2:Hid (∀x∈l.take (k+1),(U ((rp,rl),x.1)).getD 0=x.2.1):=fun x hx=>by
       rw[HTK.out]at hx;rcases List.mem_append.1 hx with hx|hx
       ·exact HALL.out x hx
       ·rw[List.mem_singleton.1 hx];exact HNU.out
      go_wp2_with fail;go_region
      all_goals
       go_wp2_with fail;go_roundw
       case rel=>exact⟨k+1,hlt,by go_num,HALL2.out,HBC5.out,HBR5.out,HBD.out⟩
       case measure=>simp[intOf];omega
     ·have hqn:(nu==u)=false:=beq_eq_false_iff_ne.2 hq;have HR:Hid (RES=11):=(by show _=_;rw[←HRES.out];exact Qec (b:=((rp,rl),l)) HMX.out (by simp only;rw[HNU.out];exact hq));have g10:=(HEE.out _ HBD.out).glob 10 rfl;change World.cell? _ ⟨10,0,none⟩=_ at g10;clear hq;go_wp2_with fail;go_region
      all_goals
       go_wp2_with fail;go_ret;exact⟨_,rfl,.inr ⟨HR.out,rfl⟩,HBD.out⟩
    ·have hk1:k=0:=(by omega);subst hk1;clear HPV HRS;go_wp2_with fail;go_quiet (fail);have hdr:=Qe (grown_drewN v2 nq);have HHB3:=Qa (HHB2.out.next hdr);have HBC3:=Qa (HBC2.out.next hdr);have HBR3:=Qa (HBR2.out.next hdr);have HB3:Hid (Below w.heap.size w _):=Qa (HB2'.out.trans (hdr.mono HB2'.out.size));clear hdr HHB2 HBC2 HBR2 HB2';generalize v2.drewN nq=w3 at *;have e1:=HBC3.out.cell (i:=1) rfl;have k0:=HBR3.out.cell (i:=0) rfl;have k1:=HBR3.out.cell (i:=1) rfl;have m0:=HHB3.out.cell (i:=0) rfl;have m1:=HHB3.out.cell (i:=1) rfl;have m2:=HHB3.out.cell (i:=2) rfl;have hBd:Below w.heap.size w w3.drew:=HB3.out.trans ((Below.refl _ w3).drew.mono HB3.out.size);have lu:=(HU.out _ hBd).look1 Tryz.underlying136 (Gl _) (x:=((rp,rl),(xp,xl))) ⟨HW.out.1,HXW.out⟩;change(Instr.lookup 136 (.map (some mu)) (.agg #[.int .u32 (rp:Nat),.int .i64 rl,.int .u32 (xp:Nat),.int .i64 xl]) false).run Tryz.prog _=.ok (.int .i64 ((U ((rp,rl),(xp,xl))).getD 0)) _ at lu;obtain⟨nu,hnu⟩:∃nu,(U ((rp,rl),(xp,xl))).getD 0=nu:=⟨_,rfl⟩;have HNU:=Qa hnu;rw[hnu]at lu;have HBD:=Qa hBd;have HBC5:Hid (Blk w3.drew CB #[.map (some mf),.map (some mu)] 138):=HBC3.out;have HBR5:Hid (Blk w3.drew LB #[.int .u32 (rp:Nat),.int .i64 rl,.slice (some ⟨b2,o2,none⟩) l.length ch] 60):=HBR3.out;clear hnu hBd;by_cases hq:nu=u
     ·subst hq;have HALL2:Hid (∀x∈l.take (0+1),(U ((rp,rl),x.1)).getD 0=x.2.1):=fun x hx=>by
       rw[HTK.out]at hx;rcases List.mem_append.1 hx with hx|hx
       ·exact HALL.out x hx
       ·rw[List.mem_singleton.1 hx];exact HNU.out
      go_wp2_with fail;go_region
      all_goals
       go_wp2_with fail;go_roundw
       case rel=>exact⟨0+1,hlt,by go_num,HALL2.out,HBC5.out,HBR5.out,HBD.out⟩
       case measure=>simp[intOf];omega
     ·have hqn:(nu==u)=false:=beq_eq_false_iff_ne.2 hq;have HR:Hid (RES=11):=(by show _=_;rw[←HRES.out];exact Qec (b:=((rp,rl),l)) HMX.out (by simp only;rw[HNU.out];exact hq));have g10:=(HEE.out _ HBD.out).glob 10 rfl;change World.cell? _ ⟨10,0,none⟩=_ at g10;clear hq;go_wp2_with fail;go_region
      all_goals
       go_wp2_with fail;go_ret;exact⟨_,rfl,.inr ⟨HR.out,rfl⟩,HBD.out⟩
   ·have hge:(l.length:Int)≤(k:Int):=(by omega);rw[List.take_of_length_le (by omega)]at HALL;have HR:Hid (RES=0):=(by show _=_;rw[←HRES.out];exact Qf6 (b:=((rp,rl),l)) HALL.out);go_wp2_with fail;go_ret;exact⟨_,rfl,.inl ⟨HR.out,rfl⟩,HB0.out⟩
def cF (f:Nat×Int→Option Int):List Rcp→Nat×Int→Option Int
 | []=>f
 | r::l=>cF (bump f (Qv r)) l
def cU (f:Use→Option Int):List Rcp→Use→Option Int
 | []=>f
 | r::l=>cU (Jd f (Qv r) r.2.2.2) l
theorem Qox (r:Rcp):∀(l:List Rcp) (f:Nat×Int→Option Int),cF f (l++[r])=bump (cF f l) (Qv r)
 | [],_=>rfl
 | x::l,f=>Qox r l (bump f (Qv x))
theorem Qo6 (r:Rcp):∀(l:List Rcp) (f:Use→Option Int),cU f (l++[r])=Jd (cU f l) (Qv r) r.2.2.2
 | [],_=>rfl
 | x::l,f=>Qo6 r l (Jd f (Qv x) x.2.2.2)
theorem Qo4:∀(l:List Rcp) (f:Nat×Int→Option Int) (y:Nat×Int),(cF f l y).isSome=(f y).isSome
 | [],_,_=>rfl
 | x::l,f,y=>by rw[cF,Qo4 l,Qh8]
theorem Qph:∀(l:List Rcp) (f:Use→Option Int) (y:Use),(cU f l y).isSome=(f y).isSome
 | [],_,_=>rfl
 | x::l,f,y=>by rw[cU,Qph l,Vf]
theorem Qvm:∀(l:List Rcp) {f:Nat×Int→Option Int} {B:Int},(∀y c,f y=some c→0≤c∧c≤B)→∀y c,cF f l y=some c→0≤c∧c≤B+l.length
 | [],f,B,h,y,c,hy=>by have:=h y c hy;simp only[List.length_nil];omega
 | x::l,f,B,h,y,c,hy=>by have:=Qvm l (Qo7 (x:=Qv x) h) y c hy;simp only[List.length_cons];omega
theorem Qvp:∀(l:List Rcp) {f:Use→Option Int} {B:Int},(∀r∈l,r.2.2.2.length≤250)→(∀y c,f y=some c→0≤c∧c≤B)→∀y c,cU f l y=some c→0≤c∧c≤B+250*l.length
 | [],f,B,_,h,y,c,hy=>by have:=h y c hy;simp only[List.length_nil];omega
 | x::l,f,B,hl,h,y,c,hy=>by have h1:=Qvp l (fun r hr=>hl r (List.mem_cons_of_mem _ hr)) (Qcf (Qv x) x.2.2.2 h) y c hy;have h2:=hl x (List.mem_cons_self ..);simp only[List.length_cons];omega
theorem Qhv {F F':Nat×Int→Option Int}{U U':Use→Option Int}(hF:∀y,(F' y).isSome=(F y).isSome)(hU:∀y,(U' y).isSome=(U y).isSome)(r:Rcp):Xc F' U' r=Xc F U r:=by
 unfold Xc;rw[hF];simp only[hU]
theorem Qsk (bs:List Qr):∀y c,Jk bs y=some c→0≤c∧c≤0:=fun y c h=>by
 unfold Jk at h;split at h
 ·cases h;omega
 ·cases h
theorem Qsm (bs:List Qr):∀y c,Jp bs y=some c→0≤c∧c≤0:=fun y c h=>by
 unfold Jp at h;split at h
 ·cases h
 ·split at h
  ·cases h;omega
  ·cases h
structure FilesIn (fs:List Rcp):Prop where
 fmany:fs.length≤30
 good:∀r∈fs,Qb r.1 r.2.1 r.2.2.2=(0,-1)
 flen:∀r∈fs,r.2.2.2.length≤250
 forder:∀i (h:i<fs.length) (h0:0<i),(fs[i - 1]'(by omega)).1<fs[i].1
 fname:∀r∈fs,r.1.length≤50000
 fwf:∀r∈fs,(∀i∈r.2.2.2,Zv i)∧Zv (Qv r)
structure Qi9 (fs:List Rcp)(bs:List Qr):Prop extends FilesIn fs where
 fadd:∀r∈fs,Xc (Jk bs) (Jp bs) r=0
 bmany:bs.length≤100
 blen:∀b∈bs,b.2.length≤1000
 bwf:∀b∈bs,Zv b.1∧∀h∈b.2,Zv h.1
 border:∀i (h:i<bs.length) (h0:0<i),Qo (bs[i - 1]'(by omega)).1 bs[i].1=true
 bpos:∀b∈bs,(cF (Jk bs) fs b.1).getD 0≠0
 bids:∀b∈bs,∀h∈b.2,h.1=Qc h.2.2∧h.2.2.length≤1000
 brise:∀b∈bs,Y7 b.2
structure CkI (w0:World)(bs:List Qr)(fs:List Rcp)(vf vb:Value)(CB FX BX mf mu:Nat)(k:Nat)(W:World):Prop where
 below:Below w0.heap.size w0 W
 cb:Blk W CB #[.map (some mf),.map (some mu)] 138
 fx:Blk W FX #[vf] 31
 bx:Blk W BX #[vb] 54
 f:Kh.Fn W mf (100+k) (cF (Jk bs) (fs.take k))
 u:Jq.Fn W mu (100000+250*k) (cU (Jp bs) (fs.take k))
 new:w0.heap.size≤mf∧w0.heap.size≤mu∧mf≠mu
 apart:(CB≠mf∧CB≠mu)∧(FX≠mf∧FX≠mu)∧(BX≠mf∧BX≠mu)
theorem CkI.next {w0:World}{bs:List Qr}{fs:List Rcp}{vf vb:Value}{CB FX BX mf mu k:Nat}{W W':World}(h:CkI w0 bs fs vf vb CB FX BX mf mu k W)(hb:Below W.heap.size W W'):CkI w0 bs fs vf vb CB FX BX mf mu k W':=
 ⟨h.below.trans (hb.mono h.below.size),h.cb.next hb,h.fx.next hb,h.bx.next hb,h.f.below hb,h.u.below hb,h.new,h.apart⟩
theorem Qn8 (a:Nat→Addr)(vf vb:Value)(fs:List Rcp)(bs:List Qr)(w0 W:World)(CB FX BX mf mu k:Nat)(hk:k<fs.length)(hR:FilesIn fs)(hv:Jo w0 vf fs)(hE:Je [1,2,3,4,6,8] w0 a)(hI:CkI w0 bs fs vf vb CB FX BX mf mu k W) :
 Calls Tryz.prog 84 (#[.int .i64 k] ++ #[.pointer (some ⟨CB,0,none⟩),.pointer (some ⟨FX,0,none⟩)]) W fun e w'=>∃ev,e=.returned ev∧qb a ev (Xc (Jk bs) (Jp bs) fs[k])∧W.heap.size≤w'.heap.size∧(Xc (Jk bs) (Jp bs) fs[k]=0→CkI w0 bs fs vf vb CB FX BX mf mu (k+1) w')∧Below w0.heap.size w0 w':=by
 have hfm:=hR.fmany;have hlen:=hR.flen fs[k] (List.getElem_mem hk);have HCF:=Qa (Qh1 a vf fs k w0 W hk mf mu (100+k) (100000+250*k) (cF (Jk bs) (fs.take k)) (cU (Jp bs) (fs.take k)) (250*k) hv hI.below ⟨hI.new.1,hI.new.2.1⟩ hfm (hR.good _ (List.getElem_mem hk)) (fun h=>hR.forder k hk h) hR.fname (hR.fwf _ (List.getElem_mem hk)).1 (hR.fwf _ (List.getElem_mem hk)).2 hE hI.new.2.2 (by omega) (by omega) ⟨by omega,by omega⟩
  (fun y c hy=>by have:=Qvm (fs.take k) (Qsk bs) y c hy;rw[List.length_take]at this;omega)
  (fun y c hy=>by have:=Qvp (fs.take k) (fun r hr=>hR.flen r (List.mem_of_mem_take hr)) (Qsm bs) y c hy;rw[List.length_take]at this;omega)
  hI.f hI.u)
 unfold Qcp at HCF;rw[Qhv (fun y=>Qo4 _ _ y) (fun y=>Qph _ _ y)]at HCF;obtain⟨AE,hAE⟩:∃AE,Xc (Jk bs) (Jp bs) fs[k]=AE:=⟨_,rfl⟩;rw[hAE]at HCF ⊢;clear hAE;have HI:=Qa hI;have HTK:=Qa (List.take_succ_eq_append_getElem hk);have HLEN:=Qa hlen;have c0:=hI.cb.cell (i:=0) rfl;have c1:=hI.cb.cell (i:=1) rfl;have f0:=hI.fx.cell (i:=0) rfl;obtain⟨pa,ca,rfl,_⟩:=hv;clear hI hR hE hlen;simp only[List.append_toArray,List.cons_append,List.nil_append];go_enter Tryz.func84,Tryz.ntmps84;go_wp2_with fail;refine HCF.out.mono ?_;rintro e w2 ⟨ev,rfl,hev,ho,hfu⟩;have HEV:=Qa hev;have HBW:Hid (Below w0.heap.size w0 w2):=HI.out.below.trans (ho.below HI.out.below.size (fun j hj e=>by have:=HI.out.new;rcases e with e|e<;>omega));have HSZ:=Qa ho.size;have HN:Hid (AE=0→CkI w0 bs fs (.slice pa fs.length ca) vb CB FX BX mf mu (k+1) w2):=fun h0=>by
  have h:=HI.out;obtain⟨hf,hu⟩:=hfu h0;refine⟨h.below.trans (ho.below h.below.size (fun j hj e=>by have:=h.new;rcases e with e|e<;>omega)),ho.blk h.cb (by rintro(e|e);exact h.apart.1.1 e;exact h.apart.1.2 e),ho.blk h.fx (by rintro(e|e);exact h.apart.2.1.1 e;exact h.apart.2.1.2 e),ho.blk h.bx (by rintro(e|e);exact h.apart.2.2.1 e;exact h.apart.2.2.2 e),?_,?_,h.new,h.apart⟩
  ·rw[HTK.out,Qox];exact hf
  ·rw[HTK.out,Qo6];exact hu.mono (by have:=HLEN.out;omega)
 clear hev hfu ho HCF;go_wp2_with fail;go_ret;exact⟨_,rfl,HEV.out,HSZ.out,HN.out,HBW.out⟩
theorem Qnm (a:Nat→Addr)(vf vb:Value)(fs:List Rcp)(bs:List Qr)(w0 W:World)(CB FX BX mf mu k:Nat)(hk:k<bs.length)(hR:Qi9 fs bs)(hv:Y3 w0 vb bs)(hE:Je [10] w0 a)(hI:CkI w0 bs fs vf vb CB FX BX mf mu fs.length W) :
 Calls Tryz.prog 86 (#[.int .i64 k] ++ #[.pointer (some ⟨CB,0,none⟩),.pointer (some ⟨BX,0,none⟩)]) W fun e w'=>∃ev,e=.returned ev∧((X4 (cU (Jp bs) fs) bs[k]=0∧ev=.nilIface)∨(X4 (cU (Jp bs) fs) bs[k]=11∧ev=sentV a 10))∧W.heap.size≤w'.heap.size∧CkI w0 bs fs vf vb CB FX BX mf mu fs.length w':=by have hI0:=hI;have hff:=hI.f;have huu:=hI.u;rw[List.take_length]at hff huu;have HCB:=Qa (Qjz a vb bs k W hk mf mu _ _ _ _ (hv.below hI.below) hR.bmany hR.blen hR.bwf (fun h=>hR.border k hk h) (hR.bpos _ (List.getElem_mem hk)) (hR.bids _ (List.getElem_mem hk)) (hR.brise _ (List.getElem_mem hk)) (hE.below hI.below wz) hff huu);have HI:=Qa hI;have c0:=hI.cb.cell (i:=0) rfl;have c1:=hI.cb.cell (i:=1) rfl;have f0:=hI.bx.cell (i:=0) rfl;obtain⟨pa,ca,rfl,_⟩:=hv;obtain⟨UE,hUE⟩:∃UE,X4 (cU (Jp bs) fs) bs[k]=UE:=⟨_,rfl⟩;rw[hUE]at HCB ⊢;unfold Qmd at HCB;clear hI hI0 hR hE hff huu hUE;simp only[List.append_toArray,List.cons_append,List.nil_append];go_enter Tryz.func86,Tryz.ntmps86;go_wp2_with fail;refine HCB.out.mono ?_;rintro e w2 ⟨ev,rfl,hev,hb⟩;have HEV:=Qa hev;have HN:=Qa (HI.out.next hb);have HS:=Qa hb.size;clear hev hb HCB;go_wp2_with fail;go_ret;exact⟨_,rfl,HEV.out,HS.out,HN.out⟩
def Y6 (fs:List Rcp)(bs:List Qr)(k:Nat):Int:=if h:k<bs.length then X4 (cU (Jp bs) fs) bs[k] else 0
theorem Qbk:∀(n k:Nat),Zc (fun _=>0) k n=none
 | 0,_=>rfl
 | n+1,k=>by rw[Zc,if_neg (by simp)];exact Qbk n (k+1)
theorem Qbs {err:Nat→Int}:∀{n k:Nat} {j:Nat},Zc err k n=some j→err j≠0
 | 0,_,_,h=>by cases h
 | n+1,k,j,h=>by
  rw[Zc]at h;split at h
  ·rename_i hk
   obtain rfl:=Option.some.inj h;exact hk
  ·exact Qbs h
def Kq (fe be:Nat→Int)(nf nb:Nat):Int×Int:=match Zc fe 0 nf with|none=>Zx be nb|some _=>Zx fe nf
theorem Qe7 (a:Nat→Addr)(vf vb:Value)(fs:List Rcp)(bs:List Qr)(w:World)(fe be:Nat→Int)(hfm':fs.length≤30)(hbm':bs.length≤100)(hbl:∀b∈bs,b.2.length≤1000)(hbw:∀b∈bs,Zv b.1∧∀h∈b.2,Zv h.1)(hf:Jo w vf fs)(hb:Y3 w vb bs)
 (h1:∀CB FX BX mf mu k W,k<fs.length→CkI w bs fs vf vb CB FX BX mf mu k W→Calls Tryz.prog 84 (#[.int .i64 k] ++ #[.pointer (some ⟨CB,0,none⟩),.pointer (some ⟨FX,0,none⟩)]) W fun e w'=>∃ev,e=.returned ev∧qb a ev (fe k)∧W.heap.size≤w'.heap.size∧(fe k=0→CkI w bs fs vf vb CB FX BX mf mu (k+1) w')∧Below w.heap.size w w')
 (h2:Zc fe 0 fs.length=none→∀CB FX BX mf mu k W,k<bs.length→CkI w bs fs vf vb CB FX BX mf mu fs.length W→Calls Tryz.prog 86 (#[.int .i64 k] ++ #[.pointer (some ⟨CB,0,none⟩),.pointer (some ⟨BX,0,none⟩)]) W fun e w'=>∃ev,e=.returned ev∧qb a ev (be k)∧W.heap.size≤w'.heap.size∧CkI w bs fs vf vb CB FX BX mf mu fs.length w') :
 Calls Tryz.prog 27 #[vf,vb] w fun e w'=>∃ev,e=.returned ev∧Qp w.heap.size w' a ev (Kq fe be fs.length bs.length)∧Below w.heap.size w w':=by
 have HBS:=Qa hb;have H1:=Qa h1;have H2:=Qa h2;have HBW:=Qa hbw;have HBN:=Qa hbl;have hfm:(fs.length:Int)≤30:=by omega
 have hbm:(bs.length:Int)≤100:=by omega
 obtain⟨pf,cf,hvf,_⟩:=hf;obtain⟨pb,cb,hvb,_⟩:=hb;subst hvf hvb;clear h1 h2 hbw hbl;have hal1:=(Below.refl _ w).alloc wz (.cells #[.slice pf fs.length cf] 31);have hb1:=Blk.new w #[.slice pf fs.length cf] 31;obtain⟨W1,hW1⟩:∃W1,w.alloc (.cells #[.slice pf fs.length cf] 31)=W1:=⟨_,rfl⟩;rw[hW1]at hal1 hb1;have hs1:W1.heap.size=w.heap.size+1:=by rw[←hW1];simp
 have hal2:=(Below.refl _ W1).alloc wz (.cells #[.slice pb bs.length cb] 54);have hb2:=Blk.new W1 #[.slice pb bs.length cb] 54;rw[hs1]at hb2;have HF2:=Qa (hb1.next hal2);have HB2:=Qa hb2;have HBL2:Hid (Below w.heap.size w _):=Qa (hal1.trans (hal2.mono hal1.size));have f0:=HF2.out.cell (i:=0) rfl;have b0:=HB2.out.cell (i:=0) rfl;rw[←hW1]at f0 b0;rw[←hW1]at HF2 HB2 HBL2;clear hal1 hb1 hs1 hal2 hb2 hW1;go_enter Tryz.func27,Tryz.ntmps27;go_wp2_with fail;generalize ((w.alloc (.cells #[.slice pf fs.length cf] 31)).alloc (.cells #[.slice pb bs.length cb] 54))=W2 at *;refine(Qqv (.slice pb bs.length cb) bs W2 (HBS.out.below HBL2.out) HBW.out hbm' HBN.out).mono ?_;rintro e w3 ⟨mf,mu,rfl,hF3,hU3,⟨hn1,hn2,hn3⟩,hb3⟩;have hal3:=(Below.refl _ w3).alloc wz (.cells #[.map (some mf),.map (some mu)] 138);have HC4:=Qa (Blk.new w3 #[.map (some mf),.map (some mu)] 138);have HB4:Hid (Below w.heap.size w _):=Qa ((HBL2.out.trans (hb3.mono HBL2.out.size)).trans (hal3.mono (Nat.le_trans HBL2.out.size hb3.size)));have HI4:Hid (CkI w bs fs (.slice pf fs.length cf) (.slice pb bs.length cb) w3.heap.size w.heap.size (w.heap.size+1) mf mu 0 (w3.alloc (.cells #[.map (some mf),.map (some mu)] 138))):=by have h1:=HF2.out.lt;have h2:=HB2.out.lt;have h3:=hF3.lt;have h4:=hU3.lt;have h5:=HBL2.out.size;exact⟨HB4.out,HC4.out,(HF2.out.next hb3).next hal3,(HB2.out.next hb3).next hal3,hF3.below hal3,hU3.below hal3,⟨by omega,by omega,hn1⟩,⟨by omega,by omega⟩,⟨by omega,by omega⟩,by omega,by omega⟩
 have f1:=HI4.out.fx.cell (i:=0) rfl;have b1:=HI4.out.bx.cell (i:=0) rfl;clear hF3 hU3 hn1 hn2 hn3 hb3 hal3 HC4 HF2 HB2 HBL2 f0 b0;go_wp2_with fail;clear f1 b1;generalize w3.alloc (.cells #[.map (some mf),.map (some mu)] 138)=W4 at *;generalize w3.heap.size=CB at *;refine(Qnd a #[.pointer (some ⟨CB,0,none⟩),.pointer (some ⟨w.heap.size,0,none⟩)] fs.length fe (fun W=>Below w.heap.size w W) (fun k W=>CkI w bs fs (.slice pf fs.length cf) (.slice pb bs.length cb) CB w.heap.size (w.heap.size+1) mf mu k W) W4 (by omega) HI4.out.below (fun W o h=>h.alloc h.size o) (fun k W hk hs hI=>(H1.out CB w.heap.size (w.heap.size+1) mf mu k W hk hI).mono fun e w' ⟨ev,h1,h2,h3,h4,h5⟩=>⟨ev,h1,h2,Nat.le_trans hs h3,h4,h5⟩) HI4.out).mono ?_;rintro e w5 ⟨ev5,rfl,he5,hi5,hj5⟩;cases hfe:Zc fe 0 fs.length with
 | some k=>
  have hc:=Qbs hfe;have hans:Kq fe be fs.length bs.length=Zx fe fs.length:=by unfold Kq;rw[hfe]
  have HE5:Hid (Qp w.heap.size w5 a ev5 (Kq fe be fs.length bs.length)):=by
   rw[hans];rcases he5 with h|h|⟨k1,pb1,po1,at1,h1,h2,h3,h4⟩
   ·exact .inl h
   ·exact .inr (.inl h)
   ·exact .inr (.inr ⟨k1,pb1,po1,at1,h1,Nat.le_trans HI4.out.below.size h2,h3,h4⟩)
  have hne:ev5≠.nilIface:=by
   rintro rfl;unfold Zx at he5;rw[hfe]at he5;rcases he5 with⟨_,h⟩|⟨k1,_,h,_⟩|⟨k1,pb1,po1,at1,_,_,h,_⟩
   ·exact hc (congrArg Prod.fst h)
   ·cases h
   ·cases h
  have HJ5:=Qa hj5;obtain⟨T5,A5,rfl⟩:∃T5 A5,ev5=.iface T5 A5:=by
   rcases he5 with⟨h,_⟩|⟨k1,_,h,_⟩|⟨k1,pb1,po1,at1,_,_,h,_⟩
   ·exact absurd h hne
   ·exact⟨_,_,h⟩
   ·exact⟨_,_,h⟩
  clear he5 hi5 hj5 hne hans hc;go_wp2_with fail;go_ret;exact⟨_,rfl,HE5.out,HJ5.out⟩
 | none=>
  have hans:Zx fe fs.length=(0,-1):=by unfold Zx;rw[hfe]
  rw[hans]at he5;obtain rfl:=he5.nil;have HI5:=Qa (hi5 hfe);have H2':=Qa (H2.out hfe);have hans2:Kq fe be fs.length bs.length=Zx be bs.length:=by unfold Kq;rw[hfe]
  have HA2:=Qa hans2;clear he5 hi5 hj5 hans HI4 HB4 hans2;have b1:=HI5.out.bx.cell (i:=0) rfl;have HSZ5:Hid (w.heap.size≤w5.heap.size):=HI5.out.below.size;go_wp2_with fail;refine(Qm8 a #[.pointer (some ⟨CB,0,none⟩),.pointer (some ⟨w.heap.size+1,0,none⟩)] bs.length be (fun W=>Below w.heap.size w W) (fun _ W=>CkI w bs fs (.slice pf fs.length cf) (.slice pb bs.length cb) CB w.heap.size (w.heap.size+1) mf mu fs.length W) w5 (by omega) HI5.out.below (fun W o h=>h.alloc h.size o) (fun k W hk hs hI=>(H2'.out CB w.heap.size (w.heap.size+1) mf mu k W hk hI).mono fun e w' ⟨ev,h1,h2,h3,h4⟩=>⟨ev,h1,h2,Nat.le_trans hs h3,fun _=>h4,h4.below⟩) HI5.out).mono ?_;rintro e w6 ⟨ev6,rfl,he6,_,hj6⟩;have HE6:Hid (Qp w.heap.size w6 a ev6 (Zx be bs.length)):=by
   rcases he6 with h|h|⟨k1,pb1,po1,at1,h1,h2,h3,h4⟩
   ·exact .inl h
   ·exact .inr (.inl h)
   ·exact .inr (.inr ⟨k1,pb1,po1,at1,h1,Nat.le_trans HSZ5.out h2,h3,h4⟩)
  have HJ6:=Qa hj6;clear he6 hj6 b1;go_wp2_with fail;go_ret;exact⟨_,rfl,by rw[HA2.out];exact HE6.out,HJ6.out⟩
def Qw3 (fs:List Rcp)(bs:List Qr)(k:Nat):Int:=if h:k<fs.length then Xc (Jk bs) (Jp bs) fs[k] else 0
theorem qw (a:Nat→Addr)(vf vb:Value)(fs:List Rcp)(bs:List Qr)(w:World)(hR:Qi9 fs bs)(hf:Jo w vf fs)(hb:Y3 w vb bs)(hE:Je [1,2,3,4,6,8,10] w a) :
 Calls Tryz.prog 27 #[vf,vb] w fun e w'=>∃ev,e=.returned ev∧Qp w.heap.size w' a ev (Zx (Y6 fs bs) bs.length)∧Below w.heap.size w w':=by
 refine(Qe7 a vf vb fs bs w (fun _=>0) (Y6 fs bs) hR.fmany hR.bmany hR.blen hR.bwf hf hb (fun CB FX BX mf mu k W hk hI => ?_) (fun _ CB FX BX mf mu k W hk hI => ?_)).mono ?_
 ·refine(Qn8 a vf vb fs bs w W CB FX BX mf mu k hk hR.toFilesIn hf (hE.sub (by decide)) hI).mono ?_;rw[hR.fadd _ (List.getElem_mem hk)];exact fun e w' h=>h
 ·refine(Qnm a vf vb fs bs w W CB FX BX mf mu k hk hR hb (hE.sub (by decide)) hI).mono ?_;rintro e w' ⟨ev,h1,h2,h3,h4⟩;have hbe:Y6 fs bs k=X4 (cU (Jp bs) fs) bs[k]:=by unfold Y6;rw[dif_pos hk]
  refine⟨ev,h1,?_,h3,h4⟩;rw[hbe];rcases h2 with⟨h2,h5⟩|⟨h2,h5⟩
  ·exact .inl ⟨h2,h5⟩
  ·exact .inr ⟨10,by decide,by rw[h2];rfl,h5⟩
 ·rintro e w' ⟨ev,h1,h2,h3⟩;have hans:Kq (fun _=>0) (Y6 fs bs) fs.length bs.length=Zx (Y6 fs bs) bs.length:=by unfold Kq;rw[Qbk]
  rw[hans]at h2;exact⟨ev,h1,h2,h3⟩
def Qpt (fs:List Rcp)(r i:Nat×Int):Int:=(fs.map fun x=>if Qv x=r then ((x.2.2.2.count i:Nat):Int) else 0).sum
def cntF (fs:List Rcp)(r:Nat×Int):Int:=(fs.map fun x=>if Qv x=r then (1:Int) else 0).sum
theorem Qfb (o:Option Int)(a b:Int):(o.map (· + a)).map (· + b)=o.map (· + (a+b)):=by
 cases o with
 | none=>rfl
 | some x=>simp only[Option.map_some];congr 1;omega
theorem Uj (o:Option Int):o.map (· + 0)=o:=by cases o<;>simp
theorem Qsx (f:Use→Option Int)(r0 x r i:Nat×Int):bump f (r0,x) (r,i)=(f (r,i)).map (· + if r0=r∧x=i then 1 else 0):=by
 unfold bump;by_cases e:(r,i)=(r0,x)
 ·obtain⟨e1,e2⟩:=Prod.mk.inj e;subst e1 e2;simp
 ·have hn:¬(r0=r∧x=i):=fun ⟨h1,h2⟩=>e (by rw[h1,h2]);rw[if_neg e,if_neg hn,Uj]
theorem Qed (r0 r i:Nat×Int):∀(l:List (Nat×Int)) (f:Use→Option Int),Jd f r0 l (r,i)=(f (r,i)).map (· + if r0=r then ((l.count i:Nat):Int) else 0)
 | [],f=>by
  have:(if r0=r then ((([]:List (Nat×Int)).count i:Nat):Int) else 0)=0:=by split<;>simp
  rw[Jd,this,Uj]
 | x::l,f=>by
  rw[Jd,Qed r0 r i l,Qsx,Qfb];congr 1
  funext y
  congr 1;rw[List.count_cons];by_cases e:r0=r
  ·by_cases e2:x=i
   ·simp[e,e2];omega
   ·have e3:(x==i)=false:=beq_eq_false_iff_ne.2 e2;simp[e,e2,e3]
  ·simp[e]
theorem Qrv (r i:Nat×Int):∀(fs:List Rcp) (f:Use→Option Int),cU f fs (r,i)=(f (r,i)).map (· + Qpt fs r i)
 | [],f=>by rw[cU];have:Qpt [] r i=0:=rfl;rw[this,Uj]
 | x::l,f=>by rw[cU,Qrv r i l,Qed,Qfb];congr 1
theorem Qt4 (r:Nat×Int):∀(fs:List Rcp) (f:Nat×Int→Option Int),cF f fs r=(f r).map (· + cntF fs r)
 | [],f=>by rw[cF];have:cntF [] r=0:=rfl;rw[this,Uj]
 | x::l,f=>by
  have hb:bump f (Qv x) r=(f r).map (· + if Qv x=r then 1 else 0):=by
   unfold bump;by_cases e:r=Qv x
   ·subst e;simp
   ·have e':¬Qv x=r:=fun h=>e h.symm;rw[if_neg e,if_neg e',Uj]
  rw[cF,Qt4 r l,hb,Qfb];congr 1
theorem Qou (r i:Nat×Int):∀(fl:List Qz),Qpt (fl.map rcpOf) r i=((((Yk fl r).map Qc).count i:Nat):Int)
 | []=>rfl
 | f::l=>by
  have ih:=Qou r i l;rw[Kk,List.map_append,List.count_append,Int.natCast_add,←ih];have e1:Qpt ((f::l).map rcpOf) r i=(if Qv (rcpOf f)=r then (((rcpOf f).2.2.2.count i:Nat):Int) else 0)+Qpt (l.map rcpOf) r i:=rfl
  rw[e1];congr 1;have e2:Qv (rcpOf f)=Qg f.2:=rfl;have e3:(rcpOf f).2.2.2=(pieces f.2).map Qc:=rfl;rw[e2,e3];by_cases e:Qg f.2=r
  ·simp[e]
  ·simp[e]
theorem Qud {fl:List Qz}{r:Nat×Int}(h:∃f∈fl,Qg f.2=r):0<cntF (fl.map rcpOf) r:=by
 have hall:∀l:List Qz,0≤cntF (l.map rcpOf) r:=by
  intro l
  induction l with
  | nil=>exact Int.le_refl _
  | cons f l ih=>
   have e1:cntF ((f::l).map rcpOf) r=(if Qv (rcpOf f)=r then (1:Int) else 0)+cntF (l.map rcpOf) r:=rfl
   rw[e1];split<;>omega
 induction fl with
 | nil=>obtain⟨f,hf,_⟩:=h;simp at hf
 | cons g l ih=>
  have e1:cntF ((g::l).map rcpOf) r=(if Qv (rcpOf g)=r then (1:Int) else 0)+cntF (l.map rcpOf) r:=rfl
  rw[e1];obtain⟨f,hf,e⟩:=h;have h0:=hall l;rcases List.mem_cons.1 hf with rfl|hf
  ·have e2:Qv (rcpOf f)=r:=e;rw[if_pos e2];omega
  ·have:=ih ⟨f,hf,e⟩;split<;>omega
theorem Qri {U:Int}{l:List Hd}{log:List (List UInt8)}(hok:Qd U l)(h:J5 l log){x:Hd}(hx:x∈l):(log.map Qc).count x.1=log.count x.2.2:=by
 have hiff:∀t∈log,(Qc t==x.1)=(t==x.2.2):=fun t ht=>by
  obtain⟨u,hu⟩:=h.has t ht;by_cases e:Qc t=x.1
  ·have:=V3 hok.rise hu hx e;rw[e,←this];simp
  ·have e2:¬t=x.2.2:=fun e2=>e (by rw[e2];exact(hok.each x hx).1.symm);rw[beq_eq_false_iff_ne.2 e,beq_eq_false_iff_ne.2 e2]
 rw[List.count,List.countP_map,List.count];exact List.countP_congr fun t ht=>by simp only[Function.comp];rw[hiff t ht]
theorem Qmw {s t:List UInt8}(h:t∈pieces s):Zv (Qc t):=by
 have:=Kv h;refine⟨Zr _ (by decide) _,?_,?_⟩
 ·show _≤((t.length:Nat):Int);omega
 ·show((t.length:Nat):Int)≤_;omega
theorem Qiy {U:Int}{l:List Hd}(hok:Qd U l){h:Hd}(hm:h∈l):Zv h.1:=by
 obtain⟨h1,h2,_⟩:=hok.each h hm;rw[h1];refine⟨Zr _ (by decide) _,?_,?_⟩
 ·show _≤((h.2.2.length:Nat):Int);omega
 ·show((h.2.2.length:Nat):Int)≤_;omega
theorem Qf5 {bl:List Qr}(hap:bl.Pairwise (fun f g=>f.1≠g.1)){r:Nat×Int}{l:List Hd}(hm:(r,l)∈bl){h:Hd}(hh:h∈l):Jp bl (r,h.1)=some 0:=by
 unfold Jp;rw[Zz hap hm];simp only;rw[if_pos (List.any_eq_true.2 ⟨h,hh,by simp⟩)]
theorem Qgc {bl:List Qr}{r:Nat×Int}{l:List Hd}(hm:(r,l)∈bl):Jk bl r=some 0:=by
 unfold Jk;rw[if_pos (List.any_eq_true.2 ⟨_,hm,by simp⟩)]
theorem Qlg {U:Int}{n:Nat}{st:NSt}(hI:Xh st)(hN:Xj st)(hok:NOk U n st)(hn:n≤100){fl:List Qz}{bl:List Qr}(hf:fl.Perm st.files)(hb:bl.Perm st.bins)(hfo:fl.Pairwise (fun f g=>f.1<g.1))(hbo:bl.Pairwise (fun b c=>Qo b.1 c.1=true)) :
 Qi9 (fl.map rcpOf) bl∧∀b∈bl,X4 (cU (Jp bl) (fl.map rcpOf)) b=0:=by
 have hap:bl.Pairwise (fun f g=>f.1≠g.1):=hbo.imp fun {_ _} h=>Kr h;have hfm:∀f∈fl,f∈st.files:=fun f h=>hf.mem_iff.1 h;have hbm:∀b∈bl,b∈st.bins:=fun b h=>hb.mem_iff.1 h;have hlog:∀b∈bl,J5 b.2 (Yk fl b.1):=fun b h=>(hI.log b (hbm b h)).perm (Ur hf.symm b.1);have hbin:∀f∈fl,∃l,(Qg f.2,l)∈bl:=fun f h=>by obtain⟨l,hl⟩:=hI.has f (hfm f h);exact⟨l,hb.mem_iff.2 hl⟩
 refine⟨⟨⟨?_,?_,?_,?_,?_,?_⟩,?_,?_,?_,?_,?_,?_,?_,?_⟩,fun b hb' => ?_⟩
 ·rw[List.length_map,hf.length_eq];exact hN.fmany
 ·intro r hr;obtain⟨f,hf',rfl⟩:=List.mem_map.1 hr;obtain⟨h1,h2⟩:=hok.files f (hfm f hf');exact Gd f.1 f.2 h2 h1
 ·intro r hr;obtain⟨f,hf',rfl⟩:=List.mem_map.1 hr;show(idsOf f.2).length≤250;rw[X6];exact U9 _ (hok.files f (hfm f hf')).1
 ·intro i hi h0;rw[List.length_map]at hi;simp only[List.getElem_map];rw[List.pairwise_iff_getElem]at hfo;exact hfo (i - 1) i (by omega) hi (by omega)
 ·intro r hr;obtain⟨f,hf',rfl⟩:=List.mem_map.1 hr;have:=Vu (hok.files f (hfm f hf')).2;show f.1.length≤50000;omega
 ·intro r hr;obtain⟨f,hf',rfl⟩:=List.mem_map.1 hr;refine⟨fun i hi => ?_,Gi f.2⟩;obtain⟨t,ht,rfl⟩:=List.mem_map.1 hi;exact Qmw ht
 ·intro r hr;obtain⟨f,hf',rfl⟩:=List.mem_map.1 hr;obtain⟨l,hl⟩:=hbin f hf';refine Qiz ?_ fun i hi => ?_
  ·show(Jk bl (Qg f.2)).isSome=true;rw[Qgc hl];rfl
  ·obtain⟨t,ht,rfl⟩:=List.mem_map.1 hi;obtain⟨u,hu⟩:=(hlog _ hl).has t (List.mem_flatMap.2 ⟨f,hf',by rw[if_pos rfl];exact ht⟩);show(Jp bl (Qg f.2,Qc t)).isSome=true;have:=Qf5 hap hl hu;simp only at this;rw[this];rfl
 ·rw[hb.length_eq];exact Nat.le_trans hok.many hn
 ·intro b hb';have:=(hok.bins b (hbm b hb')).many;omega
 ·intro b hb';obtain⟨f,_,e⟩:=hN.bhas b (hbm b hb');exact⟨by rw[←e];exact Gi f.2,fun h hh=>Qiy (hok.bins b (hbm b hb')) hh⟩
 ·intro i hi h0;rw[List.pairwise_iff_getElem]at hbo;exact hbo (i - 1) i (by omega) hi (by omega)
 ·intro b hb';obtain⟨f,hf',e⟩:=hN.bhas b (hbm b hb');obtain⟨r,l⟩:=b;rw[Qt4,Qgc hb'];have:=Qud (fl:=fl) (r:=r) ⟨f,hf.mem_iff.2 hf',e⟩;show(0:Int)+cntF (fl.map rcpOf) r≠0;omega
 ·intro b hb' h hh;obtain⟨h1,h2,_⟩:=(hok.bins b (hbm b hb')).each h hh;exact⟨h1,by omega⟩
 ·intro b hb';exact(hok.bins b (hbm b hb')).rise
 ·refine Qf6 fun x hx => ?_;obtain⟨r,l⟩:=b;simp only at hx ⊢;rw[Qrv,Qf5 hap hb' hx];show(0:Int)+Qpt (fl.map rcpOf) r x.1=x.2.1;rw[Qou,Qri (hok.bins _ (hbm _ hb')) (hlog _ hb') hx,(hlog _ hb').cnt x hx];omega
end Go.Proofs.YtjngnnbondejaabGreatDoor
namespace Go.Proofs
open Go.RowKit Go.Maps Go.Sort Go.Shelf
def Tryz.keysM_ren:Go.Shelf.Ren:=⟨fun|7=>105|10=>182|n=>n,fun|23=>118|26=>9|3=>40|28=>160|0=>0|27=>159|33=>238|4=>4|n=>n,fun n=>n⟩
theorem Tryz.keysM:Go.Proofs.SlLaysZ.n7 Go.Proofs.Tryz.prog Go.Proofs.Tryz.keysM_ren:={
 mixed:=by kernel_rfl
 f7:=Exists.intro "maps.Keys[map[string]cornbin/api.Recipe,string,cornbin/api.Recipe]" ⟨of_decide_eq_true (by kernel_rfl),Tryz.func105.trans (congrArg some (by kernel_rfl))⟩
 f10:=Exists.intro "maps.Keys[map[string]cornbin/api.Recipe,string,cornbin/api.Recipe]$1" ⟨of_decide_eq_true (by kernel_rfl),Tryz.func182.trans (congrArg some (by kernel_rfl))⟩
 t0:=Tryz.underlying0
 a0:=Tryz.isAgg0
 z0:=Tryz.sizeOf0
 v0:=Tryz.zeroValue0
 t4:=Tryz.underlying4
 a4:=Tryz.isAgg4
 z4:=Tryz.sizeOf4
 v4:=Tryz.zeroValue4
 t23:=Tryz.underlying118
 a23:=Tryz.isAgg118
 z23:=Tryz.sizeOf118
 v23:=Tryz.zeroValue118
 t26:=Tryz.underlying9
 a26:=Tryz.isAgg9
 z26:=Tryz.sizeOf9
 v26:=Tryz.zeroValue9
 t27:=Tryz.underlying159
 a27:=Tryz.isAgg159
 z27:=Tryz.sizeOf159
 v27:=Tryz.zeroValue159
 t28:=Tryz.underlying160
 a28:=Tryz.isAgg160
 z28:=Tryz.sizeOf160
 v28:=Tryz.zeroValue160
 t33:=Tryz.underlying238
 a33:=Tryz.isAgg238
 z33:=Tryz.sizeOf238
 v33:=Tryz.zeroValue238 }
def Tryz.sortedM_ren:Go.Shelf.Ren:=⟨fun|6=>104|8=>177|9=>142|11=>239|13=>188|12=>218|23=>252|24=>253|14=>280|15=>281|16=>282|17=>283|18=>284|19=>285|20=>286|21=>287|22=>288|25=>314|26=>315|27=>316|28=>317|29=>318|30=>319|31=>332|n=>n,fun|26=>9|28=>160|24=>73|0=>0|3=>3|37=>256|48=>23|50=>317|4=>4|40=>342|39=>341|45=>230|5=>5|9=>9|51=>381|55=>372|57=>398|58=>122|33=>238|n=>n,fun n=>n⟩
theorem Tryz.sortedM:Go.Proofs.SlLaysZ.n6 Go.Proofs.Tryz.prog Go.Proofs.Tryz.sortedM_ren:={
 mixed:=by kernel_rfl
 f6:=Exists.intro "slices.Sorted[string]" ⟨of_decide_eq_true (by kernel_rfl),Tryz.func104.trans (congrArg some (by kernel_rfl))⟩
 f8:=Exists.intro "slices.Collect[string]" ⟨of_decide_eq_true (by kernel_rfl),Tryz.func177.trans (congrArg some (by kernel_rfl))⟩
 f11:=Exists.intro "slices.AppendSeq[[]string,string]" ⟨of_decide_eq_true (by kernel_rfl),Tryz.func239.trans (congrArg some (by kernel_rfl))⟩
 t0:=Tryz.underlying0
 a0:=Tryz.isAgg0
 z0:=Tryz.sizeOf0
 v0:=Tryz.zeroValue0
 t24:=Tryz.underlying73
 a24:=Tryz.isAgg73
 z24:=Tryz.sizeOf73
 v24:=Tryz.zeroValue73
 t26:=Tryz.underlying9
 a26:=Tryz.isAgg9
 z26:=Tryz.sizeOf9
 v26:=Tryz.zeroValue9
 t28:=Tryz.underlying160
 a28:=Tryz.isAgg160
 z28:=Tryz.sizeOf160
 v28:=Tryz.zeroValue160
 i26:=by kernel_rfl }
def Tryz.sortM_ren:Go.Shelf.Ren:=⟨fun|6=>142|8=>188|9=>218|19=>252|20=>253|21=>280|22=>281|23=>282|24=>283|25=>284|26=>285|27=>286|28=>287|29=>288|36=>314|31=>315|32=>316|37=>317|38=>318|39=>319|41=>332|n=>n,fun|27=>73|29=>9|3=>3|32=>256|26=>73|0=>0|44=>23|46=>317|4=>4|36=>342|35=>341|41=>230|5=>5|9=>9|53=>381|57=>372|63=>398|64=>122|n=>n,fun n=>n⟩
theorem Tryz.sortM:Go.Proofs.SlLaysM.n6 Go.Proofs.Tryz.prog Go.Proofs.Tryz.sortM_ren:={
 mixed:=by kernel_rfl
 f6:=Exists.intro "slices.Sort[[]string,string]" ⟨of_decide_eq_true (by kernel_rfl),Tryz.func142.trans (congrArg some (by kernel_rfl))⟩
 f8:=Tryz.func188.trans (congrArg some (by kernel_rfl))
 f9:=Exists.intro "slices.pdqsortOrdered[string]" ⟨of_decide_eq_true (by kernel_rfl),Tryz.func218.trans (congrArg some (by kernel_rfl))⟩
 f19:=Tryz.func252.trans (congrArg some (by kernel_rfl))
 f20:=Tryz.func253.trans (congrArg some (by kernel_rfl))
 f21:=Exists.intro "slices.insertionSortOrdered[string]" ⟨of_decide_eq_true (by kernel_rfl),Tryz.func280.trans (congrArg some (by kernel_rfl))⟩
 f22:=Exists.intro "slices.heapSortOrdered[string]" ⟨of_decide_eq_true (by kernel_rfl),Tryz.func281.trans (congrArg some (by kernel_rfl))⟩
 f23:=Exists.intro "slices.breakPatternsOrdered[string]" ⟨of_decide_eq_true (by kernel_rfl),Tryz.func282.trans (congrArg some (by kernel_rfl))⟩
 f24:=Exists.intro "slices.choosePivotOrdered[string]" ⟨of_decide_eq_true (by kernel_rfl),Tryz.func283.trans (congrArg some (by kernel_rfl))⟩
 f25:=Exists.intro "slices.reverseRangeOrdered[string]" ⟨of_decide_eq_true (by kernel_rfl),Tryz.func284.trans (congrArg some (by kernel_rfl))⟩
 f26:=Exists.intro "slices.partialInsertionSortOrdered[string]" ⟨of_decide_eq_true (by kernel_rfl),Tryz.func285.trans (congrArg some (by kernel_rfl))⟩
 f27:=Exists.intro "cmp.Less[string]" ⟨of_decide_eq_true (by kernel_rfl),Tryz.func286.trans (congrArg some (by kernel_rfl))⟩
 f28:=Exists.intro "slices.partitionEqualOrdered[string]" ⟨of_decide_eq_true (by kernel_rfl),Tryz.func287.trans (congrArg some (by kernel_rfl))⟩
 f29:=Exists.intro "slices.partitionOrdered[string]" ⟨of_decide_eq_true (by kernel_rfl),Tryz.func288.trans (congrArg some (by kernel_rfl))⟩
 f31:=Tryz.func315.trans (congrArg some (by kernel_rfl))
 f32:=Tryz.func316.trans (congrArg some (by kernel_rfl))
 f36:=Exists.intro "slices.siftDownOrdered[string]" ⟨of_decide_eq_true (by kernel_rfl),Tryz.func314.trans (congrArg some (by kernel_rfl))⟩
 f37:=Exists.intro "slices.medianAdjacentOrdered[string]" ⟨of_decide_eq_true (by kernel_rfl),Tryz.func317.trans (congrArg some (by kernel_rfl))⟩
 f38:=Exists.intro "slices.medianOrdered[string]" ⟨of_decide_eq_true (by kernel_rfl),Tryz.func318.trans (congrArg some (by kernel_rfl))⟩
 f39:=Exists.intro "cmp.isNaN[string]" ⟨of_decide_eq_true (by kernel_rfl),Tryz.func319.trans (congrArg some (by kernel_rfl))⟩
 f41:=Exists.intro "slices.order2Ordered[string]" ⟨of_decide_eq_true (by kernel_rfl),Tryz.func332.trans (congrArg some (by kernel_rfl))⟩
 t0:=Tryz.underlying0
 a0:=Tryz.isAgg0
 z0:=Tryz.sizeOf0
 v0:=Tryz.zeroValue0
 t3:=Tryz.underlying3
 a3:=Tryz.isAgg3
 z3:=Tryz.sizeOf3
 v3:=Tryz.zeroValue3
 t4:=Tryz.underlying4
 a4:=Tryz.isAgg4
 z4:=Tryz.sizeOf4
 v4:=Tryz.zeroValue4
 t5:=Tryz.underlying5
 a5:=Tryz.isAgg5
 z5:=Tryz.sizeOf5
 v5:=Tryz.zeroValue5
 t9:=Tryz.underlying9
 a9:=Tryz.isAgg9
 z9:=Tryz.sizeOf9
 v9:=Tryz.zeroValue9
 t26:=Tryz.underlying73
 a26:=Tryz.isAgg73
 z26:=Tryz.sizeOf73
 v26:=Tryz.zeroValue73
 t27:=Tryz.underlying73
 a27:=Tryz.isAgg73
 z27:=Tryz.sizeOf73
 v27:=Tryz.zeroValue73
 t29:=Tryz.underlying9
 a29:=Tryz.isAgg9
 z29:=Tryz.sizeOf9
 v29:=Tryz.zeroValue9
 t32:=Tryz.underlying256
 a32:=Tryz.isAgg256
 z32:=Tryz.sizeOf256
 v32:=Tryz.zeroValue256
 t35:=Tryz.underlying341
 a35:=Tryz.isAgg341
 z35:=Tryz.sizeOf341
 v35:=Tryz.zeroValue341
 t36:=Tryz.underlying342
 a36:=Tryz.isAgg342
 z36:=Tryz.sizeOf342
 v36:=Tryz.zeroValue342
 t41:=Tryz.underlying230
 a41:=Tryz.isAgg230
 z41:=Tryz.sizeOf230
 v41:=Tryz.zeroValue230
 t44:=Tryz.underlying23
 a44:=Tryz.isAgg23
 z44:=Tryz.sizeOf23
 v44:=Tryz.zeroValue23
 t46:=Tryz.underlying317
 a46:=Tryz.isAgg317
 z46:=Tryz.sizeOf317
 v46:=Tryz.zeroValue317
 t53:=Tryz.underlying381
 a53:=Tryz.isAgg381
 z53:=Tryz.sizeOf381
 v53:=Tryz.zeroValue381
 t57:=Tryz.underlying372
 a57:=Tryz.isAgg372
 z57:=Tryz.sizeOf372
 v57:=Tryz.zeroValue372
 t63:=Tryz.underlying398
 a63:=Tryz.isAgg398
 z63:=Tryz.sizeOf398
 v63:=Tryz.zeroValue398
 t64:=Tryz.underlying122
 a64:=Tryz.isAgg122
 z64:=Tryz.sizeOf122
 v64:=Tryz.zeroValue122 }
theorem Tryz.sortsM (m:Nat):AnyZ.SortsIn Tryz.prog Tryz.sortedM_ren Fence.wide m:=
 ⟨fun blk off cap ss W hH hblk hsz=>callsIn_wide.2 (AnyM.slices_Sort_string Tryz.sortM blk off cap ss W hH hblk hsz),
  fun p cap W=>callsIn_wide.2 (AnyM.slices_Sort_string_none Tryz.sortM p cap W)⟩
theorem Tryz.maps_KeysM (mb:Option Nat)(W:World):CallsIn Fence.wide 5 Tryz.prog 105 #[.map mb] W fun e w'=>e=.returned (.func (.func 182) #[] #[.pointer (some ⟨W.heap.size,0,none⟩)])∧w'=W.alloc (.cells #[.map mb] 118):=
 AnyZ.keys_in Tryz.keysM Fence.wide 5 trivial rfl mb W
theorem Tryz.sortedKeysM {H:Type}(b nn:Nat)(D0:DataW H)(R:Value→Option (DataW H×List MemPlace))(w:World)(hown:w.ownsMap Tryz.prog 9 R b nn D0)(hmax:Maps.size D0≤maxLen)(hbytes:Maps.size D0*16≤140737488355328) :
 CallsIn Fence.wide 5 Tryz.prog 104 #[.func (.func 182) #[] #[.pointer (some ⟨w.heap.size,0,none⟩)]] (w.alloc (.cells #[.map (some b)] 118)) fun e w'=>∃(v:Value) (ss:List (List UInt8)),e=.returned v∧ss.Perm (strKeys D0) ∧
  w'.ownsRow (w.alloc (.cells #[.map (some b)] 118)).heap.size 9 1 v ss.length ((ss.mergeSort (fun x y=>decide (x≤y))).map encStr)∧(v=.slice none 0 0↔ss=[])∧Below (w.alloc (.cells #[.map (some b)] 118)).heap.size (w.alloc (.cells #[.map (some b)] 118)) w':=by
 have hbl:=hown.lt;have hseq:SeqGives Fence.wide 2 Tryz.prog 182 #[.pointer (some ⟨w.heap.size,0,none⟩)] encStr (fun ss=>ss.Perm (strKeys D0)) (Maps.size D0) (w.alloc (.cells #[.map (some b)] 118)):=
  AnyZ.keys_gives (ρ:=Tryz.keysM_ren) { Tryz.keysM with } Fence.wide _ trivial rfl (by omega) w.heap.size b nn D0 _ (by simp) (by simp) (by obtain⟨es,clock,hb,Ft,hs,hD⟩:=hown;exact⟨es,clock,(Below.heap_alloc _ _ b hbl).trans hb,Ft,hs,hD⟩)
 exact AnyZ.sorted_in Tryz.sortedM Fence.wide 5 trivial trivial trivial trivial rfl (by omega) (Tryz.sortsM _) (enters_of Tryz.func142 (by kernel_rfl) rfl) 182 #[.pointer (some ⟨w.heap.size,0,none⟩)] trivial (enters_of Tryz.func182 (by kernel_rfl) rfl) _ _ hmax hbytes _ hseq
end Go.Proofs
namespace Go.Proofs.YtjngnnbondejaabGreatDoor
open Go.RowKit Go.Maps Go.Sort Go.Shelf
theorem Qww (x:List UInt8)(hx:Qfr x):strRcps.kl x=.string x:=Qwf x hx
theorem Yd (p:Addr)(F:Nat→Prop)(st:NSt)(w:World)(hn:st.files.length≤1000)(hP:Q9 w p F st) :
 Calls Tryz.prog 34 #[.pointer (some p)] w fun e w'=>∃(v:Value) (ss:List (List UInt8)),e=.returned v∧ss.Perm (st.files.map (·.1)) ∧
  w'.ownsRow w.heap.size 9 1 v ss.length ((ss.mergeSort (fun x y=>decide (x≤y))).map encStr)∧Below w.heap.size w w':=by
 obtain⟨N,mf,mb,vi,pi,Fi,rfl,h,_⟩:=hP;have q0:=h.blk.cell (i:=0) rfl;obtain⟨ds,hown,hp⟩:=h.files.own;have hsz:Maps.size (DataW.map ds)=st.files.length:=by show ds.length=_;rw[hp.length_eq,List.length_map,List.length_map]
 have hkeys:(strKeys (DataW.map ds)).Perm (st.files.map (·.1)):=by
  have h1:(ds.map fun p=>strOf p.1).Perm (((st.files.map fun f=>(f.1,Qex f (vi f.1))).map strRcps.ent).map fun p=>strOf p.1):=hp.map _;have h2:(((st.files.map fun f=>(f.1,Qex f (vi f.1))).map strRcps.ent).map fun p=>strOf p.1)=st.files.map (·.1):=by rw[List.map_map,List.map_map];refine List.map_congr_left fun f hf => ?_;show strOf (strRcps.kl f.1)=f.1;rw[Qww _ (h.files.wf _ (List.mem_map.2 ⟨f,hf,rfl⟩))];rfl
  rw[h2]at h1;exact h1
 have hmax:Maps.size (DataW.map ds)≤maxLen:=by rw[hsz];unfold maxLen;omega
 have hbytes:Maps.size (DataW.map ds)*16≤140737488355328:=by rw[hsz];omega
 refine(callsIn_wide (n:=6)).1 ?_;have hfK:Fence.wide.fn 105:=trivial;have hfS:Fence.wide.fn 104:=trivial;refine callsIn_of_wp Tryz.func34 rfl trivial ?_ rfl;simp only[Tryz.ntmps34,List.size_toArray,List.length_cons,List.length_nil,Nat.reduceAdd,Nat.reduceSub,Array.replicate_succ,Array.replicate_zero,List.push_toArray,List.append_toArray,List.nil_append,List.cons_append];gi_wp2_with (first|(gi_at_call 105;refine(Tryz.maps_KeysM _ _).mono ?_;rintro e w' ⟨rfl,rfl⟩)|(gi_at_call 104;refine(Tryz.sortedKeysM mf _ (DataW.map ds) _ w hown hmax hbytes).mono ?_;rintro e w' ⟨v,ss,rfl,hS,hrow,hnil,hb⟩));go_ret;exact⟨v,ss,rfl,hS.trans hkeys,ownsRow_base_a hrow (by simp),((Below.refl _ w).alloc wz _).trans (hb.mono (by simp))⟩
theorem Qc0 {ss ns:List (List UInt8)}(hp:ss.Perm ns)(hd:ns.Pairwise (fun a b=>a≠b)):(ss.mergeSort (fun x y=>decide (x≤y))).Perm ns∧(ss.mergeSort (fun x y=>decide (x≤y))).Pairwise (fun a b=>a<b):=by
 have h1:(ss.mergeSort (fun x y=>decide (x≤y))).Perm ns:=(List.mergeSort_perm _ _).trans hp;have tr:∀a b c:List UInt8,decide (a≤b)=true→decide (b≤c)=true→decide (a≤c)=true:=fun a b c h1 h2=>by simp only[decide_eq_true_eq]at *;exact List.le_trans h1 h2
 have ttl:∀a b:List UInt8,(decide (a≤b)||decide (b≤a))=true:=fun a b=>by simp only[Bool.or_eq_true,decide_eq_true_eq];exact List.le_total a b
 have h2:=List.pairwise_mergeSort tr ttl ss;have h3:=(h1.pairwise_iff (fun {_ _} hne=>Ne.symm hne)).2 hd;refine⟨h1,(h2.and h3).imp fun {a b} h => ?_⟩;obtain⟨hle,hne⟩:=h;simp only[decide_eq_true_eq]at hle;exact(List.le_iff_lt_or_eq.1 hle).resolve_right hne
abbrev RP:=Qz×Value
def Zn:List RP→List Value
 | []=>[]
 | q::r=>.string ⟨q.1.1.toArray⟩::.int .i64 (q.1.2.length:Int)::.int .u32 ((pmore 2166136261 q.1.2:Nat):Int)::q.2::Zn r
theorem K5:∀(a b:List RP),Zn (a++b)=Zn a++Zn b
 | [],_=>rfl
 | x::r,b=>by rw[List.cons_append,Zn,K5 r b,Zn];rfl
theorem Qef:∀(a:List RP) (i:Nat) (h:i<a.length),(Zn a)[i*4]? = some (.string ⟨a[i].1.1.toArray⟩)∧(Zn a)[i*4+1]? = some (.int .i64 (a[i].1.2.length:Int))∧(Zn a)[i*4+2]? = some (.int .u32 ((pmore 2166136261 a[i].1.2:Nat):Int))∧(Zn a)[i*4+3]? = some a[i].2
 | x::r,0,_=>⟨rfl,rfl,rfl,rfl⟩
 | x::r,i+1,h=>by have:=Qef r i (by simpa using h);rw[Zn,show(i+1)*4=i*4+1+1+1+1 by omega];simpa using this
theorem Qja:(Tryz.prog.info? 40).map (fun i=>(i.zero,i.size,i.bytes))=some (some (rcpV ⟨#[]⟩ 0 0 (.slice none 0 0)),4,56):=by kernel_rfl
structure Va (w W:World)(v:Value)(ps:List RP):Prop where
 row:W.ownsRow w.heap.size 40 4 v ps.length (Zn ps)
 ids:∀q∈ps,Q3 W q.2 (idsOf q.1.2)
 off:∀q∈ps,idsOf q.1.2≠[]→∀j,q.2.ownBlock=some j→v.ownBlock≠some j
theorem Va.nil (w W:World):Va w W (.slice none 0 0) []:=⟨World.ownsRow_nil _ _ _ _,fun q hq=>by simp at hq,fun q hq=>by simp at hq⟩
theorem Va.next {w W W':World}{v:Value}{ps:List RP}(h:Va w W v ps)(hb:Below W.heap.size W W'):Va w W' v ps:=
 ⟨Qi h.row hb,fun q hq=>(h.ids q hq).below hb,h.off⟩
theorem Va.app {w W W':World}{v v':Value}{ps:List RP}{q:RP}(h:Va w W v ps)(hq:Q3 W q.2 (idsOf q.1.2))(hn:idsOf q.1.2≠[]→∀j,q.2.ownBlock=some j→v.ownBlock≠some j)(hg:W.grownBy W' v.ownBlock)(hr:W'.ownsRow w.heap.size 40 4 v' (ps.length+1) (Zn (ps++[q])))(hv:v'.ownBlock=v.ownBlock∨v'.ownBlock=some W.heap.size):Va w W' v' (ps++[q]):=by
 have ho:=Zd hg;have hall:∀x∈ps++[q],Q3 W x.2 (idsOf x.1.2)∧(idsOf x.1.2≠[]→∀j,x.2.ownBlock=some j→v.ownBlock≠some j):=fun x hx=>by
  rcases List.mem_append.1 hx with hx|hx
  ·exact⟨h.ids x hx,h.off x hx⟩
  ·rw[List.mem_singleton.1 hx];exact⟨hq,hn⟩
 refine⟨by rw[List.length_append];exact hr,fun x hx=>(hall x hx).1.off ho (fun hne j hj e=>(hall x hx).2 hne j hj e),fun x hx hne j hj e => ?_⟩;rcases hv with hv|hv
 ·exact(hall x hx).2 hne j hj (hv▸e)
 ·have:=(hall x hx).1.lt hne hj;rw[hv]at e;have:=Option.some.inj e;omega
theorem Va.at {w W:World}{v:Value}{ps:List RP}(h:Va w W v ps):Jo W v (ps.map fun q=>rcpOf q.1):=by
 rcases h.row.2 with⟨rfl,e⟩|⟨g,cap,cur,hv,_,hb,_⟩
 ·have:ps=[]:=List.length_eq_zero_iff.1 e;subst this;exact⟨none,0,rfl,fun i hi=>by simp at hi⟩
 ·refine⟨some ⟨g,0,none⟩,cap,by rw[hv,List.length_map],fun i hi => ?_⟩;have hi':i<ps.length:=by simpa using hi
  obtain⟨a0,a1,a2,a3⟩:=Qef ps i hi';have c0:=h.row.cells (g:=g) (by rw[hv];rfl) (i*4) _ a0;have c1:=h.row.cells (g:=g) (by rw[hv];rfl) (i*4+1) _ a1;have c2:=h.row.cells (g:=g) (by rw[hv];rfl) (i*4+2) _ a2;have c3:=h.row.cells (g:=g) (by rw[hv];rfl) (i*4+3) _ a3;simp only[add_plain]at c0 c1 c2 c3;refine⟨g,0,ps[i].2,rfl,?_⟩;simp only[List.getElem_map,Nat.zero_add];exact⟨lt_of_block hb,c0,c1,c2,c3,h.ids _ (List.getElem_mem hi')⟩
theorem Qej {st:NSt}(hap:st.files.Pairwise (fun f g=>f.1≠g.1)){NS:List (List UInt8)}(hp:NS.Perm (st.files.map (·.1))):(NS.map fun n=>(n,(nFile st.files n).getD [])).Perm st.files:=by
 refine(hp.map _).trans ?_;rw[List.map_map];have:st.files.map ((fun n=>(n,(nFile st.files n).getD [])) ∘ (·.1))=st.files:=by
  conv=>rhs;rw[←List.map_id st.files]
  refine List.map_congr_left fun f hf => ?_;simp only[Function.comp,id];rw[Jj hap (show(f.1,f.2)∈st.files from hf)];rfl
 rw[this]
theorem Qkl (a:Nat→Addr)(p:Addr)(F:Nat→Prop)(st:NSt)(w:World)(hfl:∀f∈st.files,f.2.length≤4000∧Qj f.1=true)(hn:st.files.length≤30)(hE:Je [4] w a)(hP:Q9 w p F st) :
 Calls Tryz.prog 93 #[.pointer (some p)] w fun e w'=>∃(v:Value) (fl:List Qz),e=.returned v∧fl.Perm st.files∧fl.Pairwise (fun f g=>f.1<g.1)∧Jo w' v (fl.map rcpOf)∧Below w.heap.size w w':=by
 have hap:st.files.Pairwise (fun f g=>f.1≠g.1):=by obtain⟨N,mf,mb,vi,pi,Fi,_,h,_⟩:=hP;have:=h.files.apart;rw[List.pairwise_map]at this;exact this
 have HAP:=Qa hap;have HP:=Qa hP;have HFL:=Qa hfl;have HEE:Hid (∀W,Below w.heap.size w W→Je [4] W a):=fun W hb=>hE.below hb wz;obtain⟨iR,hiR,zR0,zR1,zR2⟩:=info_parts Qja;have HNM:=Qa (Yd p F st w (by omega) hP);clear hP hfl hE hap;go_enter Tryz.func93,Tryz.ntmps93;go_wp2_with fail;refine HNM.out.mono ?_;rintro e w1 ⟨vn,ss,rfl,hss,hrow,hb1⟩;obtain⟨hs1,hs2⟩:=Qc0 hss (by rw[List.pairwise_map];exact HAP.out);obtain⟨NS,hNS⟩:∃NS,ss.mergeSort (fun x y=>decide (x≤y))=NS:=⟨_,rfl⟩;rw[hNS]at hs1 hs2 hrow;have hlen:ss.length=NS.length:=by rw[←hNS,List.length_mergeSort]
 rw[hlen]at hrow;have HS1:=Qa hs1;have HS2:=Qa hs2;have HB1:=Qa hb1;have HPE:=Qa (Qej HAP.out hs1);have hnl:(NS.length:Int)≤30:=by have:=hs1.length_eq;rw[List.length_map]at this;omega
 have HCN:Hid (NS≠[]→∃g,(∃c,vn=.slice (some ⟨g,0,none⟩) NS.length c)∧g<w1.heap.size∧∀i (hi:i<NS.length),w1.cell? ⟨g,i,none⟩=some (.string ⟨NS[i].toArray⟩)):=fun hne=>by
  rcases hrow.2 with⟨_,hz⟩|⟨g,cap,cur,hv,_,hb,_⟩
  ·exact absurd (List.length_eq_zero_iff.1 hz) hne
  ·refine⟨g,⟨cap,hv⟩,lt_of_block hb,fun i hi => ?_⟩;have c1:=hrow.cells (g:=g) (by rw[hv];rfl) i (encStr NS[i]) (by simp[hi]);simp only[add_plain]at c1;exact c1
 obtain⟨pn,cn,hvn⟩:=Jh hrow;subst hvn;clear hss hs1 hs2 hNS hlen hrow hb1 HNM;go_wp2_with fail
 go_loopw [3,11] (fun v iv wr=>∃(k:Nat) (ps:List RP),k≤NS.length∧iv=.int .i64 k∧Hid (ps.map (·.1)=(NS.take k).map (fun n=>(n,(nFile st.files n).getD [])))∧Hid (Va w1 wr v ps)∧Hid (Below w1.heap.size w1 wr)) (fun _ iv _=>NS.length - (intOf iv).toNat)
 case atStart=>exact⟨0,[],Nat.zero_le _,rfl,rfl,Va.nil _ _,Below.refl _ _⟩
 case round=>
  obtain⟨k,ps,hk,rfl,HPS,HFS,HB⟩:=hrel;have HPL:Hid (ps.length=k):=by show _=_;have:=congrArg List.length HPS.out;rw[List.length_map,List.length_map,List.length_take]at this;omega
  by_cases hlt:k<NS.length
  ·have hlt':(k:Int)<(NS.length:Int):=(by omega);have hk0:(0:Int)≤(k:Int):=(by omega);obtain⟨g,⟨cg,hvg⟩,hgl,hcell⟩:=HCN.out (fun e=>by rw[e]at hlt;simp at hlt);obtain⟨rfl,rfl⟩:pn=some ⟨g,0,none⟩∧cn=cg:=(by simpa using hvg);have d0:=(HB.out.cell (p:=⟨g,k,none⟩) hgl).trans (hcell k hlt);have HTK:=Qa (List.take_succ_eq_append_getElem hlt);have hxm:NS[k]∈st.files.map (·.1):=HS1.out.mem_iff.1 (List.getElem_mem hlt);obtain⟨x,hx⟩:∃x,NS[k]=x:=⟨_,rfl⟩;rw[hx]at d0 HTK hxm;obtain⟨⟨f1,s⟩,hf,rfl⟩:=List.mem_map.1 hxm;simp only at d0 HTK;have hnf:=Jj HAP.out hf;obtain⟨hs4,hnm⟩:=HFL.out _ hf;simp only at hs4 hnm;have hnl12:=Vu hnm;obtain⟨X,hX⟩:∃X:ByteArray,(⟨f1.toArray⟩:ByteArray)=X:=⟨_,rfl⟩;have hXd:X.data.toList=f1:=(by rw[←hX]);have hXs:X.size≤50000:=(by have:X.data.toList.length=X.size:=(by rw[Array.length_toList];rfl);rw[hXd]at this;omega);have HREC:=Qa (Qfz a X p F st wr hXs (fun f hf=>by have h1:=Qy f.2;have h2:=(HFL.out f hf).1;unfold idsOf;rw[List.length_map];omega) (HEE.out _ (HB1.out.trans (HB.out.mono HB1.out.size))) ((HP.out.below HB1.out).below HB.out));rw[hXd,hnf]at HREC;unfold Qpf at HREC;simp only at HREC;rw[hX]at d0;have HX:=Qa hX;have HNF:=Qa hnf;obtain⟨PP,hPP⟩:∃PP,pmore 2166136261 s=PP:=⟨_,rfl⟩;obtain⟨LL,hLL⟩:∃LL,(s.length:Int)=LL:=⟨_,rfl⟩;have HPP:=Qa hPP;have HLL:=Qa hLL;rw[hPP,hLL]at HREC;have HRN:Hid (Calls Tryz.prog 15 #[.pointer (some p),.string X] wr fun e w'=>∃(q:Option Addr) (c:Nat),e=.returned (.tuple #[.agg #[.string X,.int .i64 LL,.int .u32 (PP:Nat),.slice q (idsOf s).length c],.nilIface])∧Zb wr.heap.size w' (.slice q (idsOf s).length c) (idsOf s)∧Below wr.heap.size wr w'):=HREC.out.mono fun e w' ⟨⟨v,he,hi⟩,hbw⟩=>by obtain⟨q,c,hq,hc⟩:=hi;subst hq;exact⟨q,c,he,⟨q,c,rfl,hc⟩,hbw⟩
   obtain⟨idl,hidl⟩:∃idl,(idsOf s).length=idl:=⟨_,rfl⟩;have HIDL:=Qa hidl;rw[hidl]at HRN;have HRW:Hid (∀j,u3.ownBlock=some j→j<wr.heap.size):=fun j hj=>Qan HFS.out.row hj;clear hvg hgl hcell hxm hx hf hnf hs4 hnm hnl12 hX hXd hXs hPP hLL hidl HREC;go_wp2_with fail;refine HRN.out.mono ?_;rintro e w4 ⟨q4,c4,rfl,hi4,hb4⟩;have hal5:=(Below.refl _ w4).alloc wz (.cells #[.string X,.int .i64 LL,.int .u32 (PP:Nat),.slice q4 idl c4] 40);have HR5:=Qa (Blk.new w4 #[.string X,.int .i64 LL,.int .u32 (PP:Nat),.slice q4 idl c4] 40);have HFS5:=Qa ((HFS.out.next hb4).next hal5);have HI5:=Qa ((hi4.below hal5).at);have HIB:Hid (idsOf s≠[]→∀j,(Value.slice q4 idl c4).ownBlock=some j→wr.heap.size≤j):=fun hne j hj=>by obtain⟨p',c',hv',hc'⟩:=hi4;obtain⟨b',o',hp',hle,_⟩:=hc' 0 (List.length_pos_iff.2 hne);have:q4=p':=(by have:=hv';simp at this;exact this.1);subst this hp';have:b'=j:=(by simpa[Value.ownBlock]using hj);omega
   have HB5:Hid (Below w1.heap.size w1 _):=Qa ((HB.out.trans (hb4.mono HB.out.size)).trans (hal5.mono (Nat.le_trans HB.out.size hb4.size)));obtain⟨W5,hW5⟩:∃W5,w4.alloc (.cells #[.string X,.int .i64 LL,.int .u32 (PP:Nat),.slice q4 idl c4] 40)=W5:=⟨_,rfl⟩;rw[hW5]at HR5 HFS5 HI5 HB5;have hs5:W5.heap.size=w4.heap.size+1:=(by rw[←hW5];simp);have r0:=HR5.out.cell (i:=0) rfl;have r1:=HR5.out.cell (i:=1) rfl;have r2:=HR5.out.cell (i:=2) rfl;have r3:=HR5.out.cell (i:=3) rfl;have HS5:=Qa hs5;have HW5:=Qa hW5;rw[←hW5]at r0 r1 r2 r3;have HPLN:Hid (ps.length≤30):=(by show _≤_;rw[HPL.out];omega);have HOWN5:Hid ((w4.alloc (.cells #[.string X,.int .i64 LL,.int .u32 (PP:Nat),.slice q4 idl c4] 40)).ownsRow w1.heap.size 40 4 u3 ps.length (Zn ps)):=(by rw[hW5];exact HFS5.out.row);clear hal5 hb4 hi4 hW5 hs5 HRN;go_wp2_with (at_builtin;refine wpList_append_own_at _ rfl (.tmp 21) (.tmp 23) 31 rfl w1.heap.size 40 iR (rcpV ⟨#[]⟩ 0 0 (.slice none 0 0)) 4 56 Tryz.underlying31 hiR zR0 zR1 zR2 rfl (by decide) _ _ _ rfl (HOWN5.out.alloc _) ⟨w4.heap.size+1,0,none⟩ 1 1 [.string X,.int .i64 LL,.int .u32 (PP:Nat),.slice q4 idl c4] rfl rfl ?c1 ?c2 ?c3 ?c4 ?c5 ?_)
   case c1=>
    intro j u hj;rw[add_plain];exact Zh _ #[.string X,.int .i64 LL,.int .u32 (PP:Nat),.slice q4 idl c4] _ (by rw[←hj];simp) (by simp)
   case c2=>intro u hu;simp at hu;rcases hu with rfl|rfl|rfl|rfl<;>rfl
   case c3=>have:=HPLN.out;unfold maxLen;omega
   case c4=>have:=HPLN.out;omega
   case c5=>have h1:=HB5.out.size;have h2:=HS5.out;simp;omega
   intro v6 w6 hown6 hg6 _ hv6;rw[HW5.out]at hg6;have hal6:=(Below.refl _ W5).alloc wz (.cells #[.string X,.int .i64 LL,.int .u32 (PP:Nat),.slice q4 idl c4] 40);have HFS6:Hid (Va w1 w6 v6 (ps++[((f1,s),.slice q4 idl c4)])):=(HFS5.out.next hal6).app (q:=((f1,s),.slice q4 idl c4)) (HI5.out.below hal6) (fun hne j hj e=>by
    have h1:=HIB.out hne j hj;have h2:=HRW.out j e;omega) hg6 (by
    rw[K5];have:Zn [((f1,s),Value.slice q4 idl c4)]=[.string X,.int .i64 LL,.int .u32 (PP:Nat),.slice q4 idl c4]:=(by rw[Zn,Zn];simp only;rw[HX.out,HLL.out,HPP.out]);rw[this];exact hown6) (by
    rcases hv6 with h|h
    ·exact .inl h
    ·exact .inr (by rw[h];simp[HS5.out]))
   have HB6:Hid (Below w1.heap.size w1 w6):=(HB5.out.trans (hal6.mono HB5.out.size)).trans ⟨hg6.os,hg6.tape,hg6.output,hg6.size,fun j hj=>hg6.block j (by have:=HB5.out.size;simp;omega) (fun e=>by have:=Kc HFS5.out.row e.symm;omega)⟩;have HPS6:Hid ((ps++[((f1,s),Value.slice q4 idl c4)]).map (·.1)=(NS.take (k+1)).map (fun n=>(n,(nFile st.files n).getD []))):=(by show _=_;rw[List.map_append,HPS.out,HTK.out,List.map_append];congr 1;simp only[List.map_cons,List.map_nil];rw[HNF.out];rfl);clear hown6 hg6 hv6 hal6 r0 r1 r2 r3 d0;go_wp2_with fail;go_roundw
   case rel=>exact⟨k+1,_,hlt,by go_num,HPS6.out,HFS6.out,HB6.out⟩
   case measure=>simp[intOf];omega
  ·have hge:(NS.length:Int)≤(k:Int):=(by omega);have hke:NS.take k=NS:=List.take_of_length_le (by omega);rw[hke]at HPS;clear hke;go_wp2_with fail;go_ret;refine⟨_,NS.map (fun n=>(n,(nFile st.files n).getD [])),rfl,HPE.out,?_,?_,HB1.out.trans (HB.out.mono HB1.out.size)⟩
   ·rw[List.pairwise_map];exact HS2.out
   ·rw[←HPS.out,List.map_map];exact HFS.out.at
open Go.RowKit Go.Maps
abbrev RV:=Rcp×Value
def rvCells:List RV→List Value
 | []=>[]
 | q::r=>.string ⟨q.1.1.toArray⟩::.int .i64 q.1.2.1::.int .u32 q.1.2.2.1::q.2::rvCells r
theorem Qai:∀(a b:List RV),rvCells (a++b)=rvCells a++rvCells b
 | [],b=>rfl
 | x::r,b=>by rw[List.cons_append,rvCells,Qai r b,rvCells];rfl
theorem Qe2:∀(a:List RV) (i:Nat) (h:i<a.length),(rvCells a)[i*4]? = some (.string ⟨a[i].1.1.toArray⟩)∧(rvCells a)[i*4+1]? = some (.int .i64 a[i].1.2.1)∧(rvCells a)[i*4+2]? = some (.int .u32 a[i].1.2.2.1)∧(rvCells a)[i*4+3]? = some a[i].2
 | x::r,0,_=>by simp[rvCells]
 | x::r,i+1,h=>by have:=Qe2 r i (by simpa using h);rw[rvCells,show(i+1)*4=i*4+1+1+1+1 by omega];simpa[List.getElem?_cons_succ]using this
theorem Jv {W:World}{base:Nat}{e:TypeId}{size:Nat}{v:Value}{n:Nat}{xs:List Value}(h:W.ownsRow base e size v n xs):∃p c,v=.slice p n c:=by
 rcases h.2 with⟨rfl,rfl⟩|⟨g,cap,cur,rfl,_⟩
 ·exact⟨_,_,rfl⟩
 ·exact⟨_,_,rfl⟩
structure Y1 (base:Nat)(W:World)(v:Value)(ps:List RV):Prop where
 row:W.ownsRow base 40 4 v ps.length (rvCells ps)
 ids:∀q∈ps,Zb base W q.2 q.1.2.2.2
 off:∀q∈ps,q.1.2.2.2≠[]→∀j,q.2.ownBlock=some j→v.ownBlock≠some j
theorem Y1.nil (base:Nat)(W:World):Y1 base W (.slice none 0 0) []:=⟨World.ownsRow_nil _ _ _ _,fun q hq=>by simp at hq,fun q hq=>by simp at hq⟩
theorem Y1.turn {base:Nat}{F:Nat→Prop}{W W':World}{v:Value}{ps:List RV}(h:Y1 base W v ps)(ho:Off F W W')(hF:∀k,base≤k→¬F k):Y1 base W' v ps:=
 ⟨ho.row h.row (fun k hk=>hF k (Kc h.row hk)),fun q hq=>(h.ids q hq).off ho hF,h.off⟩
theorem Y1.next {base:Nat}{W W':World}{v:Value}{ps:List RV}(h:Y1 base W v ps)(hb:Below W.heap.size W W'):Y1 base W' v ps:=h.turn (Off.of_below (F:=fun _=>False) hb) (fun _ _ h=>h)
theorem Y1.app {base:Nat}{W W':World}{v v':Value}{ps:List RV}{q:RV}(h:Y1 base W v ps)(hq:Zb base W q.2 q.1.2.2.2)(hn:q.1.2.2.2≠[]→∀j,q.2.ownBlock=some j→v.ownBlock≠some j)(hg:W.grownBy W' v.ownBlock)(hr:W'.ownsRow base 40 4 v' (ps.length+1) (rvCells (ps++[q])))(hv:v'.ownBlock=v.ownBlock∨v'.ownBlock=some W.heap.size):Y1 base W' v' (ps++[q]):=by
 have ho:=Zd hg;have hall:∀x∈ps++[q],Zb base W x.2 x.1.2.2.2∧(x.1.2.2.2≠[]→∀j,x.2.ownBlock=some j→v.ownBlock≠some j):=fun x hx=>by
  rcases List.mem_append.1 hx with hx|hx
  ·exact⟨h.ids x hx,h.off x hx⟩
  ·rw[List.mem_singleton.1 hx];exact⟨hq,hn⟩
 refine⟨by rw[List.length_append];exact hr,fun x hx => ?_,fun x hx hne j hj e => ?_⟩
 ·obtain⟨h1,h2⟩:=hall x hx;obtain⟨p,c,hv1,hall1⟩:=h1;refine⟨p,c,hv1,fun i hi => ?_⟩;obtain⟨b,o,hp,hbl,hlt,c0,c1⟩:=hall1 i hi;have hne:x.1.2.2.2≠[]:=fun e=>by rw[e]at hi;simp at hi
  have hbo:(Value.ownBlock x.2)=some b:=by rw[hv1,hp];rfl
  have hk:=ho.block b hlt (fun e=>h2 hne b hbo e);exact⟨b,o,hp,hbl,Nat.lt_of_lt_of_le hlt ho.size,(World.cell?_of_block (w:=W) hk).trans c0,(World.cell?_of_block (w:=W) hk).trans c1⟩
 ·rcases hv with hv|hv
  ·exact(hall x hx).2 hne j hj (hv▸e)
  ·have:=((hall x hx).1.own hne hj).2;rw[hv]at e;have:=Option.some.inj e;omega
theorem Y1.at {base:Nat}{W:World}{v:Value}{ps:List RV}(h:Y1 base W v ps):Jo W v (ps.map (·.1)):=by
 rcases h.row.2 with⟨rfl,e⟩|⟨g,cap,cur,hv,_,hb,_⟩
 ·have:ps=[]:=List.length_eq_zero_iff.1 e;subst this;exact⟨none,0,rfl,fun i hi=>by simp at hi⟩
 ·refine⟨some ⟨g,0,none⟩,cap,by rw[hv,List.length_map],fun i hi => ?_⟩;have hi':i<ps.length:=by simpa using hi
  obtain⟨a0,a1,a2,a3⟩:=Qe2 ps i hi';have c0:=h.row.cells (g:=g) (by rw[hv];rfl) (i*4) _ a0;have c1:=h.row.cells (g:=g) (by rw[hv];rfl) (i*4+1) _ a1;have c2:=h.row.cells (g:=g) (by rw[hv];rfl) (i*4+2) _ a2;have c3:=h.row.cells (g:=g) (by rw[hv];rfl) (i*4+3) _ a3;simp only[add_plain]at c0 c1 c2 c3;refine⟨g,0,ps[i].2,rfl,?_⟩;simp only[List.getElem_map,Nat.zero_add];exact⟨lt_of_block hb,c0,c1,c2,c3,(h.ids _ (List.getElem_mem hi')).at⟩
theorem Y1.low {base base':Nat}{W:World}{v:Value}{ps:List RV}(h:Y1 base W v ps)(hb:base'≤base):Y1 base' W v ps:=⟨Ui h.row hb,fun q hq=>(h.ids q hq).low hb,h.off⟩
def Yw (base:Nat)(W:World)(v:Value)(fs:List Rcp):Prop:=∃ps:List RV,ps.map (·.1)=fs∧Y1 base W v ps
theorem Yw.at {base:Nat}{W:World}{v:Value}{fs:List Rcp}(h:Yw base W v fs):Jo W v fs:=by
 obtain⟨ps,rfl,h⟩:=h;exact h.at
theorem Yw.turn {base:Nat}{F:Nat→Prop}{W W':World}{v:Value}{fs:List Rcp}(h:Yw base W v fs)(ho:Off F W W')(hF:∀k,base≤k→¬F k):Yw base W' v fs:=by
 obtain⟨ps,e,h⟩:=h;exact⟨ps,e,h.turn ho hF⟩
theorem Yw.low {base base':Nat}{W:World}{v:Value}{fs:List Rcp}(h:Yw base W v fs)(hb:base'≤base):Yw base' W v fs:=by
 obtain⟨ps,e,h⟩:=h;exact⟨ps,e,h.low hb⟩
theorem Yw.shape {base:Nat}{W:World}{v:Value}{fs:List Rcp}(h:Yw base W v fs):∃p c,v=.slice p fs.length c:=by
 obtain⟨ps,rfl,h⟩:=h;rw[List.length_map];exact Jv h.row
end Go.Proofs.YtjngnnbondejaabGreatDoor
