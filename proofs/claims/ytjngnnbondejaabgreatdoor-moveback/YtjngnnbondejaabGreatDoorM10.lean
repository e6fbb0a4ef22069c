/- A part. -/
import Derived.Test.YtjngnnbondejaabGreatDoorM09
set_option maxHeartbeats 4000000
set_option maxRecDepth 100000
namespace Go.Proofs.YtjngnnbondejaabGreatDoor
open Go.RowKit Go.Maps
def Jt (st:NSt)(nm s:List UInt8):Int×Int×NSt:=
 if (ofR nm s).2≠0 then (0,(ofR nm s).2,st) else
  match nFile st.files nm with
  | some _=>(0,6,st)
  | none=>if 30≤st.files.length then (0,7,st) else
   if (Za ((Zi st.bins (Qg s)).getD []) 0 (pieces s)).2.1≠0 then (0,(Za ((Zi st.bins (Qg s)).getD []) 0 (pieces s)).2.1,st) else
    ((Za ((Zi st.bins (Qg s)).getD []) 0 (pieces s)).1,0,⟨(nm,s)::st.files,(Qg s,(Za ((Zi st.bins (Qg s)).getD []) 0 (pieces s)).2.2)::st.bins.filter (fun b => !decide (b.1=Qg s))⟩)
def Kz (a:Nat→Addr)(w:World)(p:Addr)(F:Nat→Prop)(r:Int×Int×NSt)(e:Ending)(w':World):Prop:=
 ∃ev F',e=.returned (.tuple #[.int .i64 r.1,ev])∧Qp w.heap.size w' a ev (r.2.1,-1)∧Q9 w' p F' r.2.2∧(∀k,F' k→F k∨w.heap.size≤k)∧Off F w w'
theorem Kz.same {a:Nat→Addr}{w w':World}{p:Addr}{F:Nat→Prop}{st:NSt}{r:Int×Int×NSt}{ev:Value}{c:Int}(hr:r=(0,c,st))(hP:Q9 w p F st)(hb:Below w.heap.size w w')(he:Qp w.heap.size w' a ev (c,-1)):Kz a w p F r (.returned (.tuple #[.int .i64 0,ev])) w':=by
 subst hr;exact⟨ev,F,rfl,he,hP.below hb,fun k hk=>.inl hk,Off.of_below hb⟩
theorem Uo {st:NSt}{nm s:List UInt8}(h:(ofR nm s).2≠0):Jt st nm s=(0,(ofR nm s).2,st):=by unfold Jt;rw[if_pos h]
theorem V6 {st:NSt}{nm s t:List UInt8}(h:(ofR nm s).2=0)(h2:nFile st.files nm=some t):Jt st nm s=(0,6,st):=by unfold Jt;rw[if_neg (by rw[h];simp),h2]
theorem G9 {st:NSt}{nm s:List UInt8}(h:(ofR nm s).2=0)(h2:nFile st.files nm=none)(h3:30≤st.files.length):Jt st nm s=(0,7,st):=by unfold Jt;rw[if_neg (by rw[h];simp),h2];simp only;rw[if_pos h3]
theorem Kv {s q:List UInt8}(hq:q∈pieces s):0<q.length∧q.length≤64:=by
 obtain⟨i,hi,rfl⟩:=List.getElem_of_mem hq;exact⟨(Vr s i hi).1,(Vr s i hi).2.1⟩
theorem Gi (s:List UInt8):Zv (Qg s):=by
 by_cases h:idsOf s=[]
 ·show Zv (Zq (idsOf s));rw[h];exact⟨by decide,by decide,by decide⟩
 ·obtain⟨q,hq,e⟩:=List.mem_map.1 (Qqy _ h);have:=Kv hq;show Zv (Zq (idsOf s));have e':Zq (idsOf s)=(pmore 2166136261 q,(q.length:Int)):=e.symm;rw[e'];exact⟨Zr _ (by decide) _,by simp only;omega,by simp only;omega⟩
theorem Qar {st:NSt}{nm s:List UInt8}{r:Nat×Int}{BL bl:List Hd}{fr ec:Int}(h:(ofR nm s).2=0)(h2:nFile st.files nm=none)(h3:¬30≤st.files.length)(hr:Qg s=r)(hb:(Zi st.bins r).getD []=BL)(hp:Za BL 0 (pieces s)=(fr,ec,bl))(hc:ec≠0):Jt st nm s=(0,ec,st):=by
 unfold Jt;rw[if_neg (by rw[h];simp),h2];simp only;rw[if_neg h3,hr,hb,hp,if_pos hc]
theorem Qba {st:NSt}{nm s:List UInt8}{r:Nat×Int}{BL bl:List Hd}{fr:Int}(h:(ofR nm s).2=0)(h2:nFile st.files nm=none)(h3:¬30≤st.files.length)(hr:Qg s=r)(hb:(Zi st.bins r).getD []=BL)(hp:Za BL 0 (pieces s)=(fr,0,bl)):Jt st nm s=(fr,0,⟨(nm,s)::st.files,(r,bl)::st.bins.filter (fun b => !decide (b.1=r))⟩):=by
 unfold Jt;rw[if_neg (by rw[h];simp),h2];simp only;rw[if_neg h3,hr,hb,hp,if_neg (by simp)]
theorem Qen (a:Nat→Addr)(nm s:ByteArray)(p:Addr)(F:Nat→Prop)(U:Int)(st:NSt)(w:World)(hnm:nm.size≤50000)(hs:s.size≤50000)(hU:0≤U∧U+5000≤1000000)(hok:∀b∈st.bins,Qd U b.2)(hbn:st.bins.length≤1000)(hE:Je [1,3,5,6,9] w a)(hP:Q9 w p F st) :
 Calls Tryz.prog 31 #[.pointer (some p),.string nm,.string s] w (Kz a w p F (Jt st nm.data.toList s.data.toList)):=by
 have HP:Hid (Q9 w p F st):=hP;have HEE:Hid (∀W,Below w.heap.size w W→Je [1,3,5,6,9] W a):=fun W hb=>hE.below hb wz;have HOK:Hid (∀b∈st.bins,Qd U b.2):=hok;have HOF:=Qa (Qv6 a nm s (by unfold maxLen;omega) w (hE.sub (by decide)));unfold Qfm at HOF;obtain⟨RES,hRES⟩:∃RES,Jt st nm.data.toList s.data.toList=RES:=⟨_,rfl⟩;have HRES:Hid (Jt st nm.data.toList s.data.toList=RES):=hRES;rw[hRES];clear hok hE hRES;go_enter Tryz.func31,Tryz.ntmps31;go_wp2_with fail;refine HOF.out.mono ?_;rintro e w1 ⟨vi1,ev1,rfl,hi1,he1,hb1⟩;have HB1:=Qa hb1;have HI1:=Qa hi1;have HE1:=Qa he1;clear HOF hi1 he1 hb1;by_cases hbad:(ofR nm.data.toList s.data.toList).2=0
 ·have hnmI:Qj nm.data.toList=true:=by
   cases h:Qj nm.data.toList with
   | true=>rfl
   | false=>rw[q9 h]at hbad;cases hbad
  have hs4:¬4000<s.data.toList.length:=fun h=>by rw[G8 hnmI h]at hbad;cases hbad
  have hR:=Qgr hnmI hs4;have HBAD:=Qa hbad;rw[hR]at HI1 HE1 ⊢;obtain rfl:=HE1.out.nil;simp only at HI1;obtain⟨P,hPP⟩:∃P,pmore 2166136261 s.data.toList=P:=⟨_,rfl⟩;have HPP:=Qa hPP;have hsl:s.data.toList.length=s.size:=by rw[Array.length_toList];rfl
  obtain⟨pv,cv,hvi,_⟩:=HI1.out;have hrc:qg (nm.data.toList,(s.data.toList.length:Int),pmore 2166136261 s.data.toList,idsOf s.data.toList) vi1=.agg #[.string nm,.int .i64 (s.size:Int),.int .u32 (P:Nat),.slice pv (idsOf s.data.toList).length cv]:=by rw[hvi,←hPP,←hsl]
  have HS4:Hid (s.size≤4000):=by show _≤_;omega
  rw[hrc];rw[hvi]at HI1;have HIL:Hid (idsOf s.data.toList≠[]→∀k,(Value.slice pv (idsOf s.data.toList).length cv).ownBlock=some k→w.heap.size≤k∧k<w1.heap.size):=fun hne k hk=>by obtain⟨p1,c1,hv1,hc1⟩:=HI1.out;obtain⟨b1,o1,hp1,h1,h2,_⟩:=hc1 0 (List.length_pos_iff.2 hne);have hpp:pv=p1:=(by have:=hv1;simp at this;exact this.1);subst hpp hp1;have:b1=k:=(by simpa[Value.ownBlock]using hk);omega
  obtain⟨idl,hidl⟩:∃idl,(idsOf s.data.toList).length=idl:=⟨_,rfl⟩;have HIDL:=Qa hidl;rw[hidl]at HI1 HIL ⊢;clear HE1 hR hnmI hrc hvi hPP hsl hidl hs4 hbad hP;have hal1:=(Below.refl _ w1).alloc wz (.cells #[.string nm,.int .i64 (s.size:Int),.int .u32 (P:Nat),.slice pv idl cv] 40);have hbr1:=Blk.new w1 #[.string nm,.int .i64 (s.size:Int),.int .u32 (P:Nat),.slice pv idl cv] 40;obtain⟨N,mf,mb,vi,pi,Fi,rfl,hN,hFe⟩:=HP.out;have hN1:=(hN.below HB1.out).below hal1;have HN1:=Qa hN1;have q0:=hN1.blk.cell (i:=0) rfl;have HB2:Hid (Below w.heap.size w _):=Qa (HB1.out.trans (hal1.mono HB1.out.size));have hnw:Qfr nm.data.toList:=by show nm.data.toList.length≤maxLen;rw[Array.length_toList];show nm.size≤maxLen;unfold maxLen;omega
  have hnmE:(⟨nm.data.toList.toArray⟩:ByteArray)=nm:=by simp
  cases hf:nFile st.files nm.data.toList with
  | some t0=>
   have HR:Hid (RES=(0,6,st)):=HRES.out.symm.trans (V6 HBAD.out hf);have l0:(Instr.lookup 118 (.map (some mf)) (.string nm) true).run Tryz.prog (w1.alloc (.cells #[.string nm,.int .i64 (s.size:Int),.int .u32 (P:Nat),.slice pv idl cv] 40))=.ok (.tuple #[rwV (Qex (nm.data.toList,t0) (vi nm.data.toList)),.bool true]) (w1.alloc (.cells #[.string nm,.int .i64 (s.size:Int),.int .u32 (P:Nat),.slice pv idl cv] 40)):=(by have:=hN1.files.look_some Tryz.underlying118 (Y5 _) (List.mem_map.2 ⟨_,nFile_some hf,rfl⟩);change(Instr.lookup _ _ (.string ⟨nm.data.toList.toArray⟩) true).run _ _=_ at this;rw[hnmE]at this;exact this);obtain⟨pv0,cv0,hv0,_⟩:=hN.ids _ (nFile_some hf);obtain⟨A0,L0,P0,n0,hrv⟩:∃(A0:ByteArray) (L0 P0:Int) (n0:Nat),rwV (Qex (nm.data.toList,t0) (vi nm.data.toList))=.agg #[.string A0,.int .i64 L0,.int .u32 P0,.slice pv0 n0 cv0]:=⟨_,_,_,_,by simp only at hv0;unfold Qex;rw[hv0]⟩;rw[hrv]at l0;have hal2:=(Below.refl (w1.alloc (.cells #[.string nm,.int .i64 (s.size:Int),.int .u32 (P:Nat),.slice pv idl cv] 40)).heap.size (w1.alloc (.cells #[.string nm,.int .i64 (s.size:Int),.int .u32 (P:Nat),.slice pv idl cv] 40))).alloc wz (.cells #[.string A0,.int .i64 L0,.int .u32 P0,.slice pv0 n0 cv0] 40);have HB3:Hid (Below w.heap.size w _):=Qa (HB2.out.trans (hal2.mono HB2.out.size));have g5:=(HEE.out _ HB3.out).glob 5 rfl;change World.cell? _ ⟨3,0,none⟩=_ at g5;clear hN hN1 hf hal1 hbr1 hrv hv0 hal2;go_wp2_with fail;generalize (w1.alloc (.cells #[.string nm,.int .i64 (s.size:Int),.int .u32 (P:Nat),.slice pv idl cv] 40)).alloc (.cells #[.string A0,.int .i64 L0,.int .u32 P0,.slice pv0 n0 cv0] 40)=W at *;go_region;go_wp2_with fail;go_ret2;exact Kz.same HR.out HP.out HB3.out.drew (.inr (.inl ⟨5,by decide,rfl,rfl⟩))
  | none=>
   have l0:(Instr.lookup 118 (.map (some mf)) (.string nm) true).run Tryz.prog (w1.alloc (.cells #[.string nm,.int .i64 (s.size:Int),.int .u32 (P:Nat),.slice pv idl cv] 40))=.ok (.tuple #[.agg #[.string ⟨#[]⟩,.int .i64 0,.int .u32 0,.slice none 0 0],.bool false]) (w1.alloc (.cells #[.string nm,.int .i64 (s.size:Int),.int .u32 (P:Nat),.slice pv idl cv] 40)):=(by have:=hN1.files.look_none Tryz.underlying118 (Y5 _) hnw (fun y hy=>by obtain⟨f,hfm,rfl⟩:=List.mem_map.1 hy;exact Ju hf f hfm);change(Instr.lookup _ _ (.string ⟨nm.data.toList.toArray⟩) true).run _ _=_ at this;rw[hnmE]at this;exact this);have hal2:=(Below.refl (w1.alloc (.cells #[.string nm,.int .i64 (s.size:Int),.int .u32 (P:Nat),.slice pv idl cv] 40)).heap.size (w1.alloc (.cells #[.string nm,.int .i64 (s.size:Int),.int .u32 (P:Nat),.slice pv idl cv] 40))).alloc wz (.cells #[.string ⟨#[]⟩,.int .i64 0,.int .u32 0,.slice none 0 0] 40);have HB3:Hid (Below w.heap.size w _):=Qa (HB2.out.trans (hal2.mono HB2.out.size));have hN2:=hN1.below hal2;have q2:=hN2.blk.cell (i:=0) rfl;have hbr2:=hbr1.next hal2;have HF:=Qa hf;have HN2:=Qa hN2;have HI2:=Qa ((HI1.out.below hal1).below hal2);have hlenf:(st.files.map fun f=>(f.1,Qex f (vi f.1))).length=st.files.length:=List.length_map ..;have ln:=hN2.files.len Tryz.underlying118 3;rw[hlenf]at ln;clear hN hN1 hf hal1 hbr1 hal2 hN2 HN1 HI1 hlenf;by_cases hfull:30≤st.files.length
   ·have hfull':(30:Int)≤(st.files.length:Int):=(by omega);have HR:Hid (RES=(0,7,st)):=HRES.out.symm.trans (G9 HBAD.out HF.out hfull);have g6:=(HEE.out _ HB3.out).glob 6 rfl;change World.cell? _ ⟨1,0,none⟩=_ at g6;clear hfull;go_wp2_with fail;generalize (w1.alloc (.cells #[.string nm,.int .i64 (s.size:Int),.int .u32 (P:Nat),.slice pv idl cv] 40)).alloc (.cells #[.string ⟨#[]⟩,.int .i64 0,.int .u32 0,.slice none 0 0] 40)=W at *;go_region;go_wp2_with fail;go_ret2;exact Kz.same HR.out HP.out HB3.out.drew (.inr (.inl ⟨6,by decide,rfl,rfl⟩))
   have hfull':¬(30:Int)≤(st.files.length:Int):=(by omega);have HFULL:=Qa hfull;have hidz:(idsOf s.data.toList).length≤maxLen:=(by have h1:=Qy s.data.toList;have h2:s.data.toList.length=s.size:=(by rw[Array.length_toList];rfl);unfold idsOf maxLen;rw[List.length_map];omega);have HREP:=Qa (fun W (hv:Q3 W (.slice pv idl cv) (idsOf s.data.toList))=>Ga nm (s.size:Int) (P:Int) (.slice pv idl cv) (idsOf s.data.toList) W hv hidz);have HWR:=Qa (Gi s.data.toList);obtain⟨⟨rp,rl⟩,hrep⟩:∃r,Qg s.data.toList=r:=⟨_,rfl⟩;have HRP:=Qa hrep;change Hid (∀W,_→Calls _ _ _ W fun e w'=>e=.returned (idV ((Qg s.data.toList).1:Nat) (Qg s.data.toList).2)∧_)at HREP;rw[hrep]at HREP HWR;simp only at HREP;clear hidz hrep;go_wp2_with fail;generalize (w1.alloc (.cells #[.string nm,.int .i64 (s.size:Int),.int .u32 (P:Nat),.slice pv idl cv] 40)).alloc (.cells #[.string ⟨#[]⟩,.int .i64 0,.int .u32 0,.slice none 0 0] 40)=W2 at *;refine(HREP.out W2 HI2.out.at).mono ?_;rintro e w3 ⟨rfl,hb3⟩;have hal3:=(Below.refl _ w3).alloc wz (.cells #[.int .u32 (rp:Nat),.int .i64 rl] 25);have hbi3:=Blk.new w3 #[.int .u32 (rp:Nat),.int .i64 rl] 25;have HB4:Hid (Below w.heap.size w _):=Qa ((HB3.out.trans (hb3.mono HB3.out.size)).trans (hal3.mono (Nat.le_trans HB3.out.size hb3.size)));have HN4:=Qa ((HN2.out.below hb3).below hal3);have HI4:=Qa ((HI2.out.below hb3).below hal3);have hbr4:=(hbr2.next hb3).next hal3;have HWW3:=Qa (Nat.le_trans HB3.out.size hb3.size);have hw31a:w3.heap.size≠w1.heap.size:=(by have:=(hbr2.next hb3).lt;omega);have hsz4:w3.heap.size<(w3.alloc (.cells #[.int .u32 (rp:Nat),.int .i64 rl] 25)).heap.size:=(by simp);clear hal3 hb3 HREP HN2 HI2 hbr2 ln q2 q0 l0 HB3;go_wp2_with fail;generalize w3.alloc (.cells #[.int .u32 (rp:Nat),.int .i64 rl] 25)=W4 at *;have hrB:w1.heap.size<W4.heap.size:=hbr4.lt;have HW31:Hid (w3.heap.size≠w1.heap.size):=hw31a;clear hw31a;refine(Gm (rp,rl) ⟨N,0,none⟩ F st W4 HWR.out ⟨N,mf,mb,vi,pi,Fi,rfl,HN4.out,hFe⟩).mono ?_;rintro e w5 ⟨hr5,hb5⟩;have HB5:Hid (Below w.heap.size w w5):=HB4.out.trans (hb5.mono HB4.out.size);have HN5:=Qa (HN4.out.below hb5);have HI5:=Qa (HI4.out.below hb5);have hbr5:=hbr4.next hb5;have hbi5:=hbi3.next hb5;have HW45:=Qa hb5.size;have HWW4:=Qa HB4.out.size;clear hb5 HN4 HI4 hbr4 hbi3 HB4;obtain⟨BO,hBO⟩:∃BO,Zi st.bins (rp,rl)=BO:=⟨_,rfl⟩;have HBO:=Qa hBO;rw[hBO]at hr5;clear hBO;have HOKB:Hid (Qd U (BO.getD [])):=by
    show Qd _ _;cases hb:BO with
    | none=>exact Qd.nil _
    | some l0=>exact HOK.out _ (J3 (HBO.out.trans hb))
   obtain⟨BL,hBL⟩:∃BL,BO.getD []=BL:=⟨_,rfl⟩;have HBL:Hid ((Zi st.bins (rp,rl)).getD []=BL):=(by show _=_;rw[HBO.out];exact hBL);rw[hBL]at HOKB;cases BO
   case' none=>
    have hBL2:([]:List Hd)=BL:=hBL;clear hBL;obtain rfl:e=.returned (.pointer none):=hr5;go_wp2_with fail;refine(Qlx w5).mono ?_;rintro e w6 ⟨q,Fq,rfl,hPq,hFq,hb6⟩;have HB6:Hid (Below w.heap.size w w6):=HB5.out.trans (hb6.mono HB5.out.size);have HN6:=Qa (HN5.out.below hb6);have HI6:=Qa (HI5.out.below hb6);have hbr6:=hbr5.next hb6;have hbi6:=hbi5.next hb6;have HPQ:Hid (Q0 w6 q Fq BL):=(by show Q0 _ _ _ _;rw[←hBL2];exact hPq);have HFQ:Hid (∀k,Fq k→W4.heap.size≤k):=fun k hk=>Nat.le_trans HW45.out (hFq k hk);have HW46:Hid (W4.heap.size≤w6.heap.size):=Nat.le_trans HW45.out hb6.size;clear hb6 HN5 HI5 hbr5 hbi5 HB5 hPq hFq hBL2;go_wp2_with fail
   case' some l0=>
    have hBL2:l0=BL:=hBL;clear hBL;obtain⟨q,Fq,rfl,hPq,hFq⟩:=hr5;have HB6:=HB5;have HN6:=HN5;have HI6:=HI5;have hbr6:=hbr5;have hbi6:=hbi5;have HPQ:Hid (Q0 w5 q Fq BL):=(by show Q0 _ _ _ _;rw[←hBL2];exact hPq);have HFQ:=Qa hFq;have HW46:=HW45;clear HN5 HI5 hbr5 hbi5 HB5 hPq hFq HW45 hBL2;go_wp2_with fail;generalize w5=w6 at *
   all_goals
    refine(Qf3 s hs w6).mono ?_;rintro e w7 ⟨vl,rfl,hrow7,hb7⟩;have HB7:Hid (Below w.heap.size w w7):=HB6.out.trans (hb7.mono HB6.out.size);have HN7:=Qa (HN6.out.below hb7);have HI7:=Qa (HI6.out.below hb7);have hbr7:=hbr6.next hb7;have hbi7:=hbi6.next hb7;have HB67:=Qa hb7.size;have HPQ7:=Qa (HPQ.out.off (Off.of_below (F:=fun _=>False) hb7) (fun _ _ h=>h));have HV7:Hid (Zj w7 vl ((pieces s.data.toList).map Qcd)):=Zj.of_row hrow7;have HRW7:Hid (∀k,vl.ownBlock=some k→¬Fq k):=fun k hk hF=>by have h1:=HPQ.out.lt k hF;have h2:=(hrow7.lt k hk).1;omega
    clear hrow7 hb7 HPQ HN6 HI6 hbr6 hbi6 HB6;go_wp2_with fail;have hpl:=Qy s.data.toList;have hsl:s.data.toList.length=s.size:=(by rw[Array.length_toList];rfl);have hs4:=HS4.out;refine(Qhc a vl (pieces s.data.toList) q Fq U BL w7 hU.1 (by omega) HOKB.out (by omega) (fun t ht=>by have:=Kv ht;omega) ((HEE.out _ HB7.out).sub (by decide)) (fun i hi hF=>by have h1:=HFQ.out _ hF;have h2:=lt_of_cell ((HEE.out w (Below.refl _ _)).glob i (by revert hi;simp;omega));have h3:=HWW4.out;omega) HV7.out HRW7.out HPQ7.out).mono ?_;rintro e w8 ⟨ev8,F8,rfl,he8,hp8,hf8,ho8⟩;have HB8:Hid (Below w.heap.size w w8):=HB7.out.trans (ho8.below HB7.out.size (fun j hj hF=>by have h1:=HFQ.out j hF;have h2:=HWW4.out;omega));have HN8:=Qa (HN7.out.off ho8 (fun k hk hF=>by have h1:=HFQ.out k hF;have h2:=HP.out.lt k (by rw[hFe];exact hk);have h3:=HWW4.out;omega));have HI8:=Qa (HI7.out.at.off ho8 (fun hne k hk hF=>by have h1:=HFQ.out k hF;have h2:=HIL.out hne k hk;omega));have hbr8:=ho8.blk hbr7 (fun hF=>by have h1:=HFQ.out _ hF;omega);have hbi8:=ho8.blk hbi7 (fun hF=>by have h1:=HFQ.out _ hF;omega);have HP8:=Qa hp8;have HF8:Hid (∀k,F8 k→W4.heap.size≤k):=fun k hk=>by
     rcases hf8 k hk with h|h
     ·exact HFQ.out k h
     ·have h1:=HW46.out;have h2:=HB67.out;omega
    have HE8:=Qa he8;have hs78:=ho8.size;have hw7:=HB7.out.size;clear hpl hsl hs4 ho8 hp8 hf8 he8 HN7 HI7 hbr7 hbi7 HPQ7 HV7 HRW7;obtain⟨⟨fr,ec,bl8⟩,hpa⟩:∃r,Za BL 0 (pieces s.data.toList)=r:=⟨_,rfl⟩;rw[hpa]at HE8 HP8 ⊢;simp only at HE8 HP8 ⊢;by_cases hec:ec=0
    ·subst hec;have HR:=Qa (HRES.out.symm.trans (Qba HBAD.out HF.out HFULL.out HRP.out HBL.out hpa));obtain rfl:=HE8.out.nil;clear hpa HE8;have i0:=hbi8.cell (i:=0) rfl;have i1:=hbi8.cell (i:=1) rfl;have x0:=hbr8.cell (i:=0) rfl;have x1:=hbr8.cell (i:=1) rfl;have x2:=hbr8.cell (i:=2) rfl;have x3:=hbr8.cell (i:=3) rfl;have hal9:=(Below.refl _ w8).alloc wz (.cells #[.string nm,.int .i64 (s.size:Int),.int .u32 (P:Nat),.slice pv idl cv] 40);have hR9:=Blk.new w8 #[.string nm,.int .i64 (s.size:Int),.int .u32 (P:Nat),.slice pv idl cv] 40;have HN9:=Qa (HN8.out.below hal9);have HI9:=Qa (HI8.out.below hal9);have HP9:=Qa (HP8.out.off (Off.of_below (F:=fun _=>False) hal9) (fun _ _ h=>h));have HB9:Hid (Below w.heap.size w _):=Qa (HB8.out.trans (hal9.mono HB8.out.size));have HR9:=Qa hR9;have HWL8:Hid (w.heap.size≤w8.heap.size):=HB8.out.size;clear hal9 hR9 HN8 HI8 HP8 HB8;go_wp2_with fail;obtain⟨W9,hW9⟩:∃W9,w8.alloc (.cells #[.string nm,.int .i64 (s.size:Int),.int .u32 (P:Nat),.slice pv idl cv] 40)=W9:=⟨_,rfl⟩;rw[hW9]at HN9 HI9 HP9 HB9 HR9 ⊢;obtain⟨RB,hRB⟩:∃RB,w8.heap.size=RB:=⟨_,rfl⟩;rw[hRB]at HR9 HWL8 ⊢;clear hW9 hRB i0 i1 x0 x1 x2 x3;have hnew:=Ju HF.out;have hltF:∀k,X7 N mf mb vi Fi st k→k<w.heap.size:=fun k hk=>HP.out.lt k (by rw[hFe];exact hk);have hw4:=HWW4.out;have hmfl:mf<w.heap.size:=hltF mf (.inr (.inl rfl));have hRV:∀W,Off (fun k=>k=mf) W9 W→Jo W (.slice (some ⟨RB,0,none⟩) 1 1) [rcpOf (nm.data.toList,s.data.toList)]:=fun W ho=>by
      refine⟨some ⟨RB,0,none⟩,1,rfl,fun i hi=>⟨RB,0,.slice pv idl cv,rfl,?_⟩⟩;obtain rfl:i=0:=(by simp at hi;exact hi);have hb:=ho.blk HR9.out (fun e=>by have:=HWL8.out;omega);have h2:s.data.toList.length=s.size:=(by rw[Array.length_toList];rfl);refine⟨hb.lt,?_,?_,?_,hb.cell (i:=3) rfl,HI9.out.off ho (fun hne k hk e=>by have:=HIL.out hne k hk;omega)⟩
      ·have e:(⟨nm.data.toList.toArray⟩:ByteArray)=nm:=(by simp);show W.cell? _=some (.string ⟨nm.data.toList.toArray⟩);rw[e];exact hb.cell (i:=0) rfl
      ·show W.cell? _=some (.int .i64 (s.data.toList.length:Int));rw[h2];exact hb.cell (i:=1) rfl
      ·show W.cell? _=some (.int .u32 ((pmore 2166136261 s.data.toList:Nat):Int));rw[HPP.out];exact hb.cell (i:=2) rfl
     refine(Qkn N mf mb vi pi Fi (st.files.map rcpOf) st.bins (rp,rl) q F8 bl8 _ _ W9 HWR.out HN9.out.toR HP9.out (fun k hk hf=>by have h1:=HF8.out k hk;have h2:=hltF k (Qa1.1 hf);omega) hRV
      (fun r hr g hg=>by rw[List.mem_singleton.1 hr];obtain⟨f,hf,rfl⟩:=List.mem_map.1 hg;exact hnew f hf)
      (List.pairwise_singleton _ _)
      (fun r hr=>by rw[List.mem_singleton.1 hr];show nm.data.toList.length≤50000;rw[Array.length_toList];exact hnm)
      (fun r hr=>by rw[List.mem_singleton.1 hr];show(idsOf s.data.toList).length≤50000;have h1:=Qy s.data.toList;have h2:s.data.toList.length=s.size:=(by rw[Array.length_toList];rfl);unfold idsOf;rw[List.length_map];omega)
      (by simp) (by rw[List.length_map];have:=HFULL.out;omega) hbn).mono ?_
     rintro e w10 ⟨rfl,vi',pi',Fi',hR10,hF10,hO10⟩;have HNO:Hid (Q9 w10 ⟨N,0,none⟩ (Xg N mf mb vi' Fi' (((nm.data.toList,s.data.toList)::st.files).map rcpOf) (((rp,rl),bl8)::st.bins.filter (fun b => !decide (b.1=(rp,rl))))) ⟨(nm.data.toList,s.data.toList)::st.files,((rp,rl),bl8)::st.bins.filter (fun b => !decide (b.1=(rp,rl)))⟩):=Js.node (fl:=(nm.data.toList,s.data.toList)::st.files) hR10;have HFO:Hid (∀k,Xg N mf mb vi' Fi' (((nm.data.toList,s.data.toList)::st.files).map rcpOf) (((rp,rl),bl8)::st.bins.filter (fun b => !decide (b.1=(rp,rl)))) k→F k∨w.heap.size≤k):=fun k hk=>by
      rcases hF10 k hk with h|h|h
      ·exact .inl (by rw[hFe];exact Qa1.1 h)
      ·exact .inr (by have:=HF8.out k h;omega)
      ·exact .inr (Nat.le_trans HB9.out.size h)
     have HOO:Hid (Off F w w10):=(Off.of_below HB9.out).trans hO10 (fun i _ h=>by
      rw[hFe];rcases h with h|h
      ·exact .inr (.inl h)
      ·exact .inr (.inr (.inl h)))
     clear hR10 hF10 hO10 hRV hnew hltF hw4 hmfl;go_wp2_with fail;go_ret2;refine⟨.nilIface,_,?_,?_,?_,HFO.out,HOO.out⟩
     ·rw[HR.out];rfl
     ·rw[HR.out];exact .inl ⟨rfl,rfl⟩
     ·rw[HR.out];exact HNO.out
    ·have HR:=Qa (HRES.out.symm.trans (Qar HBAD.out HF.out HFULL.out HRP.out HBL.out hpa hec));obtain⟨t8,u8,rfl⟩:∃t u,ev8=.iface t u:=by
      rcases HE8.out with⟨_,hf⟩|⟨_,_,hv,_⟩|⟨_,_,_,_,_,_,hv,_⟩
      ·exact(hec (Prod.mk.inj hf).1).elim
      ·exact⟨_,_,hv⟩
      ·exact⟨_,_,hv⟩
     have HRE:Hid (Qp w.heap.size w8 a (.iface t8 u8) (ec,-1)):=by
      rcases HE8.out with h|h|⟨k1,pb,po,at0,h1,h2,h3,h4⟩
      ·exact .inl h
      ·exact .inr (.inl h)
      ·exact .inr (.inr ⟨k1,pb,po,at0,h1,by omega,h3,h4⟩)
     clear hpa hec HE8;go_wp2_with fail;go_ret2;exact Kz.same HR.out HP.out HB8.out HRE.out
 ·obtain⟨t1,u1,rfl⟩:∃t u,ev1=.iface t u:=by
   rcases HE1.out with⟨_,hf⟩|⟨_,_,hv,_⟩|⟨_,_,_,_,_,_,hv,_⟩
   ·exact(hbad (Prod.mk.inj hf).1).elim
   ·exact⟨_,_,hv⟩
   ·exact⟨_,_,hv⟩
  have HR:Hid (RES=(0,(ofR nm.data.toList s.data.toList).2,st)):=HRES.out.symm.trans (Uo hbad);clear hbad;generalize ofR nm.data.toList s.data.toList=R at *;obtain⟨⟨r1,r2,r3,r4⟩,rc⟩:=R;simp only at HI1 HE1 HR ⊢;obtain⟨pv,cv,rfl,_⟩:=HI1.out;have hal1:=(Below.refl _ w1).alloc wz (.cells #[.string ⟨r1.toArray⟩,.int .i64 r2,.int .u32 (r3:Nat),.slice pv r4.length cv] 40);go_wp2_with fail;go_ret2;exact Kz.same HR.out HP.out (HB1.out.trans (hal1.mono HB1.out.size)) (HE1.out.below hal1)
open Go.RowKit
theorem Qp.not_nil {base:Nat}{w:World}{a:Nat→Addr}{v:Value}{f:Int×Int}(h:Qp base w a v f)(hf:0<f.1):∃t u,v=.iface t u:=by
 rcases h with⟨_,rfl⟩|⟨k,_,rfl,_⟩|⟨k,pb,po,at0,_,_,rfl,_⟩
 ·simp at hf
 ·exact⟨_,_,rfl⟩
 ·exact⟨_,_,rfl⟩
theorem Qp.is_nil {base:Nat}{w:World}{a:Nat→Addr}{v:Value}(h:Qp base w a v (0,-1)):v=.nilIface:=by
 rcases h with⟨rfl,_⟩|⟨k,_,_,hf⟩|⟨k,pb,po,at0,_,_,_,_,_,hf⟩
 ·rfl
 ·have:=congrArg Prod.fst hf;simp at this;omega
 ·have:=congrArg Prod.fst hf;simp at this;omega
theorem Qp.low {base base':Nat}{w:World}{a:Nat→Addr}{v:Value}{f:Int×Int}(h:Qp base w a v f)(hb:base'≤base):Qp base' w a v f:=by
 rcases h with h|h|⟨k,pb,po,at0,hk,hl,hv,h0,h1,hf⟩
 ·exact .inl h
 ·exact .inr (.inl h)
 ·exact .inr (.inr ⟨k,pb,po,at0,hk,Nat.le_trans hb hl,hv,h0,h1,hf⟩)
theorem U8:∀(ids:List (Nat×Int)),(∀x∈ids,x.2.toNat≤9223372036854775807)→(idsText ids).length≤29*ids.length
 | [],_=>by simp[idsText]
 | x::r,h=>by have ih:=U8 r fun y hy=>h y (by simp[hy]);have h1:=Qnl x.1 x.2.toNat (h x (by simp));have e:idsText (x::r)=32::idText x.1 x.2.toNat++idsText r:=rfl;rw[e,List.length_append,List.length_cons,List.length_cons];omega
def Qa9 (ids:List (Nat×Int)):List (List UInt8):=ids.map fun x=>idText x.1 x.2.toNat
theorem Qt7 (nm:List UInt8)(len:Int)(p:Nat)(ids:List (Nat×Int)):Lib.join (nm::Lib.decDigits len.toNat::hexLast p 8::Qa9 ids) [32]=Zy nm len p ids:=by
 rw[Lib.join_cons];unfold Lib.joinTail Zy idsText Qa9;rw[List.map_cons,List.map_cons,List.map_map,List.flatten_cons,List.flatten_cons];have e:((fun x=>[32]++x) ∘ fun (x:Nat×Int)=>idText x.1 x.2.toNat)=fun (x:Nat×Int)=>(32:UInt8)::idText x.1 x.2.toNat:=rfl;rw[e];simp
def Qlz (a:Nat→Addr)(nm:ByteArray)(len:Int)(p:Nat)(ids:List (Nat×Int))(w:World)(e:Ending)(w':World):Prop:=∃ev,e=.returned (.tuple #[.string ⟨(Ud nm.data.toList len p ids).toArray⟩,ev])∧Qp w.heap.size w' a ev (Qb nm.data.toList len ids)∧Below w.heap.size w w'
def Xm (nm D X:ByteArray)(ids:List (Nat×Int)):List ByteArray:=nm::D::X::(Qa9 ids).map fun l=>⟨l.toArray⟩
theorem Vy (nm D X:ByteArray)(ids:List (Nat×Int)):(Xm nm D X ids).length=ids.length+3:=by simp[Xm,Qa9]
theorem Qi5 (nm D X:ByteArray)(ids:List (Nat×Int))(k:Nat)(h:k<ids.length):(Xm nm D X (ids.take (k+1))).map Value.string=(Xm nm D X (ids.take k)).map Value.string++[.string ⟨(idText ids[k].1 ids[k].2.toNat).toArray⟩]:=by
 rw[List.take_succ_eq_append_getElem h];simp only[Xm,Qa9,List.map_append,List.map_cons,List.map_nil,List.cons_append]
theorem Qnk (a:Nat→Addr)(nm:ByteArray)(hnm:nm.size≤maxLen)(len:Int)(p:Nat)(hp:p<4294967296)(v:Value)(ids:List (Nat×Int))(w:World)(hE:J6 w a)(ht:Y9 w)(hv:Q3 w v ids)(hlen:ids.length≤maxLen)(h32:∀j (hj:j<ids.length),ids[j].1<4294967296)(hf:Qb nm.data.toList len ids=(0,-1)) :
 Calls Tryz.prog 190 #[rcpV nm len (p:Nat) v] w fun e w'=>Qlz a nm len p ids w e w':=by
 obtain⟨i0,hi,hz0,hz1,hz2⟩:=info_parts Qge;obtain⟨hf1,⟨hf2,hf3⟩,hf4,hf5,_⟩:=Yc hf;have HT:Hid (Ud nm.data.toList len p ids=Zy nm.data.toList len p ids):=by show _=_;unfold Ud;rw[if_pos hf]
 have HF:Hid (Qb nm.data.toList len ids=(0,-1)):=hf;have HB:Hid (∀o,Below w.heap.size w (w.alloc o)):=fun o=>(Below.refl _ w).alloc wz o;have HC:Hid (∀o,Calls Tryz.prog 166 #[rcpV nm len (p:Nat) v] (w.alloc o) fun e w'=>∃ev,e=.returned ev∧Qp (w.alloc o).heap.size w' a ev (Qb nm.data.toList len ids)∧Below (w.alloc o).heap.size (w.alloc o) w'):=fun o=>Ua a nm hnm len p v ids _ ((hE.below (HB.out o) wz).on (by decide)) (hv.below (HB.out o)) hlen;have HOK:Hid (∀j (hj:j<ids.length),qo ids[j]=true):=fun j hj=>Uw ids 0 hf5 _ (List.getElem_mem hj);have H32:Hid (∀j (hj:j<ids.length),ids[j].1<4294967296):=h32;have HPW:Hid (∀W',Below w.heap.size w W'→Y9 W'):=fun W' hb=>ht.below hb wz;have HP:Hid (p<4294967296):=hp;have hnm12:nm.size≤12:=by unfold Qj at hf1;simp at hf1;exact hf1.2.2
 obtain⟨len,rfl⟩:=Int.eq_ofNat_of_zero_le hf2;have HL:Hid (len≤4000):=by show _≤_;omega
 have hi2:(ids.length:Int)≤250:=by omega
 have HJL:Hid ((Zy nm.data.toList (len:Nat) p ids).length≤100000):=by
  show _≤_;have h1:=U8 ids (fun x hx=>by obtain⟨j,hj,rfl⟩:=List.getElem_of_mem hx;have:=HOK.out j hj;simp only[qo,decide_eq_true_eq]at this;omega);have h2:=Vt len (by omega);have h3:nm.data.toList.length=nm.size:=by rw[Array.length_toList];rfl
  unfold Zy;simp only[List.length_append,List.length_cons,List.length_nil,Qm,Int.toNat_natCast];omega
 have HV:Hid (Q3 w v ids):=hv;obtain⟨pa,c,rfl,hcell⟩:=hv;have HCELL:Hid (∀W',Below w.heap.size w W'→∀i (h:i<ids.length),∃b o,pa=some ⟨b,o,none⟩∧W'.cell? ⟨b,o+i*2,none⟩=some (.int .u32 (ids[i].1:Nat))∧W'.cell? ⟨b,o+i*2+1,none⟩=some (.int .i64 ids[i].2)):=fun W' hb i hi=>by obtain⟨b,o,hp,hlt,h1,h2⟩:=hcell i hi;exact⟨b,o,hp,(hb.cell (p:=⟨b,o+i*2,none⟩) hlt).trans h1,(hb.cell (p:=⟨b,o+i*2+1,none⟩) hlt).trans h2⟩
 clear hnm hE hlen hf hcell ht hp h32 hf1 hf2 hf3 hf4 hf5 hnm12;obtain⟨D,hD⟩:∃D:ByteArray,(⟨(Lib.decDigits len).toArray⟩:ByteArray)=D:=⟨_,rfl⟩;obtain⟨X,hX⟩:∃X:ByteArray,(⟨(hexLast p 8).toArray⟩:ByteArray)=X:=⟨_,rfl⟩;have HDD:Hid ((⟨(Lib.decDigits len).toArray⟩:ByteArray)=D):=hD;have HXX:Hid ((⟨(hexLast p 8).toArray⟩:ByteArray)=X):=hX;clear hD hX;go_enter Tryz.func190,Tryz.ntmps190;go_wp2_with fail;refine(HC.out _).mono ?_;rintro e w1 ⟨ev,rfl,he,hb1⟩;rw[HF.out]at he;obtain rfl:=he.is_nil;have hbx:=HB.out (.cells #[.string nm,.int .i64 (len:Nat),.int .u32 (p:Nat),.slice pa ids.length c] 40);have hX0:=Blk.new w #[.string nm,.int .i64 (len:Nat),.int .u32 (p:Nat),.slice pa ids.length c] 40;have hX1:=hX0.next hb1;have hB1:Below w.heap.size w w1:=hbx.trans (hb1.mono hbx.size);clear he hb1 hX0 hbx HC;have x0:=hX1.cell (i:=0) rfl;have x1:=hX1.cell (i:=1) rfl;have x2:=hX1.cell (i:=2) rfl;go_wp2_with fail
 go_region_held3 (fun w'=>w'.cell? ⟨w.heap.size,0,none⟩=some (.string nm)∧w'.cell? ⟨w.heap.size,1,none⟩=some (.int .i64 (len:Nat))∧w'.cell? ⟨w.heap.size,2,none⟩=some (.int .u32 (p:Nat)))
  (first|exact⟨(hX3a _).cell (i:=0) rfl,(hX3a _).cell (i:=1) rfl,(hX3a _).cell (i:=2) rfl⟩|exact⟨hX3.cell (i:=0) rfl,hX3.cell (i:=1) rfl,hX3.cell (i:=2) rfl⟩|exact⟨hX2.cell (i:=0) rfl,hX2.cell (i:=1) rfl,hX2.cell (i:=2) rfl⟩|go_keep)
  (first|(go_at_call 193;refine(Qam len (by have:=HL.out;omega) _ (HPW.out _ hB1.drew)).mono ?_;rintro e w2 ⟨rfl,hb2⟩;rw[HDD.out];have hB2:Below w.heap.size w w2:=hB1.drew.trans (hb2.mono hB1.size);have hX2:=Blk.next (W:=w1.drew) hX1 hb2)|(go_at_call 195;refine(hexText_any p HP.out _).mono ?_;rintro e w3 ⟨rfl,hb3⟩;rw[HXX.out];have hB3:Below w.heap.size w w3:=hB2.trans (hb3.mono hB2.size);have hX3:=hX2.next hb3;have hX3a:=fun o=>hX3.next ((Below.refl _ w3).alloc wz o)))
 have hr0:(w3.alloc (.cells #[.string nm,.string D,.string X] 9)).ownsRow w3.heap.size 9 1 (.slice (some ⟨w3.heap.size,0,none⟩) 3 3) 3 ((Xm nm D X (ids.take 0)).map Value.string):=by have:=World.ownsRow_lit (base:=w3.heap.size) (e:=9) (size:=1) w3 #[.string nm,.string D,.string X] 3 wz (by decide) rfl;simpa[Xm,Qa9]using this
 have hB3a:Below w3.heap.size w3 (w3.alloc (.cells #[.string nm,.string D,.string X] 9)):=(Below.refl _ w3).alloc wz _;obtain⟨W3,hW3⟩:∃W3,w3.alloc (.cells #[.string nm,.string D,.string X] 9)=W3:=⟨_,rfl⟩;have x3:=(hX3a (.cells #[.string nm,.string D,.string X] 9)).cell (i:=3) rfl;rw[hW3]at hr0 hB3a x3 ⊢;clear hW3 hX3a hX3 hX2 hX1 hb3 hb2 hB1 hB2;go_wp2_with fail
 go_loopw [5,25] (fun v i wr=>∃(k:Nat),k≤ids.length∧i=.int .i64 k∧wr.ownsRow w3.heap.size 9 1 v (k+3) ((Xm nm D X (ids.take k)).map Value.string)∧Below w3.heap.size w3 wr) (fun _ i _=>ids.length - (intOf i).toNat)
 case atStart=>exact⟨0,Nat.zero_le _,rfl,hr0,hB3a⟩
 case round=>
  obtain⟨k,hk,rfl,hown,hbr⟩:=hrel;clear hr0 hB3a x3;have hbw:Below w.heap.size w wr:=hB3.trans (hbr.mono hB3.size);by_cases hlt:k<ids.length
  ·have hlt':(k:Int)<(ids.length:Int):=(by omega);obtain⟨b,o,rfl,hd0,hd1⟩:=HCELL.out wr hbw k hlt;have hok:=HOK.out k hlt;have h32:=H32.out k hlt;have HNX:Hid ((Xm nm D X (ids.take (k+1))).map Value.string=(Xm nm D X (ids.take k)).map Value.string++[.string ⟨(idText ids[k].1 ids[k].2.toNat).toArray⟩]):=Qi5 nm D X ids k hlt;obtain⟨⟨n,l⟩,hy⟩:∃y,ids[k]=y:=⟨_,rfl⟩;rw[hy]at hok h32 hd0 hd1 HNX;simp only[qo,decide_eq_true_eq]at hok;obtain⟨l',rfl⟩:=Int.eq_ofNat_of_zero_le (show 0≤l by omega);have HH:Hid (n<4294967296):=h32;have HLL:Hid (l'≤64):=(by show _≤_;omega);obtain⟨I,hI⟩:∃I:ByteArray,(⟨(idText n l').toArray⟩:ByteArray)=I:=⟨_,rfl⟩;have HII:Hid ((⟨(idText n l').toArray⟩:ByteArray)=I):=hI;simp only[Int.toNat_natCast]at HNX;rw[hI]at HNX;have hal:Below wr.heap.size wr (wr.alloc (.cells #[.int .u32 (n:Nat),.int .i64 (l':Nat)] 25)):=(Below.refl _ wr).alloc wz _;clear hI hok h32 hy;go_wp2_with fail;refine(Qk4 n l' HH.out (by have:=HLL.out;omega) _ (HPW.out _ (hbw.trans (hal.mono hbw.size)))).mono ?_;rintro e w4 ⟨rfl,hb4⟩;rw[HII.out];have hB4:Below wr.heap.size wr w4:=hal.trans (hb4.mono hal.size);have hown4:=Qi hown hB4;have hbr4:Below w3.heap.size w3 w4:=hbr.trans (hB4.mono hbr.size);clear hown hb4 hB4 hal;go_wp2_with (at_builtin;refine wpList_append_own _ rfl (.tmp 29) (.tmp 32) 73 rfl w3.heap.size 9 i0 (.string ⟨#[]⟩) 1 16 Tryz.underlying73 hi hz0 hz1 hz2 rfl (by decide) _ _ _ rfl (hown4.alloc _) ⟨w4.heap.size,0,none⟩ 1 1 [.string I] rfl rfl (cell_one_new _ _ _) (by simp[Value.oneCell']) (by unfold maxLen;omega) (by omega) (by have:=hbr4.size;simp;omega) ?_;intro v' w5 hown' hgrow _;obtain⟨g',cap',rfl⟩:=ownsRow_succ hown');have hbr5:Below w3.heap.size w3 w5:=(hbr4.alloc hbr4.size _).grown hgrow (by have:=hbr4.size;simp;omega) (fun j e=>Xf hown4 e);clear hgrow hown4;go_wp2_with fail;go_roundw
   case rel=>exact⟨k+1,by omega,by go_num,by rw[HNX.out];exact hown',hbr5⟩
   case measure=>simp[intOf];omega
  ·have hge:(ids.length:Int)≤(k:Int):=(by omega);rw[List.take_of_length_le (by omega)]at hown;obtain rfl:k=ids.length:=(by omega);obtain⟨g,cap,hu5,hcap,hcm,hgl,hgc⟩:=Qsw hown (by omega);subst hu5;have HJ:Hid (Calls Tryz.prog 200 #[.slice (some ⟨g,0,none⟩) (ids.length+3) cap,.string ⟨#[32]⟩] wr fun e w'=>e=.returned (.string ⟨(Zy nm.data.toList (len:Nat) p ids).toArray⟩)∧Below wr.heap.size wr w'):=by
    show Calls _ _ _ _ _;have e1:Lib.join ((Xm nm D X ids).map (·.data.toList)) [32]=Zy nm.data.toList (len:Nat) p ids:=by rw[←Qt7];unfold Xm;rw[List.map_cons,List.map_cons,List.map_cons,List.map_map,←HDD.out,←HXX.out];have:((fun (x:ByteArray)=>x.data.toList) ∘ fun (l:List UInt8)=>(⟨l.toArray⟩:ByteArray))=id:=(by funext l;simp);rw[this,List.map_id];simp
    have hj:=Tryz.strings_Join g 0 cap (Xm nm D X ids) ⟨#[32]⟩ wr (fun j x hx=>by have hjl:j<(Xm nm D X ids).length:=(List.getElem?_eq_some_iff.1 hx).1;have:=hgc j (by rw[List.length_map];exact hjl);rw[Nat.zero_add,this,List.getElem_map];rw[List.getElem?_eq_getElem hjl]at hx;rw[Option.some.inj hx]) hgl (by rw[Vy];omega) (by rw[Vy];exact hcap) (by show(Lib.join _ [32]).length≤_;rw[e1];have:=HJL.out;omega);rw[Vy]at hj;refine hj.mono fun e w' ⟨h1,h2⟩=>⟨?_,h2⟩;rw[h1];exact congrArg (fun l:List UInt8=>Ending.returned (.string ⟨l.toArray⟩)) e1
   clear hown hgc;go_wp2_with fail;refine HJ.out.mono ?_;rintro e w6 ⟨rfl,hb6⟩;obtain⟨T,hT⟩:∃T:ByteArray,(⟨(Zy nm.data.toList (len:Nat) p ids).toArray⟩:ByteArray)=T:=⟨_,rfl⟩;have HTT:Hid ((⟨(Zy nm.data.toList (len:Nat) p ids).toArray⟩:ByteArray)=T):=hT;rw[hT];clear hT;go_wp2_with fail;go_ret2;exact⟨.nilIface,by rw[HT.out,HTT.out];rfl,by rw[HF.out];exact Qp.mkNil _ _ a,hbw.trans (hb6.mono hbw.size)⟩
theorem Qps (l:List (List UInt8)):Lib.join l []=l.flatten:=by
 cases l with
 | nil=>rfl
 | cons x r=>
  rw[Lib.join_cons];unfold Lib.joinTail;simp
theorem Qb0:∀(l:List (List UInt8)),(∀i (h:i<l.length),l[i].length≤100)→l.flatten.length≤100*l.length
 | [],_=>by simp
 | x::r,h=>by
  have ih:=Qb0 r fun i hi=>by have:=h (i+1) (by simpa using hi);simpa using this
  have h0:=h 0 (by simp);rw[List.flatten_cons,List.length_append,List.length_cons];simp at h0;omega
def Qkd (a:Nat→Addr)(nm:ByteArray)(len:Int)(p:Nat)(ids:List (Nat×Int))(ls:List (List UInt8))(w:World)(e:Ending)(w':World):Prop:=∃ev,e=.returned (.tuple #[.string ⟨(X9 nm.data.toList len p ids ls).1.toArray⟩,ev])∧Qp w.heap.size w' a ev (X9 nm.data.toList len p ids ls).2∧Below w.heap.size w w'
theorem Qq5 (vl:Value)(ls:List (List UInt8))(w:World)(hl:Zj w vl (ls.map Qcd))(hn:ls.length≤50000)(hsz:∀i (h:i<ls.length),ls[i].length≤100) :
 Calls Tryz.prog 200 #[vl,.string ⟨#[]⟩] w fun e w'=>e=.returned (.string ⟨ls.flatten.toArray⟩)∧Below w.heap.size w w':=by
 obtain⟨p,c,rfl,hc⟩:=hl;rw[List.length_map];by_cases h0:ls.length=0
 ·have e:ls=[]:=List.eq_nil_of_length_eq_zero h0;subst e;exact(Tryz.strings_Join_none p c ⟨#[]⟩ w).mono fun e w' ⟨h1,h2⟩=>⟨h1,by rw[h2];exact Below.refl _ _⟩
 ·obtain⟨b,o,rfl,⟨hb,hcap⟩,_⟩:=hc 0 (by rw[List.length_map];omega);rw[List.length_map]at hcap;have hx:(ls.map fun l=>(⟨l.toArray⟩:ByteArray)).length=ls.length:=List.length_map _;have e1:Lib.join ((ls.map fun l=>(⟨l.toArray⟩:ByteArray)).map (·.data.toList)) []=ls.flatten:=by rw[List.map_map];have:((fun (x:ByteArray)=>x.data.toList) ∘ fun (l:List UInt8)=>(⟨l.toArray⟩:ByteArray))=id:=(by funext l;simp);rw[this,List.map_id,Qps]
  have hfl:=Qb0 ls hsz;have hj:=Tryz.strings_Join b o c (ls.map fun l=>(⟨l.toArray⟩:ByteArray)) ⟨#[]⟩ w (fun j x hj=>by have hjl:j<ls.length:=(by rw[←hx];exact(List.getElem?_eq_some_iff.1 hj).1);obtain⟨b',o',hp,_,hcell⟩:=hc j (by rw[List.length_map];exact hjl);cases hp;rw[hcell,List.getElem_map];rw[List.getElem?_eq_getElem (by rw[hx];exact hjl),List.getElem_map]at hj;rw[←Option.some.inj hj]) hb (by rw[hx];omega) (by rw[hx];exact hcap) (by show(Lib.join _ []).length≤_;rw[e1];omega);rw[hx]at hj;refine hj.mono fun e w' ⟨h1,h2⟩=>⟨?_,h2⟩;rw[h1];exact congrArg (fun l:List UInt8=>Ending.returned (.string ⟨l.toArray⟩)) e1
theorem Qrj (a:Nat→Addr)(nm:ByteArray)(hnm:nm.size≤maxLen)(len:Int)(p:Nat)(v vl:Value)(ids:List (Nat×Int))(ls:List (List UInt8))(w:World)(hE:Je [1,2,3,6,8] w a)(hv:Q3 w v ids)(hlen:ids.length≤maxLen)(hl:Zj w vl (ls.map Qcd))(hll:ls.length≤50000)
 (hsz:∀i (h:i<ls.length),ls[i].length≤100) :
 Calls Tryz.prog 120 #[rcpV nm len (p:Nat) v,vl] w fun e w'=>Qkd a nm len p ids ls w e w':=by
 have HB:Hid (∀o,Below w.heap.size w (w.alloc o)):=fun o=>(Below.refl _ w).alloc wz o;have HC:Hid (∀o,Calls Tryz.prog 166 #[rcpV nm len (p:Nat) v] (w.alloc o) fun e w'=>∃ev,e=.returned ev∧Qp (w.alloc o).heap.size w' a ev (Qb nm.data.toList len ids)∧Below (w.alloc o).heap.size (w.alloc o) w'):=fun o=>Ua a nm hnm len p v ids _ (hE.below (HB.out o) wz) (hv.below (HB.out o)) hlen;have HG:Hid (∀W',Below w.heap.size w W'→∀i,([1,2,3,6,8]:List Nat).contains i=true→W'.cell? ⟨Xn i,0,none⟩=some (sentV a i)):=fun W' hb i hi=>(hE.below hb wz).glob i hi;have HJT:Hid (∀W',Below w.heap.size w W'→Calls Tryz.prog 200 #[vl,.string ⟨#[]⟩] W' fun e w'=>e=.returned (.string ⟨ls.flatten.toArray⟩)∧Below W'.heap.size W' w'):=fun W' hb=>Qq5 vl ls W' (hl.below hb) hll hsz;obtain⟨pa,ca,rfl,hcell⟩:=hv;obtain⟨pb,cb,rfl,hcl⟩:=hl;simp only[List.length_map,List.getElem_map]at hcl ⊢;simp only[List.length_map]at HJT;have HSZ:Hid (∀i (h:i<ls.length),ls[i].length≤100):=hsz;have hl2:(ids.length:Int)≤9223372036854775807:=by unfold maxLen at hlen;omega
 have hl3:(ls.length:Int)≤50000:=by omega
 have HCI:Hid (∀W',Below w.heap.size w W'→∀i (h:i<ids.length),∃b o,pa=some ⟨b,o,none⟩∧W'.cell? ⟨b,o+i*2,none⟩=some (.int .u32 (ids[i].1:Nat))∧W'.cell? ⟨b,o+i*2+1,none⟩=some (.int .i64 ids[i].2)):=fun W' hb i hi=>by obtain⟨b,o,hp,hlt,h1,h2⟩:=hcell i hi;exact⟨b,o,hp,(hb.cell (p:=⟨b,o+i*2,none⟩) hlt).trans h1,(hb.cell (p:=⟨b,o+i*2+1,none⟩) hlt).trans h2⟩
 have HCL:Hid (∀W',Below w.heap.size w W'→∀i (h:i<ls.length),∃b o,pb=some ⟨b,o,none⟩∧W'.cell? ⟨b,o+i,none⟩=some (Qcd ls[i])):=fun W' hb i hi=>by obtain⟨b,o,hp,hlt,h1⟩:=hcl i hi;exact⟨b,o,hp,(hb.cell (p:=⟨b,o+i,none⟩) hlt.1).trans h1⟩
 clear hcell hcl hnm hlen hll hsz hE;go_enter Tryz.func120,Tryz.ntmps120;go_wp2_with fail;refine(HC.out _).mono ?_;rintro e w1 ⟨ev,rfl,he,hb1⟩;have hbx:=HB.out (.cells #[.string nm,.int .i64 len,.int .u32 (p:Nat),.slice pa ids.length ca] 40);have hX0:=Blk.new w #[.string nm,.int .i64 len,.int .u32 (p:Nat),.slice pa ids.length ca] 40;have hX1:=hX0.next hb1;have hB1:Below w.heap.size w w1:=hbx.trans (hb1.mono hbx.size);replace he:=he.low hbx.size;clear hb1 hX0 hbx HC;rcases recFault_code nm.data.toList len ids with hf|hf
 ·rw[hf]at he;obtain rfl:=he.is_nil;have HF:Hid (Qb nm.data.toList len ids=(0,-1)):=hf;obtain⟨_,_,h250,_,_⟩:=Yc hf;have H250:Hid (ids.length≤250):=h250;clear he hf h250;have b3:=hX1.cell (i:=3) rfl;by_cases hll:ls.length=ids.length
  ·have HLL:Hid (ls.length=ids.length):=hll;have hq:((ls.length:Int)==(ids.length:Int))=true:=(by rw[beq_iff_eq];omega);have hqn:((ls.length:Int) != (ids.length:Int))=false:=(by rw[bne,hq];rfl);clear hll;go_wp2_with fail;clear b3
   go_loopw [24] (fun i wr=>∃(k:Nat),k≤ls.length∧i=.int .i64 k∧(∀j (hj:j<ls.length) (hj':j<ids.length),j<k→Qc ls[j]=ids[j])∧Below w.heap.size w wr∧Blk wr w.heap.size #[.string nm,.int .i64 len,.int .u32 (p:Nat),.slice pa ids.length ca] 40) (fun i _=>ls.length - (intOf i).toNat)
   case atStart=>exact⟨0,Nat.zero_le _,rfl,fun j _ _ h=>by omega,hB1,hX1⟩
   case round=>
    obtain⟨k,hk,rfl,hsame,hbr,hX⟩:=hrel;have HSM:Hid (∀j (hj:j<ls.length) (hj':j<ids.length),j<k→Qc ls[j]=ids[j]):=hsame;clear hsame hB1 hX1;have b2:=hX.cell (i:=2) rfl;have b3:=hX.cell (i:=3) rfl;by_cases hlt:k<ls.length
    ·have hlt':(k:Int)<(ls.length:Int):=(by omega);have hki:k<ids.length:=(by have:=HLL.out;omega);have hki':(k:Int)<(ids.length:Int):=(by omega);have hk0:(0:Int)≤(k:Int):=(by omega);obtain⟨bi,oi,rfl,hi0,hi1⟩:=HCI.out wr hbr k hki;obtain⟨bl,ol,rfl,hl0⟩:=HCL.out wr hbr k hlt;have HCI2:Hid (∀W',Below w.heap.size w W'→W'.cell? ⟨bi,oi+k*2,none⟩=some (.int .u32 (ids[k].1:Nat))∧W'.cell? ⟨bi,oi+k*2+1,none⟩=some (.int .i64 ids[k].2)):=fun W' hb=>by obtain⟨b,o,hp,h1,h2⟩:=HCI.out W' hb k hki;cases hp;exact⟨h1,h2⟩
     have HLS:Hid (ls[k].length≤100):=HSZ.out k hlt;have HID:Hid (Qc ls[k]=(pmore 2166136261 ls[k],(ls[k].length:Int))):=rfl;have HST:Hid (Qc ls[k]=ids[k]→∀j (hj:j<ls.length) (hj':j<ids.length),j<k+1→Qc ls[j]=ids[j]):=fun e j hj hj' h=>by
      by_cases ej:j=k
      ·subst ej;exact e
      ·exact HSM.out j hj hj' (by omega)
     have HOD:Hid (Qc ls[k]≠ids[k]→Xw 0 ls ids=some k):=fun e=>by have:=Qet ls ids 0 k hlt hki (fun j hj hj' h=>HSM.out j hj hj' h) e;rwa [Nat.zero_add]at this
     obtain⟨q,hq⟩:∃q:ByteArray,(⟨ls[k].toArray⟩:ByteArray)=q:=⟨_,rfl⟩;have hqd:q.data.toList=ls[k]:=(by rw[←hq]);have hqs:(ls[k].length:Int)=(q.size:Int):=(by rw[←hq];rfl);have hqn:q.size≤100:=(by have:=HLS.out;omega);rw[Qcd,hq]at hl0;rw[hqs,←hqd]at HID;obtain⟨P,hP⟩:∃P,pmore 2166136261 q.data.toList=P:=⟨_,rfl⟩;have HPP:Hid (pmore 2166136261 q.data.toList=P):=hP;obtain⟨L,hL⟩:∃L:Int,(q.size:Int)=L:=⟨_,rfl⟩;have HQL:Hid ((q.size:Int)=L):=hL;rw[hP,hL]at HID;obtain⟨⟨n,l⟩,hy⟩:∃y,ids[k]=y:=⟨_,rfl⟩;obtain⟨z,hz⟩:∃z,Qc ls[k]=z:=⟨_,rfl⟩;rw[hy]at hi0 hi1 HCI2 HST HOD;rw[hqd,hz]at HID;rw[hz]at HST HOD;have HQM:Hid (q.size≤maxLen):=(by show _≤_;unfold maxLen;omega);clear hqs hq hqd hP hL hy hz HLS hqn;have HBN:Hid (Blk wr w.heap.size #[.string nm,.int .i64 len,.int .u32 (p:Nat),.slice (some ⟨bi,oi,none⟩) ids.length ca] 40):=hX;by_cases hid:P=n∧L=l
     ·obtain⟨rfl,rfl⟩:=hid;go_wp2_with fail
      go_region_held3 (fun w'=>w'.cell? ⟨w.heap.size,3,none⟩=some (.slice (some ⟨bi,oi,none⟩) ids.length ca)∧w'.cell? ⟨bi,oi+k*2,none⟩=some (.int .u32 (P:Nat))∧w'.cell? ⟨bi,oi+k*2+1,none⟩=some (.int .i64 L)) (first|exact⟨hX4.cell (i:=3) rfl,y0,y1⟩|go_keep) (first
       | (go_at_call 168;refine(Y0 q _ HQM.out).mono ?_;rintro e w4 ⟨rfl,hb4⟩;rw[HPP.out,HQL.out];have hB4:Below w.heap.size w w4:=hbr.drew.trans (hb4.mono hbr.size);have hX4:=Blk.next (W:=wr.drew) HBN.out hb4;obtain⟨y0,y1⟩:=HCI2.out w4 hB4))
      go_wp2_with fail;go_roundw
      case rel=>exact⟨k+1,by omega,by go_num,HST.out HID.out,hB4,hX4⟩
      case measure=>simp[intOf];omega
     ·have HR:Hid (X9 nm.data.toList len p ids ls=([],(9,(k:Int)))):=(by show _=_;unfold X9;rw[if_neg (by rw[HF.out];simp),if_neg (by rw[HLL.out];simp),HOD.out (by rw[HID.out];intro e;cases e;exact hid ⟨rfl,rfl⟩)]);have hdis:((P:Int)==(n:Int))=false∨(((P:Int)==(n:Int))=true∧(L==l)=false):=by
       by_cases h:P=n
       ·exact .inr ⟨by rw[beq_iff_eq];omega,by rw[beq_eq_false_iff_ne];exact fun e=>hid ⟨h,e⟩⟩
       ·exact .inl (by rw[beq_eq_false_iff_ne];omega)
      clear hid;rcases hdis with hPn|⟨hPn,hLl⟩
      all_goals
       go_wp2_with fail
       go_region_held3 (fun w'=>w'.cell? ⟨w.heap.size,3,none⟩=some (.slice (some ⟨bi,oi,none⟩) ids.length ca)∧w'.cell? ⟨bi,oi+k*2,none⟩=some (.int .u32 (n:Nat))∧w'.cell? ⟨bi,oi+k*2+1,none⟩=some (.int .i64 l)) (first|exact⟨hX4.cell (i:=3) rfl,y0,y1⟩|go_keep) (first
        | (go_at_call 168;refine(Y0 q _ HQM.out).mono ?_;rintro e w4 ⟨rfl,hb4⟩;rw[HPP.out,HQL.out];have hB4:Below w.heap.size w w4:=hbr.drew.trans (hb4.mono hbr.size);have hX4:=Blk.next (W:=wr.drew) HBN.out hb4;obtain⟨y0,y1⟩:=HCI2.out w4 hB4))
       have g8:=HG.out w4 hB4 8 (by decide);dsimp only[Xn]at g8;go_wp2_with fail;go_region
       all_goals go_wp2_with fail
       all_goals go_ret2
       all_goals refine⟨.iface 223 (.pointer (some ⟨w4.heap.size,0,none⟩)),by rw[HR.out];rfl,?_,?_⟩
       all_goals first
        | exact(hB4.drew).alloc hB4.size _
        | (rw[HR.out];exact .inr (.inr ⟨8,w4.heap.size,0,(k:Int),by decide,hB4.size,rfl,by simp,by simp,rfl⟩))
    ·have hge:(ls.length:Int)≤(k:Int):=(by omega);have HNO:Hid (Xw 0 ls ids=none):=Gu ls ids 0 (fun j hj hj'=>HSM.out j hj hj' (by omega));obtain⟨T,hT⟩:∃T:ByteArray,(⟨ls.flatten.toArray⟩:ByteArray)=T:=⟨_,rfl⟩;have HTT:Hid ((⟨ls.flatten.toArray⟩:ByteArray)=T):=hT;have hTd:T.data.toList=ls.flatten:=(by rw[←hT]);have HJN:Hid (X9 nm.data.toList len p ids ls=if pmore 2166136261 T.data.toList=p then (T.data.toList,(0,-1)) else ([],(9,-1))):=(by show _=_;unfold X9;rw[if_neg (by rw[HF.out];simp),if_neg (by rw[HLL.out];simp),HNO.out,hTd])
     have HAM:Hid (T.size≤maxLen):=(by show _≤_;have h1:T.size=ls.flatten.length:=(by rw[←hTd,Array.length_toList];rfl);have h2:=Qb0 ls HSZ.out;have h3:=HLL.out;have h4:=H250.out;unfold maxLen;omega);obtain⟨P,hP⟩:∃P,pmore 2166136261 T.data.toList=P:=⟨_,rfl⟩;have HPP:Hid (pmore 2166136261 T.data.toList=P):=hP;rw[hP]at HJN;clear hP hTd hT HNO b2 b3;go_wp2_with fail;refine(HJT.out wr hbr).mono ?_;rintro e w5 ⟨rfl,hb5⟩;rw[HTT.out];have hX5:=hX.next hb5;have hB5:Below w.heap.size w w5:=hbr.trans (hb5.mono hbr.size);have b2:=hX5.cell (i:=2) rfl;have g8:=HG.out w5 hB5 8 (by decide);dsimp only[Xn]at g8;clear hb5;by_cases hPp:P=p
     ·subst hPp;have HR:Hid (X9 nm.data.toList len P ids ls=(T.data.toList,(0,-1))):=(by show _=_;rw[HJN.out,if_pos rfl]);clear HJN;go_wp2_with fail
      go_region_held3 (fun w'=>w'.cell? ⟨w.heap.size,2,none⟩=some (.int .u32 (P:Nat))) (go_keep) (first
       | (go_at_call 174;refine(Qdn T _ HAM.out).mono ?_;rintro e w6 ⟨rfl,hw6⟩;subst hw6;rw[HPP.out]))
      go_wp2_with fail;go_ret2;have HAE:Hid (T=⟨T.data.toList.toArray⟩):=Ql6 rfl;exact⟨.nilIface,by rw[HR.out,←HAE.out];rfl,by rw[HR.out];exact Qp.mkNil _ _ a,hB5.drew⟩
     ·have HR:Hid (X9 nm.data.toList len p ids ls=([],(9,-1))):=(by show _=_;rw[HJN.out,if_neg hPp]);have hb:((P:Int)==(p:Int))=false:=(by rw[beq_eq_false_iff_ne];omega);have hbn:((P:Int) != (p:Int))=true:=(by rw[bne,hb];rfl);clear HJN hPp;go_wp2_with fail
      go_region_held3 (fun w'=>w'.cell? ⟨w.heap.size,2,none⟩=some (.int .u32 (p:Nat))) (go_keep) (first
       | (go_at_call 174;refine(Qdn T _ HAM.out).mono ?_;rintro e w6 ⟨rfl,hw6⟩;subst hw6;rw[HPP.out]))
      go_wp2_with fail;go_region
      all_goals go_wp2_with fail
      all_goals go_ret2
      all_goals exact⟨sentV a 8,by rw[HR.out];rfl,by rw[HR.out];exact Qp.sent _ _ a 8 (by decide) rfl,hB5.drew.drew⟩
  ·have HR:Hid (X9 nm.data.toList len p ids ls=([],(3,-1))):=(by show _=_;unfold X9;rw[if_neg (by rw[HF.out];simp),if_pos hll]);have hq:((ls.length:Int)==(ids.length:Int))=false:=(by rw[beq_eq_false_iff_ne];omega);have hqn:((ls.length:Int) != (ids.length:Int))=true:=(by rw[bne,hq];rfl);have g2:=HG.out w1 hB1 2 (by decide);dsimp only[Xn]at g2;clear hll;go_wp2_with fail;go_region
   all_goals go_wp2_with fail
   all_goals go_ret2
   all_goals exact⟨sentV a 2,by rw[HR.out];rfl,by rw[HR.out];exact Qp.sent _ _ a 2 (by decide) rfl,hB1.drew⟩
 ·have HR:Hid (X9 nm.data.toList len p ids ls=([],Qb nm.data.toList len ids)):=by show _=_;unfold X9;rw[if_pos (by intro e;rw[e]at hf;simp at hf)]
  obtain⟨t,u,rfl⟩:=he.not_nil hf;have HE:Hid (Qp w.heap.size w1 a (.iface t u) (Qb nm.data.toList len ids)):=he;clear he hf;go_wp2_with fail;go_ret2;exact⟨.iface t u,by rw[HR.out];rfl,by rw[HR.out];exact HE.out,hB1⟩
theorem look1 {P:Program}{k:TypeId}{κ β:Type}{M:Qf P k κ β}{w:World}{b:Nat}{l:List (κ×β)}{t e:TypeId}{c0:β}(h:M.Of w b l)(ht:P.underlying t=some (.map k e))(hz:(zeroValue e).run P w=.ok (M.mkV c0) w){x:κ}{c:β}(hm:(x,c)∈l) :
 (Instr.lookup t (.map (some b)) (M.mkK x) false).run P w=.ok (M.mkV c) w:=by have hx:M.wf x:=h.wf _ hm;obtain⟨ds,ho,hp⟩:=h.own;obtain⟨es,e,hap,_⟩:=ho.entries M.K;cases e;have hd:(M.kl x,DataW.held (M.mkV c))∈ds:=hp.mem_iff.2 (List.mem_map.2 ⟨_,hm,rfl⟩);have hat:∀z,(DataW.map ds).atKey (M.kl x) z=.held (M.mkV c):=fun z=>WideAt.atKey_mem z (M.isKey hx) hap hd;obtain⟨v,ps,hrun,hv⟩:=ho.lookup M.K ht hz (M.R_mk c0) (M.key_kl hx);rw[hat]at hv;obtain⟨c',rfl,e⟩:=M.R_inv hv;have ev:M.mkV c=M.mkV c':=DataW.held.inj (Prod.mk.inj e).1;rw[hrun,ev]
theorem Qkw (w:World):Calls Tryz.prog 114 #[.nilIface] w fun e w'=>e=.returned .nilIface∧Below w.heap.size w w':=by
 have hal:=(Below.refl _ w).alloc wz (.cells #[.pointer none] 223);go_enter Tryz.func114,Tryz.ntmps114;go_wp2_with fail;refine(Qr6 _ _).mono ?_;rintro e w1 ⟨rfl,hw1⟩;subst hw1;go_wp2_with fail;go_ret;exact⟨rfl,hal⟩
theorem Vg (a:Nat→Addr)(nm:ByteArray)(p:Addr)(F:Nat→Prop)(st:NSt)(w:World)(s:List UInt8)(l:List Hd)(hnm:nm.size≤50000)(hf:nFile st.files nm.data.toList=some s)(hb:Zi st.bins (Qg s)=some l)(hgot:∀t∈pieces s,Qal l (Qc t)=(t,0))(hname:Qj nm.data.toList=true)(hs:s.length≤4000)(hE:Je [1,2,3,4,6,8] w a)(hP:Q9 w p F st) :
 Calls Tryz.prog 40 #[.pointer (some p),.string nm] w fun e w'=>e=.returned (.tuple #[.string ⟨s.toArray⟩,.nilIface])∧Below w.heap.size w w':=by
 obtain⟨N,mf,mb,vi,pi,Fi,rfl,h,_⟩:=hP;have HEE:Hid (∀W,Below w.heap.size w W→Je [1,2,3,4,6,8] W a):=fun W hb=>hE.below hb wz;have HH:=Qa h;have q0:=h.blk.cell (i:=0) rfl;have q1:=h.blk.cell (i:=1) rfl;have hnmE:(⟨nm.data.toList.toArray⟩:ByteArray)=nm:=by simp
 obtain⟨pv0,cv0,hv0,_⟩:=h.ids _ (nFile_some hf);have HI:=Qa (h.ids _ (nFile_some hf));simp only at hv0 HI;have HLEN:Hid ((idsOf s).length≤4000):=by show _≤_;have h1:=Qy s;unfold idsOf;rw[List.length_map];omega
 have HB:=Qa (h.bin _ (J3 hb));have hmb:=J3 hb;have l0:(Instr.lookup 118 (.map (some mf)) (.string nm) true).run Tryz.prog w=.ok (.tuple #[.agg #[.string nm,.int .i64 (s.length:Int),.int .u32 ((pmore 2166136261 s:Nat):Int),.slice pv0 (idsOf s).length cv0],.bool true]) w:=by have:=h.files.look_some Tryz.underlying118 (Y5 _) (List.mem_map.2 ⟨_,nFile_some hf,rfl⟩);change(Instr.lookup _ _ (.string ⟨nm.data.toList.toArray⟩) true).run _ _=.ok (.tuple #[rcpV ⟨nm.data.toList.toArray⟩ (s.length:Int) ((pmore 2166136261 s:Nat):Int) (vi nm.data.toList),.bool true]) _ at this;rw[hnmE,hv0]at this;exact this
 rw[hv0]at HI;obtain⟨P,hPP⟩:∃P,pmore 2166136261 s=P:=⟨_,rfl⟩;obtain⟨L,hLL⟩:∃L,(s.length:Int)=L:=⟨_,rfl⟩;obtain⟨idl,hidl⟩:∃idl,(idsOf s).length=idl:=⟨_,rfl⟩;obtain⟨⟨rp,rl⟩,hrep⟩:∃r,Qg s=r:=⟨_,rfl⟩;have HPP:=Qa hPP;have HLL:=Qa hLL;have HID:=Qa hidl;have HRP:=Qa hrep;have HGOT:=Qa hgot;have HJ:=Qa (Qhr nm.data.toList s hname hs);rw[hPP,hLL,hidl]at l0;rw[hidl]at HI HLEN;rw[hrep]at HB hmb;rw[hPP,hLL]at HJ;clear hnmE hE hv0 hPP hLL hidl hf hb hgot hname hs h hrep;have hal:=(Below.refl _ w).alloc wz (.cells #[.string nm,.int .i64 L,.int .u32 (P:Nat),.slice pv0 idl cv0] 40);have hbr:=Blk.new w #[.string nm,.int .i64 L,.int .u32 (P:Nat),.slice pv0 idl cv0] 40;go_enter Tryz.func40,Tryz.ntmps40;go_wp2_with fail;generalize hW:w.alloc (.cells #[.string nm,.int .i64 L,.int .u32 (P:Nat),.slice pv0 idl cv0] 40)=W at *;clear hW;have HB1:=Qa hal;have HN1:=Qa (HH.out.below hal);have HI1:=Qa (HI.out.below hal);have HREP:=Qa (fun W (hv:Q3 W (.slice pv0 idl cv0) (idsOf s))=>Ga nm L (P:Int) (.slice pv0 idl cv0) (idsOf s) W hv (by rw[HID.out];have:=HLEN.out;unfold maxLen;omega));change Hid (∀W,_→Calls _ _ _ W fun e w'=>e=.returned (idV ((Qg s).1:Nat) (Qg s).2)∧_)at HREP;rw[HRP.out]at HREP;simp only at HREP;have HBL:=Qa hbr;have HCE:Hid (∀W',Blk W' N #[.map (some mf),.map (some mb)] 121→Blk W' w.heap.size #[.string nm,.int .i64 L,.int .u32 (P:Nat),.slice pv0 idl cv0] 40→W'.cell? ⟨N,1,none⟩=some (.map (some mb))∧W'.cell? ⟨w.heap.size,0,none⟩=some (.string nm)∧W'.cell? ⟨w.heap.size,1,none⟩=some (.int .i64 L)∧W'.cell? ⟨w.heap.size,2,none⟩=some (.int .u32 (P:Nat))∧W'.cell? ⟨w.heap.size,3,none⟩=some (.slice pv0 idl cv0)):=fun W' h1 h2=>⟨h1.cell (i:=1) rfl,h2.cell (i:=0) rfl,h2.cell (i:=1) rfl,h2.cell (i:=2) rfl,h2.cell (i:=3) rfl⟩;obtain⟨z1,y0,y1,y2,y3⟩:=HCE.out _ HN1.out.blk HBL.out;clear q0 q1 l0 hal hbr HH HI
 go_region_held3 (fun w'=>w'.cell? ⟨N,1,none⟩=some (.map (some mb))∧w'.cell? ⟨w.heap.size,0,none⟩=some (.string nm)∧w'.cell? ⟨w.heap.size,1,none⟩=some (.int .i64 L)∧w'.cell? ⟨w.heap.size,2,none⟩=some (.int .u32 (P:Nat))∧w'.cell? ⟨w.heap.size,3,none⟩=some (.slice pv0 idl cv0)) (first|exact HCE.out _ HN2.out.blk HBL2.out|go_keep) (first
  | (go_at_call 96;refine(HREP.out _ (HI1.out.below (Below.refl _ W).drew)).mono ?_;rintro e w2 ⟨rfl,hb2⟩;have hB2:Below W.heap.size W w2:=(Below.refl _ W).drew.trans hb2;have HN2:=Qa (HN1.out.below hB2);have HBL2:=Qa (HBL.out.next hB2);have HI2:=Qa (HI1.out.below hB2);have HB2:Hid (Below w.heap.size w w2):=HB1.out.trans (hB2.mono HB1.out.size);have HWsz:=Qa hB2.size;have l1:=look1 HN2.out.bins Tryz.underlying119 (Qbc w2) (List.mem_map.2 ⟨_,hmb,rfl⟩);change(Instr.lookup 119 (.map (some mb)) (idV (rp:Nat) rl) false).run Tryz.prog w2=.ok (.pointer (some (pi (rp,rl)))) w2 at l1;clear hb2 hB2))
 obtain⟨iS,hiS,zS0,zS1,zS2⟩:=info_parts Qor;obtain⟨A0,mk,hA0⟩:∃A0:Array Value,(Instr.makeSlice 73 (.int .i64 (idl:Int)) (.int .i64 (idl:Int))).run Tryz.prog w2=.ok (.slice (some ⟨w2.heap.size,0,none⟩) idl idl) (w2.alloc (.cells A0 9))∧A0.size=idl:=by have hl:=HLEN.out;have h1:=run_makeSlice (P:=Tryz.prog) (w:=w2) 73 9 iS (.string ⟨#[]⟩) Tryz.underlying73 hiS zS0 .i64 .i64 (idl:Int) (idl:Int) (by omega) (Int.le_refl _) (by rw[zS1];simp;omega) (by rw[zS2];omega) (by omega);simp only[Int.toNat_natCast]at h1;exact⟨_,h1,by rw[size_madeCells,zS1];omega⟩
 have hal3:=(Below.refl _ w2).alloc wz (.cells A0 9);have hbA:=Blk.new w2 A0 9;have HB3:Hid (Below w.heap.size w _):=Qa (HB2.out.trans (hal3.mono HB2.out.size));have HN3:=Qa (HN2.out.below hal3);have HI3:=Qa (HI2.out.below hal3);have HBL3:=Qa (HBL2.out.next hal3);have hBAlt:w.heap.size<w2.heap.size:=HBL2.out.lt;have HWB:=Qa HWsz.out;obtain⟨_,u0,u1,u2,u3⟩:=HCE.out _ HN3.out.blk HBL3.out;have hidl4:(idl:Int)≤4000:=by have:=HLEN.out;omega
 clear hal3 HN2 HI2 HBL2 HB2 l1;have HSZA:=Qa hA0;have HPL:Hid ((pieces s).length=idl):=by show _=_;rw[←HID.out];unfold idsOf;rw[List.length_map]
 go_wp2_with fail;generalize hW3:w2.alloc (.cells A0 9)=W3 at *;clear hW3;generalize w2.heap.size=BB at *;obtain⟨q,hq⟩:∃q,pi (rp,rl)=q:=⟨_,rfl⟩;have HPB:Hid (Q0 W3 q (Fi (rp,rl)) l):=by show Q0 _ _ _ _;rw[←hq];exact HN3.out.bin _ hmb
 have HFI:Hid (∀j,Fi (rp,rl) j→j≠BB):=fun j hj e=>by have h1:=HB.out.lt j hj;omega
 rw[hq];have HIL:Hid (∀j,(Value.slice pv0 idl cv0).ownBlock=some j→idsOf s≠[]→j≠BB):=fun j hj hne e=>by have h1:=HI1.out.lt hne hj;have h2:=HWB.out;omega
 clear hq mk hA0 u0 u1 u2
 go_loopw [40] (fun iv wr=>∃(k:Nat) (A:Array Value),k≤idl∧iv=.int .i64 k∧Hid (Blk wr BB A 9)∧Hid (A.size=idl∧∀j,j<k→A[j]? = some (Qcd ((pieces s)[j]?.getD [])))∧Hid (Below w.heap.size w wr)∧Hid (Off (fun j=>j=BB) W3 wr)) (fun iv _=>idl - (intOf iv).toNat)
 case atStart=>exact⟨0,A0,Nat.zero_le _,rfl,hbA,⟨HSZA.out,fun j hj=>by omega⟩,HB3.out,Off.of_below (Below.refl _ _)⟩
 case round=>
  clear hbA;obtain⟨k,A,hk,rfl,HA,HAS,HBR,HO⟩:=hrel;by_cases hlt:k<idl
  ·have hlt':(k:Int)<(idl:Int):=(by omega);have hk0:(0:Int)≤(k:Int):=(by omega);have hIr:=HI3.out.off HO.out (fun hne j hj e=>HIL.out j hj hne e);obtain⟨pq,cq,hve,hcell⟩:=hIr;obtain⟨b,o,hpq,hbl,c0,c1⟩:=hcell k (by rw[HID.out];exact hlt);obtain⟨rfl,rfl⟩:pv0=pq∧cv0=cq:=(by have:=hve;simp at this;exact⟨this.1,this.2.2⟩);subst hpq;have hkp:k<(pieces s).length:=(by rw[HPL.out];exact hlt);obtain⟨t,ht⟩:∃t,(pieces s)[k]=t:=⟨_,rfl⟩;have hid:(idsOf s)[k]'(by rw[HID.out];exact hlt)=(pmore 2166136261 t,(t.length:Int)):=(by unfold idsOf;rw[List.getElem_map,ht]);rw[hid]at c0 c1;simp only at c0 c1;have HTG:=Qa (HGOT.out t (by rw[←ht];exact List.getElem_mem hkp));have HTL:=Qa (Kv (s:=s) (q:=t) (by rw[←ht];exact List.getElem_mem hkp));have HTP:Hid ((pieces s)[k]?.getD []=t):=(by show _=_;rw[List.getElem?_eq_getElem hkp,ht];rfl);obtain⟨xp,hxp⟩:∃xp,pmore 2166136261 t=xp:=⟨_,rfl⟩;obtain⟨xl,hxl⟩:∃xl,(t.length:Int)=xl:=⟨_,rfl⟩;have HX:Hid (Qc t=(xp,xl)):=(by show(pmore 2166136261 t,(t.length:Int))=_;rw[hxp,hxl]);have HXW:Hid (Zv (xp,xl)):=⟨by rw[←hxp];exact Zr _ (by decide) _,by rw[←hxl];simp only;omega,by rw[←hxl];have:=HTL.out;simp only;omega⟩;rw[hxp]at c0;rw[hxl]at c1;rw[HX.out]at HTG;clear hcell hve hid ht hkp hxp hxl;have hal4:=(Below.refl _ wr).alloc wz (.cells #[.int .u32 (xp:Nat),.int .i64 xl] 25);have hbi:=Blk.new wr #[.int .u32 (xp:Nat),.int .i64 xl] 25;have HA4:=Qa (HA.out.next hal4);have HB4:Hid (Below w.heap.size w _):=Qa (HBR.out.trans (hal4.mono HBR.out.size));have HPB4:=Qa ((HPB.out.off HO.out (fun j hj e=>HFI.out j hj e)).off (Off.of_below (F:=fun _=>False) hal4) (fun _ _ h=>h));have HO4:Hid (Off (fun j=>j=BB) W3 _):=Qa (HO.out.trans (Off.of_below (F:=fun _=>False) hal4) (fun _ _ h=>h.elim));have hneB:wr.heap.size≠BB:=(by have:=HA.out.lt;omega);go_wp2_with fail;generalize wr.alloc (.cells #[.int .u32 (xp:Nat),.int .i64 xl] 25)=W at *;generalize wr.heap.size=HB9 at *;refine(Qr7 (xp,xl) q (Fi (rp,rl)) l W HXW.out ((HEE.out _ HB4.out).sub (by decide)) HPB4.out).mono ?_;rintro e w5 ⟨ev5,rfl,_,hb5⟩;rw[HTG.out];simp only;have hA5:=HA4.out.next hb5;have hkA:k<A.size:=(by rw[HAS.out.1];exact hlt);have b0:=hA5.cell (i:=k) (Array.getElem?_eq_getElem hkA);have f0:=hA5.frozen k;have HB5:Hid (Below w.heap.size w w5):=HB4.out.trans (hb5.mono HB4.out.size);have HO5:Hid (Off (fun j=>j=BB) W3 w5):=HO4.out.trans (Off.of_below (F:=fun _=>False) hb5) (fun _ _ h=>h.elim);obtain⟨X,hX⟩:∃X:Value,A[k]=X:=⟨_,rfl⟩;rw[hX]at b0;obtain⟨T,hT⟩:∃T:ByteArray,(⟨t.toArray⟩:ByteArray)=T:=⟨_,rfl⟩;have HT:=Qa hT;rw[hT];have HA6:=Qa (hA5.set k (.string T));have HO6:=Qa (HO5.out.setCell (p:=⟨BB,k,none⟩) (.inl rfl) (.string T));have HB6:=Qa (HB5.out.setCell (p:=⟨BB,k,none⟩) (show w.heap.size≤BB by omega) (.string T));have HAS6:Hid ((A.setIfInBounds k (.string T)).size=idl∧∀j,j<k+1→(A.setIfInBounds k (.string T))[j]? = some (Qcd ((pieces s)[j]?.getD []))):=by
    refine⟨by rw[Array.size_setIfInBounds];exact HAS.out.1,fun j hj => ?_⟩;by_cases e:j=k
    ·subst e;rw[Array.getElem?_setIfInBounds_self_of_lt hkA,HTP.out,←HT.out]
    ·rw[Array.getElem?_setIfInBounds_ne (fun e'=>e e'.symm)];exact HAS.out.2 j (by omega)
   clear hA5 hb5 hX hT hkA;go_wp2_with fail;go_roundw
   case rel=>exact⟨k+1,_,hlt,by go_num,HA6.out,HAS6.out,HB6.out,HO6.out⟩
   case measure=>simp[intOf];omega
  ·have hge:(idl:Int)≤(k:Int):=(by omega);obtain rfl:k=idl:=(by omega);have hbr9:=HO.out.blk HBL3.out (fun e=>by omega);have hIr:=HI3.out.off HO.out (fun hne j hj e=>HIL.out j hj hne e);have HCA:Hid (Zj wr (.slice (some ⟨BB,0,none⟩) k k) ((pieces s).map Qcd)):=(by refine⟨some ⟨BB,0,none⟩,k,by rw[List.length_map,HPL.out],fun i hi => ?_⟩;rw[List.length_map]at hi;refine⟨BB,0,rfl,⟨HA.out.lt,by rw[List.length_map,HPL.out];exact wz⟩,?_⟩;rw[List.getElem_map,Nat.zero_add];have:=HAS.out.2 i (by rw[←HPL.out];exact hi);rw[List.getElem?_eq_getElem hi]at this;exact HA.out.cell (i:=i) this);have HJN:=Qa (Qrj a nm (by unfold maxLen;omega) L P (.slice pv0 k cv0) (.slice (some ⟨BB,0,none⟩) k k) (idsOf s) (pieces s) wr ((HEE.out _ HBR.out).sub (by decide)) hIr (by rw[HID.out];have:=HLEN.out;unfold maxLen;omega) HCA.out (by rw[HPL.out];have:=HLEN.out;omega) (fun i hi=>by have:=Kv (List.getElem_mem hi);omega));unfold Qkd at HJN;rw[HJ.out]at HJN;simp only at HJN;have x0:=hbr9.cell (i:=0) rfl;have x1:=hbr9.cell (i:=1) rfl;have x2:=hbr9.cell (i:=2) rfl;have x3:=hbr9.cell (i:=3) rfl;clear hbr9 hIr HCA;go_wp2_with fail;refine HJN.out.mono ?_;rintro e w6 ⟨ev6,rfl,he6,hb6⟩;obtain rfl:=he6.nil;have HB6:Hid (Below w.heap.size w w6):=HBR.out.trans (hb6.mono HBR.out.size);clear hb6 he6;go_wp2_with fail;refine(Qkw w6).mono ?_;rintro e w7 ⟨rfl,hb7⟩;go_wp2_with fail;go_ret2;exact⟨rfl,HB6.out.trans (hb7.mono HB6.out.size)⟩
theorem Qh9:∀(ls:List (List UInt8)) {U:Int} {l:List Hd} {fr:Int},0≤U→Qd U l→Qd (U+ls.length) (Za l fr ls).2.2
 | [],U,l,fr,_,h=>by rw[Za];simpa using h
 | s::r,U,l,fr,hU,h=>by
  rw[Za];have h1:=Qcn h s hU;split
  ·have:=Qh9 r (fr:=if (Zu l s).1.2.1=true then fr+s.length else fr) (by omega) h1
   have e:U+((s::r).length:Nat)=U+1+(r.length:Nat):=(by rw[List.length_cons];omega);rw[e];exact this
  ·exact h1.mono (by rw[List.length_cons];omega)
structure NOk (U:Int)(n:Nat)(st:NSt):Prop where
 bins:∀b∈st.bins,Qd U b.2
 many:st.bins.length≤n
 files:∀f∈st.files,f.2.length≤4000∧Qj f.1=true
theorem NOk.empty:NOk 0 0 ⟨[],[]⟩:=⟨fun b hb=>by simp at hb,wz,fun f hf=>by simp at hf⟩
theorem NOk.mono {U V:Int}{n m:Nat}{st:NSt}(h:NOk U n st)(hU:U≤V)(hn:n≤m):NOk V m st:=⟨fun b hb=>(h.bins b hb).mono hU,Nat.le_trans h.many hn,h.files⟩
theorem nPut_cases (st:NSt)(nm s:List UInt8):((Jt st nm s).2.1≠0∧(Jt st nm s).1=0∧(Jt st nm s).2.2=st)∨((ofR nm s).2=0∧nFile st.files nm=none∧Jt st nm s=((Za ((Zi st.bins (Qg s)).getD []) 0 (pieces s)).1,0,⟨(nm,s)::st.files,(Qg s,(Za ((Zi st.bins (Qg s)).getD []) 0 (pieces s)).2.2)::st.bins.filter (fun b => !decide (b.1=Qg s))⟩)):=by
 by_cases h1:(ofR nm s).2=0
 ·cases h2:nFile st.files nm with
  | some t=>
   rw[V6 h1 h2];exact .inl ⟨by simp,rfl,rfl⟩
  | none=>
   by_cases h3:30≤st.files.length
   ·rw[G9 h1 h2 h3];exact .inl ⟨by simp,rfl,rfl⟩
   ·obtain⟨⟨fr,ec,bl⟩,hp⟩:∃r,Za ((Zi st.bins (Qg s)).getD []) 0 (pieces s)=r:=⟨_,rfl⟩;by_cases h4:ec=0
    ·subst h4;rw[Qba h1 h2 h3 rfl rfl hp,hp];exact .inr ⟨h1,rfl,rfl⟩
    ·rw[Qar h1 h2 h3 rfl rfl hp h4];exact .inl ⟨h4,rfl,rfl⟩
 ·rw[Uo h1];exact .inl ⟨h1,rfl,rfl⟩
theorem Qwe {nm s:List UInt8}(h:(ofR nm s).2=0):Qj nm=true∧s.length≤4000:=by
 have hn:Qj nm=true:=by
  cases hn:Qj nm with
  | true=>rfl
  | false=>rw[q9 hn]at h;cases h
 refine⟨hn,?_⟩;by_cases hl:4000<s.length
 ·rw[G8 hn hl]at h;cases h
 ·omega
theorem NOk.put {U:Int}{n:Nat}{st:NSt}(h:NOk U n st)(hU:0≤U)(nm s:List UInt8):NOk (U+4000) (n+1) (Jt st nm s).2.2:=by
 rcases nPut_cases st nm s with⟨_,_,e⟩|⟨h1,_,e⟩
 ·rw[e];exact h.mono (by omega) (by omega)
 ·rw[e];obtain⟨hn,hl⟩:=Qwe h1;have hp:=Qy s;refine⟨fun b hb => ?_,?_,fun f hf => ?_⟩
  ·rcases List.mem_cons.1 hb with rfl|hb
   ·have hb0:Qd U ((Zi st.bins (Qg s)).getD []):=by
     cases hb:Zi st.bins (Qg s)with
     | none=>exact Qd.nil _
     | some l0=>exact h.bins _ (J3 hb)
    exact(Qh9 (pieces s) hU hb0).mono (by omega)
   ·exact(h.bins b (List.mem_filter.1 hb).1).mono (by omega)
  ·have h2:=List.length_filter_le (fun b:Qr => !decide (b.1=Qg s)) st.bins;have h3:=h.many;simp only[List.length_cons];omega
  ·rcases List.mem_cons.1 hf with rfl|hf
   ·exact⟨hl,hn⟩
   ·exact h.files f hf
abbrev Q6:List UInt8:=[104,101,108,108,111]
theorem Qeh:pieces Q6=[Q6]:=by decide
def Qw8:Nat×Int:=Qg Q6
def st1:NSt:=⟨[([97],Q6)],[(Qg Q6,[(Qc Q6,1,Q6)])]⟩
def st2:NSt:=⟨[([98],Q6),([97],Q6)],[(Qg Q6,[(Qc Q6,2,Q6)])]⟩
theorem Quq:Jt ⟨[],[]⟩ [97] Q6=(5,0,st1):=by
 have e:Za [] 0 (pieces Q6)=(5,0,[(Qc Q6,1,Q6)]):=by rw[Qeh];rfl
 exact Qba (st:=⟨[],[]⟩) (nm:=[97]) (s:=Q6) (r:=Qg Q6) (BL:=[]) (by decide) rfl (by decide) rfl rfl e
structure J5 (l:List Hd)(log:List (List UInt8)):Prop where
 cnt:∀h∈l,h.2.1=((log.count h.2.2:Nat):Int)
 has:∀s∈log,∃u,(Qc s,u,s)∈l
theorem J5.nil:J5 [] []:=⟨fun h hm=>by simp at hm,fun s hm=>by simp at hm⟩
theorem J5.perm {l:List Hd}{a b:List (List UInt8)}(h:J5 l a)(hp:a.Perm b):J5 l b:=
 ⟨fun x hx=>by rw[h.cnt x hx,hp.count_eq],fun s hs=>h.has s (hp.mem_iff.2 hs)⟩
theorem J5.one {U:Int}{l:List Hd}{log:List (List UInt8)}(hok:Qd U l)(h:J5 l log){s:List UInt8}(hs:s∈log):∃(k:Nat) (hk:k<l.length),Z8 l (Qc s)=some k∧l[k].1=Qc s∧l[k].2.2=s:=by
 obtain⟨u,hu⟩:=h.has s hs;obtain⟨k,hk⟩:=Qih hu;obtain⟨hkl,he⟩:=Jg hk;have e:=V3 hok.rise (List.getElem_mem hkl) hu he;exact⟨k,hkl,hk,he,by rw[e]⟩
theorem J5.get {U:Int}{l:List Hd}{log:List (List UInt8)}(hok:Qd U l)(h:J5 l log){s:List UInt8}(hs:s∈log):Qal l (Qc s)=(s,0):=by
 obtain⟨k,hk,hf,_,ht⟩:=h.one hok hs;simp only[Qal,hf,List.getElem?_eq_getElem hk,Option.map_some,Option.getD_some,ht]
theorem J5.put {U:Int}{l:List Hd}{log:List (List UInt8)}(hok:Qd U l)(h:J5 l log){s:List UInt8}(he:(Zu l s).1.2.2=0):J5 (Zu l s).2 (log++[s]):=by
 revert he
 unfold Zu;split
 ·exact fun h=>by simp at h
 ·split
  ·rename_i k hf
   obtain⟨hk,hid⟩:=Jg hf;split
   ·rename_i ht
    intro _;rw[List.getElem?_eq_getElem hk,Option.map_some]at ht;have ht:l[k].2.2=s:=Option.some.inj ht;refine⟨fun z hz => ?_,fun t hm => ?_⟩
    ·rcases modify_all hok.rise hk hz with⟨hm,hn⟩|rfl
     ·have hne:s≠z.2.2:=fun e=>hn (((hok.each z hm).1.trans (by rw[←e])).trans hid.symm);rw[h.cnt z hm,List.count_append,List.count_singleton];simp[hne]
     ·show l[k].2.1+1=((log++[s]).count l[k].2.2:Nat);rw[h.cnt _ (List.getElem_mem hk),ht,List.count_append,List.count_singleton_self];omega
    ·by_cases e:t=s
     ·subst e;refine⟨l[k].2.1+1,?_⟩;have:=qa (d:=1) hk;rw[hUse,hid,ht]at this;exact this
     ·have hm:t∈log:=by
       rcases List.mem_append.1 hm with hm|hm
       ·exact hm
       ·exact absurd (List.mem_singleton.1 hm) e
      obtain⟨u,hu⟩:=h.has t hm;refine⟨u,Vk hk hu fun e2 => ?_⟩;have:=V3 hok.rise hu (List.getElem_mem hk) e2;exact e (by rw[←ht,←this])
   ·exact fun h=>by simp at h
  ·rename_i hf
   split
   ·exact fun h=>by simp at h
   ·intro _;have hno:s ∉ log:=fun hs=>by obtain⟨u,hu⟩:=h.has s hs;exact J2 hf _ hu rfl
    refine⟨fun z hz => ?_,fun t hm => ?_⟩
    ·rcases hIns_mem hz with rfl|hm
     ·show(1:Int)=((log++[s]).count s:Nat);rw[List.count_append,List.count_singleton_self,List.count_eq_zero.2 hno];rfl
     ·have hne:s≠z.2.2:=fun e=>J2 hf z hm ((hok.each z hm).1.trans (by rw[←e]));rw[h.cnt z hm,List.count_append,List.count_singleton];simp[hne]
    ·rcases List.mem_append.1 hm with hm|hm
     ·obtain⟨u,hu⟩:=h.has t hm;exact⟨u,Qdi (.inr hu)⟩
     ·rw[List.mem_singleton.1 hm];exact⟨1,Qdi (.inl rfl)⟩
theorem J5.there {U:Int}{l:List Hd}{log:List (List UInt8)}(hok:Qd U l)(h:J5 l log){s:List UInt8}(hs:s∈log):(Zu l s).1.2.1=false:=by
 obtain⟨k,hk,hf,_,ht⟩:=h.one hok hs;unfold Zu;split
 ·rfl
 ·rw[hf];simp only;split<;>rfl
theorem J5.drop {U:Int}{l:List Hd}{s:List UInt8}{r:List (List UInt8)}(hok:Qd U l)(h:J5 l (s::r)):J5 (Jw l (Qc s)).2 r:=by
 obtain⟨k,hk,hf,hid,ht⟩:=h.one hok (List.mem_cons_self ..);have hc:l[k].2.1=((r.count s:Nat):Int)+1:=by rw[h.cnt _ (List.getElem_mem hk),ht,List.count_cons_self];omega
 have e:Jw l (Qc s)=(0,l.modify k (hUse (-1))):=by
  have hn:¬(l[k]?.map (·.2.1))=some 0:=fun e=>by rw[List.getElem?_eq_getElem hk,Option.map_some]at e;have:=Option.some.inj e;omega
  simp only[Jw,hf,if_neg hn]
 rw[e];refine⟨fun z hz => ?_,fun t hm => ?_⟩
 ·rcases modify_all hok.rise hk hz with⟨hm,hn⟩|rfl
  ·have hne:s≠z.2.2:=fun e=>hn (((hok.each z hm).1.trans (by rw[←e])).trans hid.symm);rw[h.cnt z hm,List.count_cons_of_ne hne]
  ·show l[k].2.1+-1=((r.count l[k].2.2:Nat):Int);rw[hc,ht];omega
 ·obtain⟨u,hu⟩:=h.has t (List.mem_cons_of_mem _ hm);by_cases e:t=s
  ·subst e;have ho:=qa (d:=-1) hk;rw[hUse,hid,ht,hc]at ho;exact⟨_,ho⟩
  ·refine⟨u,Vk hk hu fun e2 => ?_⟩;have:=V3 hok.rise hu (List.getElem_mem hk) e2;exact e (by rw[←ht,←this])
theorem J5.sweep {l:List Hd}{log:List (List UInt8)}(h:J5 l log):J5 (Q8 l).2 log:=by
 refine⟨fun z hz=>h.cnt z (List.mem_filter.1 hz).1,fun s hs => ?_⟩;obtain⟨u,hu⟩:=h.has s hs;refine⟨u,List.mem_filter.2 ⟨hu,?_⟩⟩;have h1:u=((log.count s:Nat):Int):=h.cnt _ hu;have h2:=List.count_pos_iff.2 hs;have hn:¬u=0:=by omega
 simp[unused,hn]
theorem J5.puts:∀(ls:List (List UInt8)) {U:Int} {l:List Hd} {fr:Int} {log:List (List UInt8)},0≤U→Qd U l→J5 l log→(Za l fr ls).2.1=0→J5 (Za l fr ls).2.2 (log++ls)
 | [],U,l,fr,log,_,_,h,_=>by rw[Za,List.append_nil];exact h
 | s::r,U,l,fr,log,hU,hok,h,he=>by
  rw[Za]at he ⊢;by_cases hp:(Zu l s).1.2.2=0
  ·rw[if_pos hp]at he ⊢;have:=J5.puts r (by omega) (Qcn hok s hU) (h.put hok hp) he;rw[List.append_assoc]at this;exact this
  ·rw[if_neg hp]at he;exact absurd he hp
theorem J5.fresh:∀(ls:List (List UInt8)) {U:Int} {l:List Hd} {fr:Int} {log:List (List UInt8)},0≤U→Qd U l→J5 l log→(∀t∈ls,t∈log)→(Za l fr ls).2.1=0→(Za l fr ls).1=fr
 | [],U,l,fr,log,_,_,_,_,_=>rfl
 | s::r,U,l,fr,log,hU,hok,h,hin,he=>by
  rw[Za]at he ⊢;by_cases hp:(Zu l s).1.2.2=0
  ·rw[if_pos hp]at he ⊢;have hs:=h.there hok (hin s (List.mem_cons_self ..));rw[hs]at he ⊢;simp only[Bool.false_eq_true,if_false]at he ⊢;exact J5.fresh r (by omega) (Qcn hok s hU) (h.put hok hp) (fun t ht=>List.mem_append_left _ (hin t (List.mem_cons_of_mem _ ht))) he
  ·rw[if_neg hp]at he;exact absurd he hp
def Zl (l:List Hd):List (Nat×Int)→List Hd
 | []=>l
 | x::r=>Zl (Jw l x).2 r
theorem Qfl:∀(ids:List (Nat×Int)) {U:Int} {l:List Hd},Qd U l→Qd U (Zl l ids)
 | [],_,_,h=>h
 | x::r,_,_,h=>Qfl r (Qc4 h x)
theorem J5.drops:∀(ls:List (List UInt8)) {U:Int} {l:List Hd} {r:List (List UInt8)},Qd U l→J5 l (ls++r)→J5 (Zl l (ls.map Qc)) r
 | [],_,_,_,_,h=>h
 | s::t,_,_,_,hok,h=>J5.drops t (Qc4 hok (Qc s)) (h.drop hok)
def Z5 (st:NSt)(nm:List UInt8):Int×NSt:=
 match nFile st.files nm with
 | none=>(5,st)
 | some s=>
  if (st.files.filter (fun f => !decide (f.1=nm))).any (fun f=>decide (Qg f.2=Qg s))=true then (0,⟨st.files.filter (fun f => !decide (f.1=nm)),st.bins.map (fun b=>if b.1=Qg s then (b.1,Zl b.2 (idsOf s)) else b)⟩)
  else (0,⟨st.files.filter (fun f => !decide (f.1=nm)),st.bins.filter (fun b => !decide (b.1=Qg s))⟩)
def Xo (st:NSt):Int×NSt:=((st.bins.map fun b=>(Q8 b.2).1).sum,⟨st.files,st.bins.map (fun b=>(b.1,(Q8 b.2).2))⟩)
def Yk (files:List Qz)(r:Nat×Int):List (List UInt8):=files.flatMap (fun f=>if Qg f.2=r then pieces f.2 else [])
theorem Kk (f:Qz)(fs:List Qz)(r:Nat×Int):Yk (f::fs) r=(if Qg f.2=r then pieces f.2 else [])++Yk fs r:=by simp[Yk]
theorem Qny {fs:List Qz}{r:Nat×Int}(h:∀f∈fs,Qg f.2≠r):Yk fs r=[]:=by
 unfold Yk;rw[List.flatMap_eq_nil_iff];intro f hf;rw[if_neg (h f hf)]
theorem Ur {a b:List Qz}(h:a.Perm b)(r:Nat×Int):(Yk a r).Perm (Yk b r):=by
 unfold Yk;exact h.flatMap_right _
structure Xh (st:NSt):Prop where
 fap:st.files.Pairwise (fun f g=>f.1≠g.1)
 bap:st.bins.Pairwise (fun f g=>f.1≠g.1)
 has:∀f∈st.files,∃l,(Qg f.2,l)∈st.bins
 log:∀b∈st.bins,J5 b.2 (Yk st.files b.1)
theorem Xh.empty:Xh ⟨[],[]⟩:=⟨List.Pairwise.nil,List.Pairwise.nil,fun f hf=>by simp at hf,fun f hf=>by simp at hf⟩
theorem Zz:∀{l:List Qr} {x:Nat×Int} {h:List Hd},l.Pairwise (fun f g=>f.1≠g.1)→(x,h)∈l→Zi l x=some h
 | b::r,x,h,hp,hm=>by
  rw[Zi];rcases List.mem_cons.1 hm with rfl|hm
  ·simp
  ·rw[if_neg ((List.pairwise_cons.1 hp).1 _ hm)];exact Zz (List.pairwise_cons.1 hp).2 hm
theorem Jj:∀{l:List Qz} {x h:List UInt8},l.Pairwise (fun f g=>f.1≠g.1)→(x,h)∈l→nFile l x=some h
 | b::r,x,h,hp,hm=>by
  rw[nFile];rcases List.mem_cons.1 hm with rfl|hm
  ·simp
  ·rw[if_neg ((List.pairwise_cons.1 hp).1 _ hm)];exact Jj (List.pairwise_cons.1 hp).2 hm
theorem nPut_cases' (st:NSt)(nm s:List UInt8):((Jt st nm s).2.1≠0∧(Jt st nm s).1=0∧(Jt st nm s).2.2=st)∨((ofR nm s).2=0∧nFile st.files nm=none∧(Za ((Zi st.bins (Qg s)).getD []) 0 (pieces s)).2.1=0∧Jt st nm s=((Za ((Zi st.bins (Qg s)).getD []) 0 (pieces s)).1,0,⟨(nm,s)::st.files,(Qg s,(Za ((Zi st.bins (Qg s)).getD []) 0 (pieces s)).2.2)::st.bins.filter (fun b => !decide (b.1=Qg s))⟩)):=by
 by_cases h1:(ofR nm s).2=0
 ·cases h2:nFile st.files nm with
  | some t=>
   rw[V6 h1 h2];exact .inl ⟨by simp,rfl,rfl⟩
  | none=>
   by_cases h3:30≤st.files.length
   ·rw[G9 h1 h2 h3];exact .inl ⟨by simp,rfl,rfl⟩
   ·obtain⟨⟨fr,ec,bl⟩,hp⟩:∃r,Za ((Zi st.bins (Qg s)).getD []) 0 (pieces s)=r:=⟨_,rfl⟩;by_cases h4:ec=0
    ·subst h4;rw[Qba h1 h2 h3 rfl rfl hp,hp];exact .inr ⟨h1,rfl,rfl,rfl⟩
    ·rw[Qar h1 h2 h3 rfl rfl hp h4];exact .inl ⟨h4,rfl,rfl⟩
 ·rw[Uo h1];exact .inl ⟨h1,rfl,rfl⟩
theorem Xh.put {U:Int}{n:Nat}{st:NSt}(h:Xh st)(hok:NOk U n st)(hU:0≤U)(nm s:List UInt8):Xh (Jt st nm s).2.2:=by
 have hno:∀{r:Nat×Int},Zi st.bins r=none→Yk st.files r=[]:=fun {r} hn=>Qny fun f hf e=>by obtain⟨l,hl⟩:=h.has f hf;exact Qa3 hn _ hl e
 rcases nPut_cases' st nm s with⟨_,_,e⟩|⟨h1,h2,hec,e⟩
 ·rw[e];exact h
 ·rw[e];have hpf:=Ju h2;have hold:J5 ((Zi st.bins (Qg s)).getD []) (Yk st.files (Qg s))∧Qd U ((Zi st.bins (Qg s)).getD []):=by
   cases hb:Zi st.bins (Qg s)with
   | none=>exact⟨by rw[hno hb];exact J5.nil,Qd.nil _⟩
   | some l0=>exact⟨h.log _ (J3 hb),hok.bins _ (J3 hb)⟩
  refine⟨List.pairwise_cons.2 ⟨fun f hf e=>hpf f hf e.symm,h.fap⟩,List.pairwise_cons.2 ⟨fun b hb e => ?_,h.bap.filter _⟩,fun f hf => ?_,fun b hb => ?_⟩
  ·have:=(List.mem_filter.1 hb).2;simp at this;exact this e.symm
  ·rcases List.mem_cons.1 hf with rfl|hf
   ·exact⟨_,List.mem_cons_self ..⟩
   ·obtain⟨l,hl⟩:=h.has f hf;by_cases e:Qg f.2=Qg s
    ·exact⟨_,by rw[e];exact List.mem_cons_self ..⟩
    ·exact⟨l,List.mem_cons_of_mem _ (List.mem_filter.2 ⟨hl,by simp[e]⟩)⟩
  ·rw[Kk];rcases List.mem_cons.1 hb with rfl|hb
   ·simp only[if_true];exact(J5.puts (pieces s) hU hold.2 hold.1 hec).perm List.perm_append_comm
   ·obtain⟨hb1,hb2⟩:=List.mem_filter.1 hb;have hne:¬Qg s=b.1:=fun e=>by simp[e]at hb2
    simp only[if_neg hne,List.nil_append];exact h.log b hb1
theorem Qpr {fs:List Qz}{nm s:List UInt8}(hp:fs.Pairwise (fun f g=>f.1≠g.1))(hm:(nm,s)∈fs):((nm,s)::fs.filter (fun f => !decide (f.1=nm))).Perm fs:=by
 induction fs with
 | nil=>simp at hm
 | cons f r ih=>
  obtain⟨h1,h2⟩:=List.pairwise_cons.1 hp;rcases List.mem_cons.1 hm with e|hm
  ·subst e;have:r.filter (fun f => !decide (f.1=nm))=r:=List.filter_eq_self.2 fun g hg=>by have:=h1 g hg;simp only[Bool.not_eq_true',decide_eq_false_iff_not];exact fun e=>this e.symm
   simp[this]
  ·have hn:f.1≠nm:=h1 _ hm;rw[List.filter_cons,if_pos (by simp[hn])];exact(List.Perm.swap _ _ _).trans ((ih h2 hm).cons f)
theorem Xh.drop {U:Int}{n:Nat}{st:NSt}(h:Xh st)(hok:NOk U n st)(nm:List UInt8):Xh (Z5 st nm).2:=by
 unfold Z5;cases hf:nFile st.files nm with
 | none=>exact h
 | some s=>
  simp only;have hm:=nFile_some hf;have hp:=Qpr h.fap hm;have hlog:∀r,(Yk st.files r).Perm ((if Qg s=r then pieces s else [])++Yk (st.files.filter (fun f => !decide (f.1=nm))) r):=fun r=>by have:=(Ur hp r).symm;rw[Kk]at this;exact this
  split
  ·refine⟨h.fap.filter _,?_,fun f hf => ?_,fun b hb => ?_⟩
   ·rw[List.pairwise_map];refine h.bap.imp fun {a b} hne => ?_;have ea:(if a.1=Qg s then (a.1,Zl a.2 (idsOf s)) else a).1=a.1:=(by split<;>rfl)
    have eb:(if b.1=Qg s then (b.1,Zl b.2 (idsOf s)) else b).1=b.1:=(by split<;>rfl)
    rw[ea,eb];exact hne
   ·obtain⟨l,hl⟩:=h.has f (List.mem_filter.1 hf).1;by_cases e:Qg f.2=Qg s
    ·exact⟨Zl l (idsOf s),List.mem_map.2 ⟨_,hl,by simp only[if_pos e]⟩⟩
    ·exact⟨l,List.mem_map.2 ⟨_,hl,by simp only[if_neg e]⟩⟩
   ·obtain⟨c,hc,rfl⟩:=List.mem_map.1 hb;have hw:=(h.log c hc).perm (hlog c.1);by_cases e:c.1=Qg s
    ·simp only[if_pos e];rw[if_pos e.symm]at hw;have:=J5.drops (pieces s) (hok.bins c hc) hw;exact this
    ·simp only[if_neg e];rw[if_neg (fun e'=>e e'.symm),List.nil_append]at hw;exact hw
  ·rename_i hany
   have hnone:∀f∈st.files.filter (fun f => !decide (f.1=nm)),Qg f.2≠Qg s:=fun f hf e=>hany (List.any_eq_true.2 ⟨f,hf,by simp[e]⟩);refine⟨h.fap.filter _,h.bap.filter _,fun f hf => ?_,fun b hb => ?_⟩
   ·obtain⟨l,hl⟩:=h.has f (List.mem_filter.1 hf).1;exact⟨l,List.mem_filter.2 ⟨hl,by simp[hnone f hf]⟩⟩
   ·obtain⟨hb1,hb2⟩:=List.mem_filter.1 hb;have hne:¬Qg s=b.1:=fun e=>by simp[e]at hb2
    have hw:=(h.log b hb1).perm (hlog b.1);rw[if_neg hne,List.nil_append]at hw;exact hw
theorem Xh.sweep {st:NSt}(h:Xh st):Xh (Xo st).2:=by
 refine⟨h.fap,?_,fun f hf => ?_,fun b hb => ?_⟩
 ·show(st.bins.map _).Pairwise _;rw[List.pairwise_map];exact h.bap
 ·obtain⟨l,hl⟩:=h.has f hf;exact⟨_,List.mem_map.2 ⟨_,hl,rfl⟩⟩
 ·obtain⟨c,hc,rfl⟩:=List.mem_map.1 hb;exact(h.log c hc).sweep
theorem NOk.drop {U:Int}{n:Nat}{st:NSt}(h:NOk U n st)(nm:List UInt8):NOk U n (Z5 st nm).2:=by
 unfold Z5;cases hf:nFile st.files nm with
 | none=>exact h
 | some s=>
  simp only;split
  ·refine⟨fun b hb => ?_,by rw[List.length_map];exact h.many,fun f hf=>h.files f (List.mem_filter.1 hf).1⟩;obtain⟨c,hc,rfl⟩:=List.mem_map.1 hb;split
   ·exact Qfl _ (h.bins c hc)
   ·exact h.bins c hc
  ·exact⟨fun b hb=>h.bins b (List.mem_filter.1 hb).1,Nat.le_trans (List.length_filter_le _ _) h.many,fun f hf=>h.files f (List.mem_filter.1 hf).1⟩
theorem NOk.sweep {U:Int}{n:Nat}{st:NSt}(h:NOk U n st):NOk U n (Xo st).2:=by
 refine⟨fun b hb => ?_,by show(st.bins.map _).length≤n;rw[List.length_map];exact h.many,h.files⟩;obtain⟨c,hc,rfl⟩:=List.mem_map.1 hb;exact Qqb (h.bins c hc)
theorem Xh.got {U:Int}{n:Nat}{st:NSt}(h:Xh st)(hok:NOk U n st){nm s:List UInt8}(hm:(nm,s)∈st.files):nFile st.files nm=some s∧∃l,Zi st.bins (Qg s)=some l∧∀t∈pieces s,Qal l (Qc t)=(t,0):=by
 obtain⟨l,hl⟩:=h.has _ hm;refine⟨Jj h.fap hm,l,Zz h.bap hl,fun t ht=>(h.log _ hl).get (hok.bins _ hl) ?_⟩;exact List.mem_flatMap.2 ⟨_,hm,by rw[if_pos rfl];exact ht⟩
theorem Xh.again {U:Int}{n:Nat}{st:NSt}(h:Xh st)(hok:NOk U n st)(hU:0≤U){nm s:List UInt8}(hm:(nm,s)∈st.files)(x:List UInt8):(Jt st x s).1=0:=by
 obtain⟨l,hl⟩:=h.has _ hm;rcases nPut_cases' st x s with⟨_,e,_⟩|⟨_,_,hec,e⟩
 ·exact e
 ·rw[e];rw[Zz h.bap hl,Option.getD_some]at hec ⊢;exact J5.fresh (pieces s) hU (hok.bins _ hl) (h.log _ hl) (fun t ht=>List.mem_flatMap.2 ⟨_,hm,by rw[if_pos rfl];exact ht⟩) hec
end Go.Proofs.YtjngnnbondejaabGreatDoor
