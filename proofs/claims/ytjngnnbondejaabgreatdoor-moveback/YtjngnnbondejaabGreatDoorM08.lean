/- A part. -/
import Derived.Test.YtjngnnbondejaabGreatDoorM07
set_option maxHeartbeats 4000000
set_option maxRecDepth 100000
namespace Go.Proofs.YtjngnnbondejaabGreatDoor
open Go.RowKit Go.Maps
theorem Zj.off {F:Nat→Prop}{w w':World}{v:Value}{xs:List Value}(h:Zj w v xs)(ho:Off F w w')(hn:∀k,v.ownBlock=some k→¬F k):Zj w' v xs:=by
 obtain⟨p,c,rfl,h⟩:=h;refine⟨p,c,rfl,fun i hi => ?_⟩;obtain⟨b,o,rfl,⟨hb,hc⟩,h0⟩:=h i hi;exact⟨b,o,rfl,⟨Nat.lt_of_lt_of_le hb ho.size,hc⟩,(World.cell?_of_block (w:=w) (ho.block b hb (hn b rfl))).trans h0⟩
theorem Je.off {F:Nat→Prop}{L:List Nat}{w w':World}{a:Nat→Addr}(h:Je L w a)(ho:Off F w w')(hG:∀i,L.contains i=true→¬F (Xn i)):Je L w' a where
 glob i hi:=(World.cell?_of_block (w:=w) (ho.block _ (lt_of_cell (h.glob i hi)) (hG i hi))).trans (h.glob i hi)
def Za (l:List Hd)(fr:Int):List (List UInt8)→Int×Int×List Hd
 | []=>(fr,0,l)
 | s::r=>if (Zu l s).1.2.2=0 then Za (Zu l s).2 (if (Zu l s).1.2.1=true then fr+s.length else fr) r else (0,(Zu l s).1.2.2,(Zu l s).2)
def Quh (a:Nat→Addr)(w:World)(p:Addr)(F:Nat→Prop)(r:Int×Int×List Hd)(e:Ending)(w':World):Prop:=
 ∃ev F',e=.returned (.tuple #[.int .i64 r.1,ev])∧Qp w.heap.size w' a ev (r.2.1,-1)∧Q0 w' p F' r.2.2∧(∀k,F' k→F k∨w.heap.size≤k)∧Off F w w'
theorem Qhc (a:Nat→Addr)(vl:Value)(ls:List (List UInt8))(p:Addr)(F:Nat→Prop)(U:Int)(l:List Hd)(w:World)(hU0:0≤U)(hU:U+ls.length≤1000000)(hok:Qd U l)(hlen:ls.length≤5000)(hsz:∀t∈ls,t.length≤100)(hE:Je [1,6,9] w a)(hG:∀i,([1,6,9]:List Nat).contains i=true→¬F (Xn i))
 (hv:Zj w vl (ls.map Qcd))(hrow:∀k,vl.ownBlock=some k→¬F k)(hP:Q0 w p F l) :
 Calls Tryz.prog 98 #[.pointer (some p),vl] w (Quh a w p F (Za l 0 ls)):=by
 have HV:Hid (Zj w vl (ls.map Qcd)):=hv;have HROW:Hid (∀k,vl.ownBlock=some k→¬F k):=hrow;have HSZ:Hid (∀t∈ls,t.length≤100):=hsz;have HEE:Hid (∀W,Off F w W→Je [1,6,9] W a):=fun W ho=>hE.off ho hG;have HP:Hid (Q0 w p F l):=hP;have HOK:Hid (Qd U l):=hok;obtain⟨RES,hRES⟩:∃RES,Za l 0 ls=RES:=⟨_,rfl⟩;have HRES:Hid (Za l 0 ls=RES):=hRES;rw[hRES];obtain⟨pa,ca,hvl,_⟩:=hv;rw[List.length_map]at hvl;subst hvl;have hlen':(ls.length:Int)≤5000:=by omega
 clear hsz hE hG hP hok hRES hrow;go_enter Tryz.func98,Tryz.ntmps98;go_wp2_with fail
 go_loopw [6,14] (fun fv iv wr=>∃(k:Nat) (fr:Int) (bl:List Hd) (F':Nat→Prop),k≤ls.length∧iv=.int .i64 k∧fv=.int .i64 fr∧(0≤fr∧fr≤100*k)∧Hid (Za bl fr (ls.drop k)=RES)∧Hid (Qd (U+k) bl)∧Hid (Q0 wr p F' bl)∧Hid (∀j,F' j→F j∨w.heap.size≤j)∧Hid (Off F w wr)) (fun _ iv _=>ls.length - (intOf iv).toNat)
 case atStart=>exact⟨0,0,l,F,Nat.zero_le _,rfl,rfl,⟨Int.le_refl _,by decide⟩,by rw[List.drop_zero];exact HRES.out,by show Qd _ _;rw[show U+((0:Nat):Int)=U by omega];exact HOK.out,HP.out,fun j hj=>.inl hj,Off.of_below (Below.refl _ _)⟩
 case round=>
  clear HRES HP HOK;obtain⟨k,fr,bl,F',hk,rfl,rfl,⟨hf0,hf1⟩,HR,HOK,HP,HF,HO⟩:=hrel;by_cases hlt:k<ls.length
  ·have hlt':(k:Int)<(ls.length:Int):=(by omega);have hk0:(0:Int)≤(k:Int):=(by omega);obtain⟨_,_,hve,hcell⟩:=HV.out.off HO.out HROW.out;obtain⟨rfl,rfl⟩:pa=_∧ca=_:=(by simpa using hve);obtain⟨b,o,rfl,_,c0⟩:=hcell k (by simpa using hlt);rw[List.getElem_map]at c0;have HT:=Qa (HSZ.out ls[k] (List.getElem_mem hlt));have hdr:ls.drop k=ls[k]::ls.drop (k+1):=List.drop_eq_getElem_cons hlt;rw[hdr]at HR;obtain⟨t,ht⟩:∃t,ls[k]=t:=⟨_,rfl⟩;rw[ht]at c0 HT HR;have htl:(⟨t.toArray⟩:ByteArray).size=t.length:=(by simp[ByteArray.size]);have HPUT:=Qa (Qrs (a:=a) ⟨t.toArray⟩ p F' bl wr (by rw[htl];have:=HT.out;omega) (HOK.out.mono (by omega)) (HEE.out _ HO.out) HP.out);have HOK2:Hid (Qd (U+((k+1:Nat):Int)) (Zu bl t).2):=(by show Qd _ _;rw[show U+((k+1:Nat):Int)=U+k+1 by omega];exact Qcn HOK.out t (by omega));have e8:(⟨t.toArray⟩:ByteArray).data.toList=t:=(by simp);rw[e8]at HPUT;unfold Qff at HPUT;have htx:=HT.out;clear hdr ht hcell hve e8 HOK HP;obtain⟨⟨⟨ri,ra,re⟩,rl⟩,hq⟩:∃q,Zu bl t=q:=⟨_,rfl⟩;rw[Za,hq]at HR;rw[hq]at HPUT HOK2;simp only at HPUT HOK2 HR;clear hq;obtain⟨T,hT⟩:∃T:ByteArray,(⟨t.toArray⟩:ByteArray)=T:=⟨_,rfl⟩;change wr.cell? ⟨b,o+k,none⟩=some (.string ⟨t.toArray⟩)at c0;rw[hT]at htl c0 HPUT;clear hT;have htl':(T.size:Int)=(t.length:Int):=(by omega);have hw1:IntKind.i64.wrap (fr+(t.length:Int))=fr+(t.length:Int):=(by rw[IntKind.wrap_i64];omega);go_wp2_with fail;refine HPUT.out.mono ?_;rintro e w2 ⟨ev,F2,rfl,he2,hp2,hf2,ho2⟩;have HO2:Hid (Off F w w2):=HO.out.trans ho2 (fun j hj hF=>(HF.out j hF).resolve_right (by omega));have HF2:Hid (∀j,F2 j→F j∨w.heap.size≤j):=fun j hj=>by
    rcases hf2 j hj with h|h
    ·exact HF.out j h
    ·exact .inr (Nat.le_trans HO.out.size h)
   have hal:=(Below.refl _ w2).alloc wz (.cells #[.int .u32 (ri.1:Nat),.int .i64 ri.2] 25);have HP2:=Qa (hp2.off (Off.of_below (F:=fun _=>False) hal) (fun _ _ h=>h));have HE2:=Qa (he2.below hal);have HO3:Hid (Off F w _):=Qa (HO2.out.trans (Off.of_below (F:=fun _=>False) hal) (fun _ _ h=>h.elim));have hsw:=HO.out.size;clear HPUT hp2 hf2 ho2 he2 hal;by_cases hre:re=0
   ·subst hre;obtain rfl:=HE2.out.nil;rw[if_pos rfl]at HR;cases ra with
    | true=>
     simp only[if_true]at HR;go_wp2_with fail;go_roundw
     case rel=>exact⟨k+1,fr+(t.length:Int),rl,F2,hlt,by go_num,rfl,⟨by omega,by omega⟩,HR.out,HOK2.out,HP2.out,HF2.out,HO3.out⟩
     case measure=>simp[intOf];omega
    | false=>
     simp only[Bool.false_eq_true,if_false]at HR;go_wp2_with fail;go_roundw
     case rel=>exact⟨k+1,fr,rl,F2,hlt,by go_num,rfl,⟨by omega,by omega⟩,HR.out,HOK2.out,HP2.out,HF2.out,HO3.out⟩
     case measure=>simp[intOf];omega
   ·rw[if_neg hre]at HR;obtain⟨t1,u1,rfl⟩:∃t u,ev=.iface t u:=by
     rcases HE2.out with⟨_,hf⟩|⟨_,_,hv,_⟩|⟨_,_,_,_,_,_,hv,_⟩
     ·exact(hre (Prod.mk.inj hf).1).elim
     ·exact⟨_,_,hv⟩
     ·exact⟨_,_,hv⟩
    have HRE:Hid (Qp w.heap.size (w2.alloc (.cells #[.int .u32 (ri.1:Nat),.int .i64 ri.2] 25)) a (.iface t1 u1) (re,-1)):=by
     rcases HE2.out with h|h|⟨k1,pb,po,at0,h1,h2,h3,h4⟩
     ·exact .inl h
     ·exact .inr (.inl h)
     ·exact .inr (.inr ⟨k1,pb,po,at0,h1,by omega,h3,h4⟩)
    clear HE2;go_wp2_with fail;go_ret2;refine⟨.iface t1 u1,F2,?_,?_,?_,HF2.out,HO3.out⟩
    ·rw[←HR.out];rfl
    ·rw[←HR.out];exact HRE.out
    ·rw[←HR.out];exact HP2.out
  ·have hge:(ls.length:Int)≤(k:Int):=(by omega);rw[List.drop_eq_nil_of_le (by omega),Za]at HR;go_wp2_with fail;go_ret2;refine⟨.nilIface,F',?_,?_,?_,HF.out,HO.out⟩
   ·rw[←HR.out];rfl
   ·rw[←HR.out];exact .inl ⟨rfl,rfl⟩
   ·rw[←HR.out];exact HP.out
open Go.RowKit
theorem Qmx (c:UInt8)(w:World) :
 Calls Tryz.prog 234 #[.int .u8 (c.toNat:Int)] w fun e w'=>e=.returned (.bool (Qq c))∧w'=w:=by
 have HY0:Hid (Qq c=decide ((97≤c.toNat∧c.toNat≤122)∨(48≤c.toNat∧c.toNat≤57)∨c.toNat=46∨c.toNat=45)):=rfl;obtain⟨x,hxx⟩:∃x:Int,(c.toNat:Int)=x:=⟨_,rfl⟩;have HX:Hid ((c.toNat:Int)=x):=hxx;rw[hxx];clear hxx;rcases cases8 x with hx|hx|hx|hx|hx|hx|hx|hx
 ·
  have e1:decide (97≤x)=false:=by simp;omega
  have e2:decide (x≤122)=true:=by simp;omega
  have e3:decide (48≤x)=false:=by simp;omega
  have e4:decide (x≤57)=true:=by simp;omega
  have f1:x<97:=by omega
  have f2:x≤122:=by omega
  have f3:x<48:=by omega
  have f4:x≤57:=by omega
  have f5:(x==46)=false:=by rw[beq_eq_false_iff_ne];omega
  have f6:(x==45)=false:=by rw[beq_eq_false_iff_ne];omega
  have HY:Hid (Qq c=false):=by show _=_;rw[HY0.out];have:=HX.out;simp;omega
  clear hx;go_enter Tryz.func234,Tryz.ntmps234;go_wp2_with fail;go_ret;exact⟨by rw[HY.out];rfl,rfl⟩
 ·
  have e1:decide (97≤x)=false:=by simp;omega
  have e2:decide (x≤122)=true:=by simp;omega
  have e3:decide (48≤x)=false:=by simp;omega
  have e4:decide (x≤57)=true:=by simp;omega
  have f1:x<97:=by omega
  have f2:x≤122:=by omega
  have f3:x<48:=by omega
  have f4:x≤57:=by omega
  have f5:(x==46)=false:=by rw[beq_eq_false_iff_ne];omega
  have f6:(x==45)=true:=by rw[beq_iff_eq];omega
  have HY:Hid (Qq c=true):=by show _=_;rw[HY0.out];have:=HX.out;simp;omega
  clear hx;go_enter Tryz.func234,Tryz.ntmps234;go_wp2_with fail;go_ret;exact⟨by rw[HY.out];rfl,rfl⟩
 ·
  have e1:decide (97≤x)=false:=by simp;omega
  have e2:decide (x≤122)=true:=by simp;omega
  have e3:decide (48≤x)=false:=by simp;omega
  have e4:decide (x≤57)=true:=by simp;omega
  have f1:x<97:=by omega
  have f2:x≤122:=by omega
  have f3:x<48:=by omega
  have f4:x≤57:=by omega
  have f5:(x==46)=true:=by rw[beq_iff_eq];omega
  have f6:(x==45)=false:=by rw[beq_eq_false_iff_ne];omega
  have HY:Hid (Qq c=true):=by show _=_;rw[HY0.out];have:=HX.out;simp;omega
  clear hx;go_enter Tryz.func234,Tryz.ntmps234;go_wp2_with fail;go_ret;exact⟨by rw[HY.out];rfl,rfl⟩
 ·
  have e1:decide (97≤x)=false:=by simp;omega
  have e2:decide (x≤122)=true:=by simp;omega
  have e3:decide (48≤x)=false:=by simp;omega
  have e4:decide (x≤57)=true:=by simp;omega
  have f1:x<97:=by omega
  have f2:x≤122:=by omega
  have f3:x<48:=by omega
  have f4:x≤57:=by omega
  have f5:(x==46)=false:=by rw[beq_eq_false_iff_ne];omega
  have f6:(x==45)=false:=by rw[beq_eq_false_iff_ne];omega
  have HY:Hid (Qq c=false):=by show _=_;rw[HY0.out];have:=HX.out;simp;omega
  clear hx;go_enter Tryz.func234,Tryz.ntmps234;go_wp2_with fail;go_ret;exact⟨by rw[HY.out];rfl,rfl⟩
 ·
  have e1:decide (97≤x)=false:=by simp;omega
  have e2:decide (x≤122)=true:=by simp;omega
  have e3:decide (48≤x)=true:=by simp;omega
  have e4:decide (x≤57)=true:=by simp;omega
  have f1:x<97:=by omega
  have f2:x≤122:=by omega
  have f3:48≤x:=by omega
  have f4:x≤57:=by omega
  have f5:(x==46)=false:=by rw[beq_eq_false_iff_ne];omega
  have f6:(x==45)=false:=by rw[beq_eq_false_iff_ne];omega
  have HY:Hid (Qq c=true):=by show _=_;rw[HY0.out];have:=HX.out;simp;omega
  clear hx;go_enter Tryz.func234,Tryz.ntmps234;go_wp2_with fail;go_ret;exact⟨by rw[HY.out];rfl,rfl⟩
 ·
  have e1:decide (97≤x)=false:=by simp;omega
  have e2:decide (x≤122)=true:=by simp;omega
  have e3:decide (48≤x)=true:=by simp;omega
  have e4:decide (x≤57)=false:=by simp;omega
  have f1:x<97:=by omega
  have f2:x≤122:=by omega
  have f3:48≤x:=by omega
  have f4:57<x:=by omega
  have f5:(x==46)=false:=by rw[beq_eq_false_iff_ne];omega
  have f6:(x==45)=false:=by rw[beq_eq_false_iff_ne];omega
  have HY:Hid (Qq c=false):=by show _=_;rw[HY0.out];have:=HX.out;simp;omega
  clear hx;go_enter Tryz.func234,Tryz.ntmps234;go_wp2_with fail;go_ret;exact⟨by rw[HY.out];rfl,rfl⟩
 ·
  have e1:decide (97≤x)=true:=by simp;omega
  have e2:decide (x≤122)=true:=by simp;omega
  have e3:decide (48≤x)=true:=by simp;omega
  have e4:decide (x≤57)=false:=by simp;omega
  have f1:97≤x:=by omega
  have f2:x≤122:=by omega
  have f3:48≤x:=by omega
  have f4:57<x:=by omega
  have f5:(x==46)=false:=by rw[beq_eq_false_iff_ne];omega
  have f6:(x==45)=false:=by rw[beq_eq_false_iff_ne];omega
  have HY:Hid (Qq c=true):=by show _=_;rw[HY0.out];have:=HX.out;simp;omega
  clear hx;go_enter Tryz.func234,Tryz.ntmps234;go_wp2_with fail;go_ret;exact⟨by rw[HY.out];rfl,rfl⟩
 ·
  have e1:decide (97≤x)=true:=by simp;omega
  have e2:decide (x≤122)=false:=by simp;omega
  have e3:decide (48≤x)=true:=by simp;omega
  have e4:decide (x≤57)=false:=by simp;omega
  have f1:97≤x:=by omega
  have f2:122<x:=by omega
  have f3:48≤x:=by omega
  have f4:57<x:=by omega
  have f5:(x==46)=false:=by rw[beq_eq_false_iff_ne];omega
  have f6:(x==45)=false:=by rw[beq_eq_false_iff_ne];omega
  have HY:Hid (Qq c=false):=by show _=_;rw[HY0.out];have:=HX.out;simp;omega
  clear hx;go_enter Tryz.func234,Tryz.ntmps234;go_wp2_with fail;go_ret;exact⟨by rw[HY.out];rfl,rfl⟩
theorem Qq9 (s:ByteArray)(h:s.size<1):s=⟨#[]⟩:=by
 apply ByteArray.ext;apply Array.eq_empty_of_size_eq_zero;have:s.data.size=s.size:=rfl;omega
theorem Qtd {s:ByteArray}(h:1≤s.size):s.toList.isEmpty=false:=by
 rw[←decide_eq_emptyBytes,decide_eq_false_iff_not];rintro rfl;simp at h
theorem Qcu (s:ByteArray)(hs:s.size≤maxLen)(w:World) :
 Calls Tryz.prog 173 #[.string s] w fun e w'=>e=.returned (.bool (Qj s.data.toList))∧w'=w:=by
 have HSL:Hid (s.data.toList.length=s.size):=by show _=_;rw[Array.length_toList];rfl
 have hs2:(s.size:Int)≤9223372036854775807:=by unfold maxLen at hs;omega
 clear hs;by_cases h1:s.size<1
 ·have e:=Qq9 s h1;subst e;clear h1;go_enter Tryz.func173,Tryz.ntmps173;go_wp2_with fail;go_ret;exact⟨rfl,rfl⟩
 have he:=Qtd (show 1≤s.size by omega);by_cases h12:12<s.size
 ·have h12':(12:Int)<(s.size:Int):=by omega
  have HV:Hid (Qj s.data.toList=false):=by show _=_;unfold Qj;rw[HSL.out];simp;omega
  clear h1 h12;go_enter Tryz.func173,Tryz.ntmps173;go_wp2_with fail;go_ret;exact⟨by rw[HV.out];rfl,rfl⟩
 have h12':¬(12:Int)<(s.size:Int):=by omega
 have h12d:decide ((12:Int)<(s.size:Int))=false:=by simp;omega
 have HLE:Hid (1≤s.size∧s.size≤12):=⟨by omega,by omega⟩;clear h1 h12;go_enter Tryz.func173,Tryz.ntmps173;go_wp2_with fail
 go_loopw [13] (fun i wr=>∃(k:Nat),k≤s.size∧i=.int .i64 k∧(s.data.toList.take k).all Qq=true∧wr=w) (fun i _=>s.size - (intOf i).toNat)
 case atStart=>exact⟨0,Nat.zero_le _,rfl,rfl,rfl⟩
 case round=>
  obtain⟨k,hk,rfl,ht,rfl⟩:=hrel;have HT:Hid ((s.data.toList.take k).all Qq=true):=ht;clear ht;by_cases hlt:k<s.size
  ·have HG:Hid (s.data.toList[k]? = some s[k]):=(by show _=_;rw[List.getElem?_eq_getElem (by rw[HSL.out];exact hlt)];rfl);have hlt':(k:Int)<(s.size:Int):=(by omega);obtain⟨bv,hbv⟩:∃b,Qq s[k]=b:=⟨_,rfl⟩;have HB:Hid (Qq s[k]=bv):=hbv;clear hbv;go_wp2_with fail;refine(Qmx s[k] _).mono ?_;rintro e w1 ⟨rfl,hw1⟩;subst hw1;rw[HB.out];cases bv with
   | true=>
    go_wp2_with fail;go_roundw
    case rel=>exact⟨k+1,by omega,by go_num,Ku HT.out HG.out HB.out,trivial⟩
    case measure=>simp[intOf];omega
   | false=>
    go_wp2_with fail;go_ret;exact⟨by rw[Kg (HG.out) HB.out];rfl,rfl⟩
  ·have hge:(s.size:Int)≤(k:Int):=(by omega);have HV:Hid (Qj s.data.toList=true):=(by show _=_;have hall:=HT.out;rw[List.take_of_length_le (by rw[HSL.out];omega)]at hall;unfold Qj;rw[hall,HSL.out];have:=HLE.out;simp;omega);go_wp2_with fail;go_ret;exact⟨by rw[HV.out];rfl,rfl⟩
theorem Zb.same {lo:Nat}{W W':World}{v:Value}{ids:List (Nat×Int)}(h:Zb lo W v ids)(hs:X0 lo W.heap.size W W')(hz:W.heap.size≤W'.heap.size):Zb lo W' v ids:=by
 obtain⟨p,c,hv,h⟩:=h;refine⟨p,c,hv,fun i hi => ?_⟩;obtain⟨b,o,hp,hl,hlt,h1,h2⟩:=h i hi;have hc:∀j,W'.cell? ⟨b,j,none⟩=W.cell? ⟨b,j,none⟩:=fun j=>World.cell?_of_block (w:=W) (hs b hl hlt);exact⟨b,o,hp,hl,Nat.lt_of_lt_of_le hlt hz,(hc _).trans h1,(hc _).trans h2⟩
theorem Qp.mkNil (base:Nat)(w:World)(a:Nat→Addr):Qp base w a .nilIface (0,-1):=.inl ⟨rfl,rfl⟩
theorem Qp.sent (base:Nat)(w:World)(a:Nat→Addr)(k:Nat)(hk:k<12){c:Int}(hc:c=(k:Int)+1):Qp base w a (sentV a k) (c,-1):=.inr (.inl ⟨k,hk,rfl,by rw[hc]⟩)
theorem Ua (a:Nat→Addr)(nm:ByteArray)(hnm:nm.size≤maxLen)(len p:Int)(v:Value)(ids:List (Nat×Int))(w:World)(hE:Je [1,2,3,6,8] w a)(hv:Q3 w v ids)(hlen:ids.length≤maxLen) :
 Calls Tryz.prog 166 #[rcpV nm len p v] w fun e w'=>∃ev,e=.returned ev∧Qp w.heap.size w' a ev (Qb nm.data.toList len ids)∧Below w.heap.size w w':=by
 obtain⟨pa,c,rfl,hcell⟩:=hv;have HN:Hid (nm.size≤maxLen):=hnm;have hl2:(ids.length:Int)≤9223372036854775807:=by unfold maxLen at hlen;omega
 have HG:Hid (∀W',Below w.heap.size w W'→∀i,([1,2,3,6,8]:List Nat).contains i=true→W'.cell? ⟨Xn i,0,none⟩=some (sentV a i)):=fun W' hb i hi=>(hE.below hb wz).glob i hi;have HC:Hid (∀W',Below w.heap.size w W'→∀i (h:i<ids.length),∃b o,pa=some ⟨b,o,none⟩∧W'.cell? ⟨b,o+i*2,none⟩=some (.int .u32 (ids[i].1:Nat))∧W'.cell? ⟨b,o+i*2+1,none⟩=some (.int .i64 ids[i].2)):=fun W' hb i hi=>by obtain⟨b,o,hp,hlt,h1,h2⟩:=hcell i hi;exact⟨b,o,hp,(hb.cell (p:=⟨b,o+i*2,none⟩) hlt).trans h1,(hb.cell (p:=⟨b,o+i*2+1,none⟩) hlt).trans h2⟩
 clear hnm hlen hcell hE;go_enter Tryz.func166,Tryz.ntmps166;go_wp2_with fail;refine(Qcu nm HN.out _).mono ?_;rintro e w1 ⟨rfl,hw1⟩;subst hw1;have hX:=Blk.new w #[.string nm,.int .i64 len,.int .u32 p,.slice pa ids.length c] 40;have hb:Below w.heap.size w (w.alloc (.cells #[.string nm,.int .i64 len,.int .u32 p,.slice pa ids.length c] 40)):=(Below.refl _ w).alloc wz _;obtain⟨W,hW⟩:∃W,w.alloc (.cells #[.string nm,.int .i64 len,.int .u32 p,.slice pa ids.length c] 40)=W:=⟨_,rfl⟩;rw[hW]at hX hb ⊢;clear hW;have x1:=hX.cell (i:=1) rfl;have x3:=hX.cell (i:=3) rfl;have g1:=HG.out W hb 1 (by decide);have g3:=HG.out W hb 3 (by decide);have g6:=HG.out W hb 6 (by decide);dsimp only[Xn]at g1 g3 g6;by_cases h1:Qj nm.data.toList=true
 ·rw[h1];have H1:Hid (Qj nm.data.toList=true):=h1;clear h1;by_cases h2a:len<0
  ·have HR:Hid (Qb nm.data.toList len ids=(2,-1)):=Qcs ids H1.out (.inl h2a);go_wp2_with fail;go_ret;exact⟨_,rfl,by rw[HR.out];exact Qp.sent _ _ a 1 (by decide) rfl,hb⟩
  ·by_cases h2b:4000<len
   ·have HR:Hid (Qb nm.data.toList len ids=(2,-1)):=Qcs ids H1.out (.inr h2b);go_wp2_with fail;go_ret;exact⟨_,rfl,by rw[HR.out];exact Qp.sent _ _ a 1 (by decide) rfl,hb⟩
   ·have H2:Hid (¬(len<0∨4000<len)):=fun h=>h.elim h2a h2b;by_cases h3:250<ids.length
    ·have h3':(250:Int)<(ids.length:Int):=(by omega);have HR:Hid (Qb nm.data.toList len ids=(7,-1)):=Qh2 H1.out H2.out h3;clear h3;go_wp2_with fail;go_ret;exact⟨_,rfl,by rw[HR.out];exact Qp.sent _ _ a 6 (by decide) rfl,hb⟩
    ·have h3':¬(250:Int)<(ids.length:Int):=(by omega);have H3:Hid (¬250<ids.length):=h3;clear h3 g1 g3 g6;go_wp2_with fail
     go_loopw [3,28] (fun t i wr=>∃(k:Nat),k≤ids.length∧i=.int .i64 k∧t=.int .i64 (Jr (ids.take k))∧(∀j (hj:j<ids.length),j<k→qo ids[j]=true)∧0≤Jr (ids.take k)∧Jr (ids.take k)≤64*(k:Int)∧Below w.heap.size w wr∧Blk wr w.heap.size #[.string nm,.int .i64 len,.int .u32 p,.slice pa ids.length c] 40) (fun _ i _=>ids.length - (intOf i).toNat)
     case atStart=>exact⟨0,Nat.zero_le _,rfl,by simp[Jr],fun j _ h=>by omega,by simp[Jr],by simp[Jr],hb,hX⟩
     case round=>
      clear hX hb x1 x3;obtain⟨k,hk,rfl,rfl,hok,hs0,hs1,hb,hX⟩:=hrel;have HOK:Hid (∀j (hj:j<ids.length),j<k→qo ids[j]=true):=hok;clear hok;have x1:=hX.cell (i:=1) rfl;have g2:=HG.out wr hb 2 (by decide);have g8:=HG.out wr hb 8 (by decide);dsimp only[Xn]at g2 g8;have hlg2:=lt_of_cell g2;by_cases hlt:k<ids.length
      ·have hlt':(k:Int)<(ids.length:Int):=(by omega);obtain⟨b,o,rfl,hc0,hc1⟩:=HC.out wr hb k hlt;have HSN:Hid (Jr (ids.take (k+1))=Jr (ids.take k)+ids[k].2):=Qk2 ids k hlt;obtain⟨x,hx⟩:∃x,ids[k].2=x:=⟨_,rfl⟩;obtain⟨y,hy⟩:∃y:Int,((ids[k].1:Nat):Int)=y:=⟨_,rfl⟩;obtain⟨t,ht⟩:∃t,Jr (ids.take k)=t:=⟨_,rfl⟩;have HOX:Hid (qo ids[k]=decide (1≤x∧x≤64)):=(by show _=_;rw[←hx];rfl);rw[hx]at hc1 HSN;rw[hy]at hc0;rw[ht]at HSN hs0 hs1;rw[ht];clear hx ht hy;have hal:Below wr.heap.size wr (wr.alloc (.cells #[.int .u32 y,.int .i64 x] 25)):=(Below.refl _ wr).alloc wz _;by_cases hx1:x<1
       ·have HB:Hid (Ji 0 ids=some k):=(by have:=Qad ids 0 k hlt (fun j hj=>HOK.out j (by omega) hj) (by rw[HOX.out];simp;omega);rwa [Nat.zero_add]at this);have HR:Hid (Qb nm.data.toList len ids=(3,(k:Int))):=Qab H1.out H2.out H3.out HB.out;go_wp2_with fail;go_ret;refine⟨_,rfl,?_,(hb.trans (hal.mono hb.size)).alloc (Nat.le_trans hb.size hal.size) _⟩;rw[HR.out];refine .inr (.inr ⟨2,wr.heap.size+1,0,(k:Int),by decide,by have:=hb.size;omega,rfl,?_,?_,rfl⟩)
        ·simp
        ·simp
       ·by_cases hx2:64<x
        ·have HB:Hid (Ji 0 ids=some k):=(by have:=Qad ids 0 k hlt (fun j hj=>HOK.out j (by omega) hj) (by rw[HOX.out];simp;omega);rwa [Nat.zero_add]at this);have HR:Hid (Qb nm.data.toList len ids=(3,(k:Int))):=Qab H1.out H2.out H3.out HB.out;go_wp2_with fail;go_ret;refine⟨_,rfl,?_,(hb.trans (hal.mono hb.size)).alloc (Nat.le_trans hb.size hal.size) _⟩;rw[HR.out];refine .inr (.inr ⟨2,wr.heap.size+1,0,(k:Int),by decide,by have:=hb.size;omega,rfl,?_,?_,rfl⟩)
         ·simp
         ·simp
        ·go_wp2_with fail;go_roundw
         case rel=>exact⟨k+1,by omega,by go_num,by rw[HSN.out],fun j hj h=>by
          by_cases e:j=k
          ·subst e;rw[HOX.out];simp;omega
          ·exact HOK.out j hj (by omega),by rw[HSN.out];omega,by rw[HSN.out];omega,hb.trans (hal.mono hb.size),hX.next hal⟩
         case measure=>simp[intOf];omega
      ·have hge:(ids.length:Int)≤(k:Int):=(by omega);have hall:ids.take k=ids:=List.take_of_length_le (by omega);rw[hall]at hs0 hs1 ⊢;have HB:Hid (Ji 0 ids=none):=Gw ids 0 (fun j hj=>HOK.out j hj (by omega));obtain⟨t,ht⟩:∃t,Jr ids=t:=⟨_,rfl⟩;have HLS:Hid (Jr ids=t):=ht;rw[ht]at hs0 hs1 ⊢;clear ht hall;by_cases hsum:t=len
       ·have HR:Hid (Qb nm.data.toList len ids=(0,-1)):=Qbe H1.out H2.out H3.out HB.out (by rw[HLS.out];exact hsum);have hq:(t==len)=true:=(by rw[beq_iff_eq];exact hsum);have hq2:(t != len)=false:=(by rw[bne,hq];rfl);clear hsum;go_wp2_with fail;go_ret;exact⟨_,rfl,by rw[HR.out];exact Qp.mkNil _ _ a,hb⟩
       ·have HR:Hid (Qb nm.data.toList len ids=(9,-1)):=Qjd H1.out H2.out H3.out HB.out (by rw[HLS.out];exact hsum);have hq:(t==len)=false:=(by rw[beq_eq_false_iff_ne];exact hsum);have hq2:(t != len)=true:=(by rw[bne,hq];rfl);clear hsum;go_wp2_with fail;go_ret;exact⟨_,rfl,by rw[HR.out];exact Qp.sent _ _ a 8 (by decide) rfl,hb⟩
 ·have h1':Qj nm.data.toList=false:=by simpa using h1
  rw[h1'];have HR:Hid (Qb nm.data.toList len ids=(4,-1)):=Qg8 len ids h1';clear h1 h1';go_wp2_with fail;go_ret;exact⟨_,rfl,by rw[HR.out];exact Qp.sent _ _ a 3 (by decide) rfl,hb⟩
def Xw:Nat→List (List UInt8)→List (Nat×Int)→Option Nat
 | i,p::l,x::r=>if Qc p=x then Xw (i+1) l r else some i
 | _,_,_=>none
def X9 (nm:List UInt8)(len:Int)(p:Nat)(ids:List (Nat×Int))(ls:List (List UInt8)):List UInt8×(Int×Int):=
 if Qb nm len ids≠(0,-1) then ([],Qb nm len ids) else if ls.length≠ids.length then ([],(3,-1)) else
  match Xw 0 ls ids with
  | some i=>([],(9,(i:Int)))
  | none=>if pmore 2166136261 ls.flatten=p then (ls.flatten,(0,-1)) else ([],(9,-1))
theorem recFault_code (nm:List UInt8)(len:Int)(ids:List (Nat×Int)):Qb nm len ids=(0,-1)∨0<(Qb nm len ids).1:=by
 unfold Qb;split
 ·exact .inr (by decide)
 ·split
  ·exact .inr (by decide)
  ·split
   ·exact .inr (by decide)
   ·split
    ·exact .inr (by show(0:Int)<3;decide)
    ·split
     ·exact .inl rfl
     ·exact .inr (by decide)
theorem Yc {nm:List UInt8}{len:Int}{ids:List (Nat×Int)}(h:Qb nm len ids=(0,-1)):Qj nm=true∧(0≤len∧len≤4000)∧ids.length≤250∧Ji 0 ids=none∧Jr ids=len:=by
 unfold Qb at h;split at h
 ·cases h
 ·rename_i h1
  split at h
  ·cases h
  ·rename_i h2
   split at h
   ·cases h
   ·rename_i h3
    split at h
    ·cases h
    ·rename_i h4
     split at h
     ·rename_i h5
      exact⟨by simpa using h1,by omega,by omega,h4,h5⟩
     ·cases h
theorem Qet:∀(ls:List (List UInt8)) (ids:List (Nat×Int)) (i k:Nat) (h:k<ls.length) (h':k<ids.length),(∀j (hj:j<ls.length) (hj':j<ids.length),j<k→Qc ls[j]=ids[j])→Qc ls[k]≠ids[k]→Xw i ls ids=some (i+k)
 | [],_,_,_,h,_,_,_=>by simp at h
 | _::_,[],_,_,_,h',_,_=>by simp at h'
 | p::l,x::r,i,0,_,_,_,hb=>by have hb':Qc p≠x:=hb;rw[Xw,if_neg hb'];rfl
 | p::l,x::r,i,k+1,h,h',ha,hb=>by have h0:Qc p=x:=ha 0 (by simp) (by simp) (by omega);rw[Xw,if_pos h0,Qet l r (i+1) k (by simpa using h) (by simpa using h') (fun j hj hj' hk=>by have:=ha (j+1) (by simpa using hj) (by simpa using hj') (by omega);simpa using this) (by simpa using hb)];congr 1;omega
theorem Gu:∀(ls:List (List UInt8)) (ids:List (Nat×Int)) (i:Nat),(∀j (hj:j<ls.length) (hj':j<ids.length),Qc ls[j]=ids[j])→Xw i ls ids=none
 | [],_,_,_=>by simp[Xw]
 | _::_,[],_,_=>by simp[Xw]
 | p::l,x::r,i,ha=>by have h0:Qc p=x:=ha 0 (by simp) (by simp);rw[Xw,if_pos h0,Gu l r (i+1) (fun j hj hj'=>by have:=ha (j+1) (by simpa using hj) (by simpa using hj');simpa using this)]
structure Qln (w W:World)(nm:ByteArray)(len p:Int)(v:Value)(B:Nat)(c a:Int):Prop where
 fault:Qch w W nm len p v
 lo:w.heap.size+1<B
 hi:B<W.heap.size
 q0:W.cell? ⟨B,0,none⟩=some (.int .i64 c)
 q1:W.cell? ⟨B,1,none⟩=some (.int .i64 a)
theorem Qln.next {w W W':World}{nm:ByteArray}{len p:Int}{v:Value}{B:Nat}{c a:Int}(h:Qln w W nm len p v B c a)(hb:Below W.heap.size W W'):Qln w W' nm len p v B c a:=
 ⟨h.fault.next hb,h.lo,Nat.lt_of_lt_of_le h.hi hb.size,(hb.cell (p:=⟨B,0,none⟩) h.hi).trans h.q0,(hb.cell (p:=⟨B,1,none⟩) h.hi).trans h.q1⟩
theorem Qln.new {w W:World}{nm:ByteArray}{len p:Int}{v:Value}(h:Qch w W nm len p v)(c a:Int)(t:TypeId):Qln w (W.alloc (.cells #[.int .i64 c,.int .i64 a] t)) nm len p v W.heap.size c a:=
 ⟨h.next ((Below.refl _ W).alloc wz _),h.size,by simp,Zh W _ _ rfl rfl,Zh W _ _ rfl rfl⟩
def cutBy (c:UInt8):List UInt8→List (List UInt8)
 | []=>[[]]
 | x::l=>if x=c then []::cutBy c l else match cutBy c l with|p::r=>(x::p)::r|[]=>[[x]]
theorem Qim (c:UInt8)(l:List UInt8)(h:c ∉ l):cutBy c l=[l]:=by
 induction l with
 | nil=>rfl
 | cons x l ih=>
  simp only[List.mem_cons,not_or]at h;rw[cutBy,if_neg (fun e=>h.1 e.symm),ih h.2]
theorem Gn (c:UInt8)(p r:List UInt8)(h:c ∉ p):cutBy c (p++c::r)=p::cutBy c r:=by
 induction p with
 | nil=>rw[List.nil_append,cutBy,if_pos rfl]
 | cons x p ih=>
  simp only[List.mem_cons,not_or]at h;rw[List.cons_append,cutBy,if_neg (fun e=>h.1 e.symm),ih h.2]
abbrev Qf2 (p:List UInt8):Value:=.string ⟨p.toArray⟩
theorem Qwh {w:World}{base:Nat}{e:TypeId}{size:Nat}{v:Value}{n:Nat}{xs:List Value}(h:w.ownsRow base e size v n xs){j:Nat}(hj:v.ownBlock=some j):base≤j:=by
 obtain⟨_,h⟩:=h;rcases h with⟨rfl,_⟩|⟨g,cap,cur,rfl,hg,_⟩
 ·simp[Value.ownBlock]at hj
 ·simp[Value.ownBlock]at hj;omega
theorem Qor:(Tryz.prog.info? 9).map (fun i=>(i.zero,i.size,i.bytes))=some (some (.string ⟨#[]⟩),1,16):=by kernel_rfl
def U1:Option Nat→Value
 | some v=>.tuple #[.int .u32 v,.bool true]
 | none=>.tuple #[.int .u32 0,.bool false]
theorem Qn5 (l:List UInt8)(k:Nat)(h:k<l.length)(hn:unhex1 l[k]=none)(n:Nat):unhex n l=none:=by
 induction l generalizing n k with
 | nil=>simp at h
 | cons c l ih=>
  cases k with
  | zero=>simp at hn;simp[unhex,hn]
  | succ k=>
   simp only[unhex];cases unhex1 c with
   | none=>rfl
   | some d=>exact ih k (by simpa using h) (by simpa using hn) _
theorem Qfa {n m:Nat}{l:List UInt8}{c:UInt8}{d:Nat}(h:unhex n l=some m)(hd:unhex1 c=some d):unhex n (l++[c])=some (16*m+d):=by
 rw[Qdk,h];simp[unhex,hd]
theorem Qne {c:UInt8}(h1:(48:Int)≤c.toNat)(h2:(c.toNat:Int)≤57):unhex1 c=some (c.toNat - 48):=by unfold unhex1;rw[if_pos (by omega)]
theorem Qni {c:UInt8}(h1:(97:Int)≤c.toNat)(h2:(c.toNat:Int)≤102):unhex1 c=some (c.toNat - 87):=by unfold unhex1;rw[if_neg (by omega),if_pos (by omega)]
theorem Qqe {c:UInt8}(h1:(c.toNat:Int)<48∨57<(c.toNat:Int))(h2:(c.toNat:Int)<97∨102<(c.toNat:Int)):unhex1 c=none:=by unfold unhex1;rw[if_neg (by omega),if_neg (by omega)]
theorem Qws (m d:Nat)(x:Int)(hx:x=d)(hm:m<268435456)(hd:d<16):bits .or .u32 ((m:Int)*16) x=((16*m+d:Nat):Int):=by
 subst hx;rw[bits_join .u32 32 (by decide) (fun n h0 h1=>by rw[IntKind.wrap_u32];omega) 4 _ _ (by omega) (by omega) (by omega) (by omega) (by omega) (by omega)];omega
theorem Qmz (s:ByteArray)(k:Nat)(h:k<s.size)(hn:unhex1 s[k]=none):U1 (unhex 0 s.data.toList)=.tuple #[.int .u32 0,.bool false]:=by
 rw[Qn5 s.data.toList k (by simpa using h) hn];rfl
def unhex8 (l:List UInt8):Option Nat:=if l.length=8 then unhex 0 l else none
theorem Qin (s:ByteArray)(h:s.size=8):unhex8 s.data.toList=unhex 0 s.data.toList:=by
 unfold unhex8;rw[if_pos (by rw[Array.length_toList];exact h)]
theorem Qqu (s:ByteArray)(h:s.size≠8):unhex8 s.data.toList=none:=by
 unfold unhex8;rw[if_neg (by rw[Array.length_toList];exact h)]
theorem Km (s:ByteArray)(w:World) :
 Calls Tryz.prog 196 #[.string s] w fun e w'=>e=.returned (U1 (unhex8 s.data.toList))∧w'=w:=by
 by_cases hs8:s.size=8
 ·have h8:((s.size:Int) != 8)=false:=by simp;omega
  rw[Qin s hs8];have HS:Hid (s.size=8):=hs8;have hs:s.size≤8:=by omega
  clear hs8;go_enter Tryz.func196,Tryz.ntmps196
  go_wp2
  go_loop [4,12] (fun q i=>∃k m:Nat,k≤s.size∧i=.int .i64 k∧q=.int .u32 m∧unhex 0 (s.data.toList.take k)=some m) (fun _ i=>s.size - (intOf i).toNat)
  case atStart=>exact⟨0,0,Nat.zero_le _,rfl,rfl,rfl⟩
  case round=>
   obtain⟨k,m,hk,rfl,rfl,hu⟩:=hrel;have HU:Hid (unhex 0 (s.data.toList.take k)=some m):=hu;clear hu;by_cases hlt:k<s.size
   ·have hm:m<268435456:=(by have h1:=Qf9 _ _ _ HU.out;have h2:(s.data.toList.take k).length≤7:=(by simp;omega);have h3:16 ^ (s.data.toList.take k).length≤16 ^ 7:=Nat.pow_le_pow_right (by decide) h2;have h4:(16:Nat) ^ 7=268435456:=(by decide);omega);have hts:=Un s k hlt;have HT:Hid (s.data.toList.take (k+1)=s.data.toList.take k++[s[k]]):=hts;clear hts
    go_wp2
    ·go_round
     case rel=>exact⟨k+1,16*m+(s[k].toNat - 48),by omega,by go_num,Qjh (Qws m _ _ (by omega) hm (by omega)),by rw[HT.out];exact Qfa HU.out (Qne ‹_› ‹_›)⟩
     case measure=>simp[intOf];omega
    ·go_round
     case rel=>exact⟨k+1,16*m+(s[k].toNat - 87),by omega,by go_num,Qjh (Qws m _ _ (by omega) hm (by omega)),by rw[HT.out];exact Qfa HU.out (Qni ‹_› ‹_›)⟩
     case measure=>simp[intOf];omega
    all_goals
     go_ret2;exact⟨by rw[Qmz s k hlt (Qqe (by omega) (by omega))];rfl,rfl⟩
   ·go_wp2
    go_ret2;refine⟨?_,rfl⟩;have hu:=HU.out;rw[List.take_of_length_le (by simp;omega)]at hu;rw[hu];rfl
 ·have h8:((s.size:Int) != 8)=true:=by simp;omega
  rw[Qqu s hs8];clear hs8;go_enter Tryz.func196,Tryz.ntmps196
  go_wp2
  go_ret2;exact⟨rfl,rfl⟩
def Yi:Option Nat→Value
 | some v=>.tuple #[.int .i64 v,.bool true]
 | none=>.tuple #[.int .i64 0,.bool false]
def Qxa:Option Nat→Int
 | some v=>v
 | none=>-1
theorem Qm5 (l:List UInt8)(k:Nat)(h:k<l.length)(hn:undec1 l[k]=none)(n:Nat):undec n l=none:=by
 induction l generalizing n k with
 | nil=>simp at h
 | cons c l ih=>
  cases k with
  | zero=>simp at hn;simp[undec,hn]
  | succ k=>
   simp only[undec];cases undec1 c with
   | none=>rfl
   | some d=>exact ih k (by simpa using h) (by simpa using hn) _
theorem Qfq {n m:Nat}{l:List UInt8}{c:UInt8}{d:Nat}(h:undec n l=some m)(hd:undec1 c=some d):undec n (l++[c])=some (10*m+d):=by
 rw[Qco,h];simp[undec,hd]
theorem Qgs {c:UInt8}(h1:(48:Int)≤c.toNat)(h2:(c.toNat:Int)≤57):undec1 c=some (c.toNat - 48):=by unfold undec1;rw[if_pos (by omega)]
theorem Qik {c:UInt8}(h1:(c.toNat:Int)<48∨57<(c.toNat:Int)):undec1 c=none:=by unfold undec1;rw[if_neg (by omega)]
theorem Qh (s:ByteArray):s.data.toList.length=s.size:=by rw[Array.length_toList];rfl
theorem Qh5 (s:ByteArray)(most:Nat)(h:s.size<1∨most<s.size):numOf s.data.toList most=none:=by
 unfold numOf;rw[if_pos];rcases h with h|h
 ·exact Or.inl (by simpa using h)
 ·exact Or.inr (Or.inl (by simpa using h))
theorem Qnh (s:ByteArray)(most:Nat)(h:1<s.size)(h0:s[0].toNat=48):numOf s.data.toList most=none:=by
 unfold numOf;rw[if_pos];refine Or.inr (Or.inr ⟨by simpa using h,?_⟩);have e:s.data.toList.head? = some s[0]:=by rw[List.head?_eq_getElem?,List.getElem?_eq_getElem (by simpa using (by omega:0<s.size))];rfl
 rw[e,UInt8.toNat_inj.1 (h0.trans (by decide:(48:Nat)=(48:UInt8).toNat))]
theorem Qnb (s:ByteArray)(most:Nat)(h1:1≤s.size)(h2:s.size≤most)(h3:∀_:1<s.size,s[0].toNat≠48):numOf s.data.toList most=undec 0 s.data.toList:=by
 unfold numOf;rw[if_neg];rintro(h|h|⟨h,h4⟩)
 ·rw[Qh]at h;omega
 ·rw[Qh]at h;omega
 ·have hs:1<s.size:=by rw[Qh]at h;exact h
  have e:s.data.toList.head? = some s[0]:=by rw[List.head?_eq_getElem?,List.getElem?_eq_getElem (by simpa using (by omega:0<s.size))];rfl
  rw[e]at h4;exact h3 hs (by rw[Option.some.inj h4];decide)
theorem Qbz (s:ByteArray)(k:Nat)(h:k<s.size)(hn:undec1 s[k]=none):undec 0 s.data.toList=none:=
 Qm5 s.data.toList k (by rw[Qh];exact h) hn 0
theorem Qkm (s:ByteArray)(k m d:Nat)(hs:s.size≤d)(h:undec 0 (s.data.toList.take k)=some m):m<10 ^ d:=by
 have h1:=Qfh _ _ _ h;have h2:(s.data.toList.take k).length≤d:=by simp;omega
 have h3:10 ^ (s.data.toList.take k).length≤10 ^ d:=Nat.pow_le_pow_right (by decide) h2;omega
theorem Qhm (s:ByteArray)(k m:Nat)(hk:k≤17)(h:undec 0 (s.data.toList.take k)=some m):m<100000000000000000:=by
 have h1:=Qfh _ _ _ h;have h2:(s.data.toList.take k).length≤17:=by simp;omega
 have h3:10 ^ (s.data.toList.take k).length≤10 ^ 17:=Nat.pow_le_pow_right (by decide) h2;have h4:(10:Nat) ^ 17=100000000000000000:=by decide
 omega
theorem Qs3 {s:ByteArray}(h:1≤s.size):s.toList.isEmpty=false:=by
 rw[←decide_eq_emptyBytes,decide_eq_false_iff_not];rintro rfl;simp at h
def Gs (l:List UInt8):Bool:=(numOf l l.length).isSome
theorem Qb5 (l:List UInt8)(most:Nat)(h:l.length≤most):numOf l most=numOf l l.length:=by
 unfold numOf;by_cases hb:l.length<1∨(1<l.length∧l.head? = some 48)
 ·rw[if_pos (by rcases hb with h|h<;>simp[h]),if_pos (by rcases hb with h|h<;>simp[h])]
 ·rw[if_neg (by rintro(h1|h1|h1)<;>simp_all<;>omega),if_neg (by rintro(h1|h1|h1)<;>simp_all)]
theorem Qra {l:List UInt8}(h:Gs l=false)(most:Nat):numOf l most=none:=by
 by_cases hl:l.length≤most
 ·rw[Qb5 l most hl];unfold Gs at h;simpa using h
 ·unfold numOf;rw[if_pos (by omega)]
theorem Qir {l:List UInt8}(h:Gs l=true):∃n,undec 0 l=some n∧∀most,l.length≤most→numOf l most=some n:=by
 unfold Gs at h;obtain⟨n,hn⟩:=Option.isSome_iff_exists.1 h;have h2:=hn;unfold numOf at h2;split at h2
 ·cases h2
 ·exact⟨n,h2,fun most hm=>by rw[Qb5 l most hm];exact hn⟩
theorem Qbb (s:ByteArray)(hs:s.size≤maxLen)(w:World) :
 Calls Tryz.prog 308 #[.string s] w fun e w'=>e=.returned (.bool (Gs s.data.toList))∧w'=w:=by
 have hs2:(s.size:Int)≤9223372036854775807:=by unfold maxLen at hs;omega
 clear hs;by_cases h1:s.size<1
 ·have e:Gs s.data.toList=false:=by unfold Gs;rw[Qh5 s _ (.inl h1)];rfl
  rw[e];obtain rfl:s=⟨#[]⟩:=by apply ByteArray.ext;apply Array.eq_empty_of_size_eq_zero;have:s.data.size=s.size:=rfl;omega
  clear h1 e;go_enter Tryz.func308,Tryz.ntmps308
  go_wp2
  go_ret;exact⟨rfl,rfl⟩
 have h1:1≤s.size:=by omega
 have he:=Qs3 h1;have hlen:s.data.toList.length=s.size:=Qh s;by_cases hz:∃h:1<s.size,s[0].toNat=48
 ·obtain⟨h2,h0⟩:=hz;have e:Gs s.data.toList=false:=by unfold Gs;rw[Qnh s _ h2 h0];rfl
  rw[e];have h0':((s[0].toNat:Int)==48)=true:=by simp;omega
  have h2':(1:Int)<(s.size:Int):=by omega
  clear h0 e hlen;go_enter Tryz.func308,Tryz.ntmps308
  go_wp2
  all_goals (go_ret;exact⟨rfl,rfl⟩)
 have h3:∀_:1<s.size,s[0].toNat≠48:=fun h e=>hz ⟨h,e⟩;clear hz;have hg:numOf s.data.toList s.data.toList.length=undec 0 s.data.toList:=Qnb s _ h1 (by omega) h3;have HG:Hid (Gs s.data.toList=(undec 0 s.data.toList).isSome):=by show _=_;unfold Gs;rw[hg]
 clear hg;have hgo:(∃_:1<s.size,((s[0].toNat:Int)==48)=false)∨s.size≤1:=by
  rcases Nat.lt_or_ge 1 s.size with h|h
  ·exact Or.inl ⟨h,by have:=h3 h;simp;omega⟩
  ·exact Or.inr h
 have HL:Hid (s.data.toList.length=s.size):=hlen;clear h3 hlen;rcases hgo with⟨h2,h0⟩|h2
 all_goals
  go_enter Tryz.func308,Tryz.ntmps308
  go_wp2
  go_loop [18] (fun i=>∃k:Nat,k≤s.size∧i=.int .i64 k∧∃m,undec 0 (s.data.toList.take k)=some m) (fun i=>s.size - (intOf i).toNat)
  case atStart=>exact⟨0,Nat.zero_le _,rfl,0,rfl⟩
  case round=>
   obtain⟨k,hk,rfl,m,hu⟩:=hrel;have HU:Hid (undec 0 (s.data.toList.take k)=some m):=hu;clear hu;by_cases hlt:k<s.size
   ·have HT:Hid (s.data.toList.take (k+1)=s.data.toList.take k++[s[k]]):=Un s k hlt
    go_wp2
    ·go_ret;exact⟨by rw[HG.out,Qbz s k hlt (Qik (by omega))];rfl,rfl⟩
    ·go_round
     case rel=>exact⟨k+1,by omega,by go_num,10*m+(s[k].toNat - 48),by rw[HT.out];exact Qfq HU.out (Qgs (by omega) (by omega))⟩
     case measure=>simp[intOf];omega
    ·go_ret;exact⟨by rw[HG.out,Qbz s k hlt (Qik (by omega))];rfl,rfl⟩
   ·go_wp2
    go_ret;refine⟨?_,rfl⟩;have hu:=HU.out;rw[List.take_of_length_le (by rw[HL.out];omega)]at hu;rw[HG.out,hu];rfl
theorem Qd6 (s:ByteArray)(hs:s.size≤maxLen)(most:Nat)(hmost:most≤18)(w:World) :
 Calls Tryz.prog 268 #[.string s,.int .i64 most] w fun e w'=>e=.returned (Yi (numOf s.data.toList most))∧w'=w:=by
 have HS:Hid (s.size≤maxLen):=hs;have hs2:(s.size:Int)≤9223372036854775807:=by unfold maxLen at hs;omega
 clear hs;by_cases hbad:most<s.size
 ·rw[Qh5 s most (.inr hbad)];have hb:(most:Int)<(s.size:Int):=by omega
  clear hbad;go_enter Tryz.func268,Tryz.ntmps268;go_wp2_with fail;go_ret2;exact⟨rfl,rfl⟩
 have hb:¬(most:Int)<(s.size:Int):=by omega
 have hb':decide ((most:Int)<(s.size:Int))=false:=by simpa using hb
 have h6:s.size≤most:=by omega
 clear hbad;by_cases hare:Gs s.data.toList=false
 ·rw[Qra hare];have HA:Hid (Gs s.data.toList=false):=hare;clear hare;go_enter Tryz.func268,Tryz.ntmps268;go_wp2_with fail;refine(Qbb s HS.out _).mono ?_;rintro e w1 ⟨rfl,rfl⟩;rw[HA.out];go_wp2_with fail;go_ret2;exact⟨rfl,rfl⟩
 have hare:Gs s.data.toList=true:=by simpa using hare
 obtain⟨n,hn,hno⟩:=Qir hare;have e:=hno most (by rw[Qh];exact h6);rw[e];have HA:Hid (Gs s.data.toList=true):=hare;have HN:Hid (undec 0 s.data.toList=some n):=hn;clear hare hn hno e;go_enter Tryz.func268,Tryz.ntmps268;go_wp2_with fail;refine(Qbb s HS.out _).mono ?_;rintro e w1 ⟨rfl,rfl⟩;rw[HA.out];go_wp2_with fail
 go_loop [6,19] (fun q i=>∃k m:Nat,k≤s.size∧i=.int .i64 k∧q=.int .i64 m∧undec 0 (s.data.toList.take k)=some m) (fun _ i=>s.size - (intOf i).toNat)
 case atStart=>exact⟨0,0,Nat.zero_le _,rfl,rfl,rfl⟩
 case round=>
  obtain⟨k,m,hk,rfl,rfl,hu⟩:=hrel;have HU:Hid (undec 0 (s.data.toList.take k)=some m):=hu;clear hu;by_cases hlt:k<s.size
  ·have HT:Hid (s.data.toList.take (k+1)=s.data.toList.take k++[s[k]]):=Un s k hlt;have hm:m<100000000000000000:=Qhm s k m (by omega) HU.out;have hd:∃d,undec1 s[k]=some d:=by
    cases hd:undec1 s[k]with
    | none=>have:=Qbz s k hlt hd;rw[HN.out]at this;cases this
    | some d=>exact⟨d,rfl⟩
   obtain⟨hd1,hd2⟩:(48:Int)≤s[k].toNat∧(s[k].toNat:Int)≤57:=by
    obtain⟨d,hd⟩:=hd;unfold undec1 at hd;split at hd
    ·omega
    ·cases hd
   clear hd;go_wp2_with fail
   go_round
   case rel=>exact⟨k+1,10*m+(s[k].toNat - 48),by omega,by go_num,Qjh (by omega),by rw[HT.out];exact Qfq HU.out (Qgs (by omega) (by omega))⟩
   case measure=>simp[intOf];omega
  ·go_wp2_with fail;go_ret2;refine⟨?_,rfl⟩;have hu:=HU.out;rw[List.take_of_length_le (by rw[Qh];omega),HN.out]at hu;cases hu;rfl
theorem Qaa (s:ByteArray)(hs:s.size≤maxLen)(w:World) :
 Calls Tryz.prog 268 #[.string s,.int .i64 6] w fun e w'=>e=.returned (Yi (numOf s.data.toList 6))∧w'=w:=Qd6 s hs 6 (by decide) w
theorem Qmf (s:ByteArray)(hs:s.size≤maxLen)(w:World) :
 Calls Tryz.prog 268 #[.string s,.int .i64 9] w fun e w'=>e=.returned (Yi (numOf s.data.toList 9))∧w'=w:=Qd6 s hs 9 (by decide) w
def Ut (v:Value):Option (Nat×Nat)→Value
 | some x=>.tuple #[idV x.1 x.2,.nilIface]
 | none=>.tuple #[idV 0 0,v]
theorem Qcm (v:Value):Ut v none=.tuple #[idV 0 0,v]:=rfl
theorem Qj8 (s:ByteArray)(h:s.size≤8):idRead s.data.toList=none:=by
 unfold idRead;rw[if_pos (Or.inl (by rw[Qh];exact h))]
theorem Qlo (s:ByteArray)(h:8<s.size)(h8:s[8].toNat≠45):idRead s.data.toList=none:=by
 unfold idRead;rw[if_pos (Or.inr ?_)];rw[List.getElem?_eq_getElem (by rw[Qh];exact h)];intro e;have e2:s[8]=45:=Option.some.inj e;rw[e2]at h8;exact h8 rfl
theorem Qjs (s:ByteArray)(h:8<s.size)(h8:s[8].toNat=45) :
 idRead s.data.toList=(match unhex 0 (s.extract 0 8).data.toList,numOf (s.extract 9 s.size).data.toList 6 with|some n,some l=>some (n,l)|_,_=>none):=by
 unfold idRead;rw[if_neg,Lib.extract_data,Lib.extract_data]
 ·have h9:(s.data.toList.drop 9).take (s.size - 9)=s.data.toList.drop 9:=List.take_of_length_le (by rw[List.length_drop,Qh];exact wz);rw[h9,List.drop_zero,Nat.sub_zero];cases unhex 0 (List.take 8 s.data.toList)<;>cases numOf (List.drop 9 s.data.toList) 6<;>rfl
 ·rintro(e|e)
  ·rw[Qh]at e;omega
  ·apply e;rw[List.getElem?_eq_getElem (by rw[Qh];exact h)];have:s.data.toList[8]'(by rw[Qh];exact h)=s[8]:=rfl;rw[this,UInt8.toNat_inj.1 (h8.trans (by decide:(45:Nat)=(45:UInt8).toNat))]
theorem Qj2 {v:Value}{w:World}(hv:w.cell? ⟨4,0,none⟩=some v):∀o,(w.alloc o).cell? ⟨4,0,none⟩=some v:=fun o=>by
 have hlt:4<w.heap.size:=by
  rcases Nat.lt_or_ge 4 w.heap.size with h'|h'
  ·exact h'
  ·simp[World.cell?,Array.getElem?_eq_none h']at hv
 rw[World.cell?_alloc_lt _ _ ⟨4,0,none⟩ hlt];exact hv
theorem Ql1 (s:ByteArray)(hs:s.size≤maxLen)(v:Value)(w:World)(hv:w.cell? ⟨4,0,none⟩=some v) :
 Calls Tryz.prog 329 #[.string s] w fun e w'=>e=.returned (Ut v (idRead s.data.toList))∧Below w.heap.size w w':=by
 unfold maxLen at hs;have hv':=Qj2 hv;by_cases h:s.size≤8
 ·rw[Qj8 s h,Qcm];have h':(s.size:Int)≤8:=by omega
  go_enter Tryz.func329,Tryz.ntmps329
  go_wp2
  go_region
  all_goals go_wp2
  all_goals exact bodyPost_ret (v:=.tuple #[idV 0 0,v]) (by simp[results,Tryz.results329,go_sem]) rfl ⟨rfl,((Below.refl _ _).alloc wz _).drew⟩
 have h9:8<s.size:=by omega
 have h9':¬(s.size:Int)≤8:=by omega
 by_cases h8:s[8].toNat=45
 ·rw[Qjs s h9 h8];have hd:((s[8].toNat:Int) != 45)=false:=by simp;omega
  have hx8:(s.extract 0 8).size=8:=by simp[ByteArray.size_extract];omega
  have HX9:Hid ((s.extract 9 s.size).size≤maxLen):=by show _≤_;unfold maxLen;simp[ByteArray.size_extract];omega
  clear h8;clear h;generalize hun:unhex 0 (s.extract 0 8).data.toList=oh;generalize hnu:numOf (s.extract 9 s.size).data.toList 6=ol;have HUN:Hid (unhex8 (s.extract 0 8).data.toList=oh):=by show _=_;rw[Qin _ hx8];exact hun
  have HNU:Hid (numOf (s.extract 9 s.size).data.toList 6=ol):=hnu;clear hun hnu hx8;cases oh with
  | none=>
   show Calls _ _ _ _ fun e w'=>e=.returned (.tuple #[idV 0 0,v])∧_;go_enter Tryz.func329,Tryz.ntmps329;go_wp2_with fail;refine(Km (s.extract 0 8) _).mono ?_;rintro e w1 ⟨rfl,rfl⟩;rw[HUN.out];unfold U1;go_wp2_with fail;refine(Qaa (s.extract 9 s.size) HX9.out _).mono ?_;rintro e w1 ⟨rfl,rfl⟩;rw[HNU.out];cases ol with
   | none=>
    unfold Yi;go_wp2_with fail;go_region
    all_goals go_wp2
    all_goals exact bodyPost_ret (v:=.tuple #[idV 0 0,v]) (by simp[results,Tryz.results329,go_sem]) rfl ⟨rfl,((Below.refl _ _).alloc wz _).drew⟩
   | some l=>
    unfold Yi;go_wp2_with fail;go_region
    all_goals go_wp2
    all_goals exact bodyPost_ret (v:=.tuple #[idV 0 0,v]) (by simp[results,Tryz.results329,go_sem]) rfl ⟨rfl,((Below.refl _ _).alloc wz _).drew⟩
  | some n=>
   cases ol with
   | none=>
    show Calls _ _ _ _ fun e w'=>e=.returned (.tuple #[idV 0 0,v])∧_;go_enter Tryz.func329,Tryz.ntmps329;go_wp2_with fail;refine(Km (s.extract 0 8) _).mono ?_;rintro e w1 ⟨rfl,rfl⟩;rw[HUN.out];unfold U1;go_wp2_with fail;refine(Qaa (s.extract 9 s.size) HX9.out _).mono ?_;rintro e w1 ⟨rfl,rfl⟩;rw[HNU.out];unfold Yi;go_wp2_with fail;go_region
    all_goals go_wp2
    all_goals exact bodyPost_ret (v:=.tuple #[idV 0 0,v]) (by simp[results,Tryz.results329,go_sem]) rfl ⟨rfl,((Below.refl _ _).alloc wz _).drew⟩
   | some l=>
    show Calls _ _ _ _ fun e w'=>e=.returned (.tuple #[idV n l,.nilIface])∧_;go_enter Tryz.func329,Tryz.ntmps329;go_wp2_with fail;refine(Km (s.extract 0 8) _).mono ?_;rintro e w1 ⟨rfl,rfl⟩;rw[HUN.out];unfold U1;go_wp2_with fail;refine(Qaa (s.extract 9 s.size) HX9.out _).mono ?_;rintro e w1 ⟨rfl,rfl⟩;rw[HNU.out];unfold Yi;go_wp2_with fail;exact bodyPost_ret (v:=.tuple #[idV n l,.nilIface]) (by simp[results,Tryz.results329,go_sem]) rfl ⟨rfl,(Below.refl _ _).alloc wz _⟩
 ·rw[Qlo s h9 h8,Qcm];have hd:((s[8].toNat:Int) != 45)=true:=by simp;omega
  clear h8 h;go_enter Tryz.func329,Tryz.ntmps329
  go_wp2
  go_region
  all_goals go_wp2
  all_goals exact bodyPost_ret (v:=.tuple #[idV 0 0,v]) (by simp[results,Tryz.results329,go_sem]) rfl ⟨rfl,((Below.refl _ _).alloc wz _).drew⟩
def Qw4 (t:List UInt8):Option (Nat×Nat):=
 match cutBy 45 t with
 | [p,q]=>if p.length=8 then (match unhex 0 p,numOf q 6 with|some n,some l=>some (n,l)|_,_=>none) else none
 | _=>none
def Qw6:Option (Nat×Nat)→Value
 | some x=>.tuple #[idV x.1 x.2,.int .i64 0]
 | none=>.tuple #[idV 0 0,.int .i64 1]
end Go.Proofs.YtjngnnbondejaabGreatDoor
