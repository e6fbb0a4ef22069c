/- A part. -/
import Derived.Test.YtjngnnbondejaabGreatDoorM17
set_option maxHeartbeats 8000000
set_option maxRecDepth 100000
namespace Go.Proofs.YtjngnnbondejaabGreatDoor
open Go.RowKit Go.Maps Go.Sort Go.Shelf
theorem Qbw (v:Value)(fs:List Rcp)(w:World)(hn:fs.length≤1000)(hv:Jo w v fs) :
 Calls Tryz.prog 118 #[v] w fun e w'=>∃v',e=.returned v'∧w'.ownsRow w.heap.size 9 1 v' fs.length (fs.map fun r=>encStr r.1)∧Below w.heap.size w w':=by
 obtain⟨i0,hi,hz0,hz1,hz2⟩:=info_parts Qor;obtain⟨pa,ca,rfl,hcell⟩:=hv;have HC:Hid (∀W',Below w.heap.size w W'→∀i (h:i<fs.length),∃b o vi,pa=some ⟨b,o,none⟩∧qi W' b (o+i*4) vi fs[i]):=fun W' hb i hi=>by obtain⟨b,o,vi,hp,hr⟩:=hcell i hi;exact⟨b,o,vi,hp,hr.below hb⟩
 clear hcell;go_enter Tryz.func118,Tryz.ntmps118;go_wp2_with fail
 go_loopw [3,8] (fun v iv wr=>∃k,k≤fs.length∧iv=.int .i64 k∧Hid (wr.ownsRow w.heap.size 9 1 v k ((fs.map fun r=>encStr r.1).take k))∧Hid (Below w.heap.size w wr)) (fun _ iv _=>fs.length - (intOf iv).toNat)
 case atStart=>exact⟨0,Nat.zero_le _,rfl,World.ownsRow_nil _ _ _ _,Below.refl _ _⟩
 case round=>
  obtain⟨k,hk,rfl,HROW,HB⟩:=hrel;by_cases hlt:k<fs.length
  ·have hlt':(k:Int)<(fs.length:Int):=(by omega);have hk0:(0:Int)≤(k:Int):=(by omega);obtain⟨b,o,vi,hp,hr⟩:=HC.out _ HB.out k hlt;have HPA:=Qa hp;have hkm:k<(fs.map fun r=>encStr r.1).length:=(by rw[List.length_map];exact hlt);have HTK:Hid ((fs.map fun r=>encStr r.1).take (k+1)=(fs.map fun r=>encStr r.1).take k++[encStr (fs[k]'hlt).1]):=(by show _=_;rw[List.take_succ_eq_append_getElem hkm,List.getElem_map]);obtain⟨X,hX⟩:∃X:ByteArray,(⟨(fs[k]'hlt).1.toArray⟩:ByteArray)=X:=⟨_,rfl⟩;obtain⟨L,hL⟩:∃L,(fs[k]'hlt).2.1=L:=⟨_,rfl⟩;obtain⟨P,hP⟩:∃P,(fs[k]'hlt).2.2.1=P:=⟨_,rfl⟩;have c0:=hr.c0;have c1:=hr.c1;have c2:=hr.c2;have c3:=hr.c3;obtain⟨pv,cv,hvi,_⟩:=hr.ids;subst hvi;obtain⟨n4,hn4⟩:∃n4,(fs[k]'hlt).2.2.2.length=n4:=⟨_,rfl⟩;rw[hn4]at c3;rw[hX]at c0;rw[hL]at c1;rw[hP]at c2;have HTK2:Hid ((fs.map fun r=>encStr r.1).take (k+1)=(fs.map fun r=>encStr r.1).take k++[.string X]):=(by show _=_;rw[HTK.out,←hX]);have HOWN:Hid (((wr.alloc (.cells #[.string X,.int .i64 L,.int .u32 P,.slice pv n4 cv] 40)).alloc (.cells #[.string X] 9)).ownsRow w.heap.size 9 1 u3 k ((fs.map fun r=>encStr r.1).take k)):=Qa ((HROW.out.alloc _).alloc _);have HB2:Hid (Below w.heap.size w ((wr.alloc (.cells #[.string X,.int .i64 L,.int .u32 P,.slice pv n4 cv] 40)).alloc (.cells #[.string X] 9))):=Qa ((HB.out.alloc HB.out.size _).alloc (by have:=HB.out.size;simp;omega) _);subst hp;clear hkm hr hX hL hP hn4;go_wp2_with (at_builtin;refine wpList_append_own_at _ rfl (.tmp 12) (.tmp 15) 73 rfl w.heap.size 9 i0 (.string ⟨#[]⟩) 1 16 Tryz.underlying73 hi hz0 hz1 hz2 rfl (by decide) _ _ _ rfl HOWN.out ⟨wr.heap.size+1,0,none⟩ 1 1 [.string X] rfl rfl ?c1 ?c2 ?c3 ?c4 ?c5 ?_)
   case c2=>first|rfl|(intro u hu;simp at hu;subst hu;rfl)
   case c3=>unfold maxLen;omega
   case c4=>omega
   case c5=>have:=HB.out.size;simp;omega
   intro v' w1 hown' hgrow _ _;have HB3:Hid (Below w.heap.size w w1):=HB2.out.grown hgrow (by have:=HB.out.size;simp;omega) (fun j e=>Qwh HOWN.out e);rw[←HTK2.out]at hown';have HROW3:=Qa hown';clear hgrow hown' c0 c1 c2 c3;go_wp2_with fail;go_roundw
   case rel=>exact⟨k+1,hlt,by go_num,HROW3.out,HB3.out⟩
   case measure=>simp[intOf];omega
  ·have hge:(fs.length:Int)≤(k:Int):=(by omega);have hke:k=fs.length:=(by omega);have HKE:=Qa hke;clear hke;go_wp2_with fail;go_ret;refine⟨_,rfl,?_,HB.out⟩;have:=HROW.out;rw[HKE.out,List.take_of_length_le (by rw[List.length_map];exact wz)]at this;exact this
open Go.RowKit
theorem Qiw (a:Nat→Addr)(v:Value)(c p:Int)(w:World)(hE:J6 w a)(h:Qbn w a v (c,p)) :
 Calls Tryz.prog 114 #[v] w fun e w'=>∃ev,e=.returned ev∧qb a ev c∧Below w.heap.size w w':=by
 have hET:=hE.et;have let':=lt_of_cell hET;have hal:=(Below.refl _ w).alloc wz (.cells #[.pointer none] 223);rcases h with⟨rfl,hc⟩|⟨k,hk,rfl,hc⟩|⟨k,pb,po,at0,hk,rfl,h0,h1,hc⟩
 ·obtain rfl:c=0:=congrArg Prod.fst hc;go_enter Tryz.func114,Tryz.ntmps114;go_wp2_with fail;refine(Qr6 _ _).mono ?_;rintro e w1 ⟨rfl,hw1⟩;subst hw1;go_wp2_with fail;go_ret;exact⟨_,rfl,.inl ⟨rfl,rfl⟩,hal⟩
 ·have hc':c=(k:Int)+1:=congrArg Prod.fst hc;go_enter Tryz.func114,Tryz.ntmps114;go_wp2_with fail;refine(Qil _ _ _ ?_).mono ?_
  ·rw[World.cell?_alloc_lt _ _ ⟨12,0,none⟩ let'];exact hET
  rintro e w1 ⟨rfl,hb1⟩;have hb:Below w.heap.size w w1:=hal.trans (hb1.mono (by simp));clear hb1 hET let' hal;go_wp2_with fail;go_ret;exact⟨_,rfl,.inr ⟨k,hk,hc',rfl⟩,hb⟩
 ·have hc':c=(k:Int)+1:=congrArg Prod.fst hc;go_enter Tryz.func114,Tryz.ntmps114;go_wp2_with fail;refine(Qk8 _ _ (.pointer none) _ ?_ (by simp) (by simp)).mono ?_
  ·rw[World.cell?_alloc_lt _ _ ⟨12,0,none⟩ let'];exact hET
  rintro e w1 ⟨rfl,hb1,hf1⟩;have hb:Below w.heap.size w w1:=hal.trans (hb1.mono (by simp));have h01:w1.cell? ⟨pb,po+1,none⟩=some (sentV a k):=by rw[hb.cell (p:=⟨pb,po+1,none⟩) (lt_of_cell h1)];exact h1
  clear hb1 hET let' hal h0 h1;go_wp2_with fail;go_ret;exact⟨_,rfl,.inr ⟨k,hk,hc',rfl⟩,hb⟩
open Go.RowKit Go.Maps
theorem Qoi (a:Nat→Addr)(p:Addr)(s:ByteArray)(m:Int)(w:World)(hs:s.size≤50000)(hE:J6 w a)(hm:w.cell? ⟨14,0,none⟩=some (.int .i64 m))(hr:Ye s.data.toList≠0) :
 Calls Tryz.prog 39 #[.pointer (some p),.string s] w fun e w'=>e=.returned (.tuple #[.slice none 0 0,sentV a (Ye s.data.toList - 1)])∧Below w.heap.size w w':=by have HRD:=Qa (Qcl a s m w hs hE hm);have HR:=Qa hr;clear hE hm hs hr;go_enter Tryz.func39,Tryz.ntmps39;go_wp2_with fail;refine HRD.out.mono ?_;rintro e w2 ⟨vf,vp,ev,rfl,hb2,hev⟩;rw[if_neg HR.out]at hev;obtain⟨rfl,rfl,rfl⟩:=hev;have HB3:=Qa (hb2.alloc hb2.size (.cells #[.slice none 0 0,.slice none 0 0] 176));clear hb2;go_wp2_with fail;go_ret2;exact⟨rfl,HB3.out⟩
def U7 (fl:List Rcp):Nat×Int:=match fl with|[]=>(0,0)|r::_=>Qv r
def inC (K:Int×Int)(fs:List Rcp)(bs:List Qr)(fl:List Rcp)(l:List Hd):Int:=if (K6 K fl).1≠0 then (K6 K fl).1 else (takeC fs bs (U7 fl) fl l).1
def Qca (a:Nat→Addr)(K:Int×Int)(w:World)(N mf mb:Nat)(vi:List UInt8→Value)(Fi:Nat×Int→Nat→Prop)(fs:List Rcp)(bs:List Qr)(fl:List Rcp)(l:List Hd)(e:Ending)(w':World):Prop:=
 ∃v ev,e=.returned (.tuple #[v,ev])∧qb a ev (inC K fs bs fl l)∧(inC K fs bs fl l≠0→v=.slice none 0 0∧Below w.heap.size w w') ∧
  (inC K fs bs fl l=0→w'.ownsRow w.heap.size 9 1 v fl.length (fl.map fun r=>encStr r.1)∧Off (fun k=>k=mf∨k=mb) w w'∧∃vi' pi' Fi',Js w' N mf mb vi' pi' Fi' (fl.reverse++fs) ((U7 fl,l)::bs.filter (fun b => !decide (b.1=U7 fl)))∧∀k,Xg N mf mb vi' Fi' (fl.reverse++fs) ((U7 fl,l)::bs.filter (fun b => !decide (b.1=U7 fl))) k→Xg N mf mb vi Fi fs bs k∨w.heap.size≤k)
theorem Qn6 (K:Int×Int)(a:Nat→Addr)(s:ByteArray)(m:Int)(fl:List Rcp)(l:List Hd)(N mf mb:Nat)(vi:List UInt8→Value)(pi:Nat×Int→Addr)(Fi:Nat×Int→Nat→Prop)(fs:List Rcp)(bs:List Qr)(w:World)(hs:s.size≤50000)(hE:J6 w a)(hm:w.cell? ⟨14,0,none⟩=some (.int .i64 m))(hr:Ye s.data.toList=0)(hfl:(Gy (s.data.toList.take (s.size - 8))).1=fl)(hl:(readsOf (Gy (s.data.toList.take (s.size - 8))).2.1).1=l)
 (hsc:Qcx a w fl l K)(hfm:fl.length≤1000)(hnm:∀r∈fl,r.1.length≤50000)(hids:∀r∈fl,r.2.2.2.length≤1000)(hwf:∀r∈fl,Zv (Qv r))(hap:fl.Pairwise (fun f g=>f.1≠g.1))(hbl:l.length≤1000)(hbw:∀h∈l,Zv h.1)(htx:∀h∈l,h.2.2.length≤1000)(hsl:fs.length≤1000)(hbsl:bs.length≤1000)(h:Js w N mf mb vi pi Fi fs bs) :
 Calls Tryz.prog 39 #[.pointer (some ⟨N,0,none⟩),.string s] w (Qca a K w N mf mb vi Fi fs bs fl l):=by
 have HRD:=Qa (Qcl a s m w hs hE hm);have HR:=Qa hr;have HFL:=Qa hfl;have HL:=Qa hl;have HH:=Qa (fun W (hb:Below w.heap.size w W)=>h.below hb);have HFT:=Qa h.lt;have HSC:Hid (∀W,Below w.heap.size w W→Qcx a W fl l K):=fun W hb vf vb x W' hb'=>hsc vf vb x W' (hb.trans (hb'.mono hb.size));have HMF:Hid (mf<w.heap.size):=h.lt mf (.inr (.inl rfl));have HE:=Qa (fun W (hb:Below w.heap.size w W)=>hE.below hb wz);have HCO:=Qa (And.intro hfm (And.intro hnm (And.intro hids (And.intro hwf (And.intro hap (And.intro hbl (And.intro hbw (And.intro htx (And.intro hsl hbsl)))))))));obtain⟨C,hC⟩:∃C,inC K fs bs fl l=C:=⟨_,rfl⟩;have HC:=Qa hC;clear hE hm hs hr hfl hl hsc hfm hnm hids hwf hap hbl hbw htx hsl hbsl h hC;go_enter Tryz.func39,Tryz.ntmps39;go_wp2_with fail;refine HRD.out.mono ?_;rintro e w2 ⟨vf,vp,ev,rfl,hb2,hev⟩;rw[if_pos HR.out,HFL.out,HL.out]at hev;obtain⟨rfl,hvf,hvp⟩:=hev;obtain⟨pf,cf,rfl⟩:=hvf.shape;obtain⟨pv,cv,rfl⟩:=Jv hvp;have hal2:=(Below.refl _ w2).alloc wz (.cells #[.slice pf fl.length cf,.slice pv l.length cv] 176);have HB3:=Qa (hb2.trans (hal2.mono hb2.size));have HLB:=Qa (Blk.new w2 #[.slice pf fl.length cf,.slice pv l.length cv] 176);have HVF:Hid (∀W,Below w2.heap.size w2 W→Yw w.heap.size W (.slice pf fl.length cf) fl):=fun W hb=>hvf.turn (Off.of_below (F:=fun _=>False) hb) (fun _ _ h=>h);have HVP:Hid (∀W,Below w2.heap.size w2 W→Q4 W (.slice pv l.length cv) l):=fun W hb=>Q4.of_row (Qi hvp hb);have HB23:=Qa hal2;have HS2:Hid (w.heap.size≤w2.heap.size):=hb2.size;have x0:=HLB.out.cell (i:=0) rfl;have x1:=HLB.out.cell (i:=1) rfl;clear hb2 hvf hvp hal2 HRD;go_wp2_with fail;generalize w2.alloc (.cells #[.slice pf fl.length cf,.slice pv l.length cv] 176)=W3 at *;generalize hLB:w2.heap.size=LB at *;refine(Qhp a (.slice pf fl.length cf) (.slice pv l.length cv) fl l K W3 (HSC.out _ HB3.out) (by have:=HCO.out.1;omega) HCO.out.2.2.1 HCO.out.2.2.2.1 (HVF.out _ HB23.out).at (HVP.out _ HB23.out) (HE.out _ HB3.out)).mono ?_;intro e w4 hpost;unfold Qia at hpost;obtain⟨xp,xl,ev4,rfl,hev4,hrep,hb4⟩:=hpost;have hal4:=(Below.refl _ w4).alloc wz (.cells #[.int .u32 (xp:Nat),.int .i64 xl] 25);have HXB:=Qa (Blk.new w4 #[.int .u32 (xp:Nat),.int .i64 xl] 25);have HB35:=Qa (hb4.trans (hal4.mono hb4.size));have HB5:=Qa (HB3.out.trans (HB35.out.mono HB3.out.size));have HLB5:=Qa (HLB.out.next HB35.out);have HEV:=Qa (hev4.below hal4);have HREP:=Qa hrep;clear hev4 hrep hb4 hal4 x0 x1;go_wp2_with fail;generalize w4.alloc (.cells #[.int .u32 (xp:Nat),.int .i64 xl] 25)=W5 at *;generalize w4.heap.size=XB at *;have HB25:Hid (Below LB w2 W5):=HB23.out.trans (HB35.out.mono (by rw[←hLB];exact HB23.out.size));have x0:=HXB.out.cell (i:=0) rfl;have x1:=HXB.out.cell (i:=1) rfl;have y0:=HLB5.out.cell (i:=0) rfl;have y1:=HLB5.out.cell (i:=1) rfl;by_cases hck:(K6 K fl).1=0
 ·obtain rfl:ev4=.nilIface:=by
   rcases HEV.out with⟨h,_⟩|⟨k,_,_,hf⟩|⟨k,pb,po,at0,_,_,_,_,_,hf⟩
   ·exact h
   ·rw[hf]at hck;simp only at hck;omega
   ·rw[hf]at hck;simp only at hck;omega
  obtain⟨r0,q0,hrq⟩:∃r q,fl=r::q:=by
   cases hfl:fl with
   | nil=>rw[hfl]at hck;exact absurd hck (show ¬((3:Int)=0) by decide)
   | cons r q=>exact⟨r,q,rfl⟩
  have HXR:Hid (U7 fl=(xp,xl)):=by show _=_;rw[HREP.out hck r0 q0 hrq,hrq];rfl
  have HXW:Hid (Zv (xp,xl)):=by show Zv _;rw[HREP.out hck r0 q0 hrq];exact HCO.out.2.2.2.1 r0 (by rw[hrq];exact List.mem_cons_self ..)
  have HCT:Hid (C=(takeC fs bs (xp,xl) fl l).1):=by show _=_;rw[←HC.out];unfold inC;rw[if_neg (by rw[hck];simp),HXR.out]
  have HTK:=Qa (Qji a w.heap.size (.slice pf fl.length cf) (.slice pv l.length cv) fl l (xp,xl) N mf mb vi pi Fi fs bs W5 HXW.out (by have:=HCO.out.1;omega) HCO.out.2.2.2.2.2.2.2.2.1 HCO.out.2.2.2.2.2.2.2.2.2 HCO.out.2.2.2.2.1 HCO.out.2.1 (fun r hr=>by have:=HCO.out.2.2.1 r hr;omega) (by have:=HCO.out.2.2.2.2.2.1;omega) (fun h hh=>by have:=HCO.out.2.2.2.2.2.2.2.1 h hh;omega) HCO.out.2.2.2.2.2.2.1 (HE.out _ HB5.out) (HVF.out _ HB25.out) (HVP.out _ HB25.out) HMF.out (HH.out _ HB5.out));have HRV5:=Qa (HVF.out _ HB25.out);have HCK:=Qa hck;have HMB:Hid (mb<w.heap.size):=HFT.out mb (.inr (.inr (.inl rfl)));have HS5:Hid (w.heap.size≤W5.heap.size):=HB5.out.size;clear hck HEV hrq;go_wp2_with fail;refine HTK.out.mono ?_;intro e w6 hpost;unfold Uh at hpost;obtain⟨ev6,rfl,hev6,hbad,hok⟩:=hpost;clear x0 x1 y0 y1 HTK;by_cases ht:(takeC fs bs (xp,xl) fl l).1=0
  ·obtain rfl:ev6=.nilIface:=by
    rcases hev6 with⟨h,_⟩|⟨k,_,_,hf⟩|⟨k,pb,po,at0,_,_,_,_,_,hf⟩
    ·exact h
    ·rw[hf]at ht;simp only at ht;omega
    ·rw[hf]at ht;simp only at ht;omega
   obtain⟨ho6,vi',pi',Fi',hn6,hf6⟩:=hok ht;have HO6:=Qa ho6;have HN6:=Qa hn6;have HF6:=Qa hf6;have HLB6:Hid (Blk w6 LB #[.slice pf fl.length cf,.slice pv l.length cv] 176):=ho6.blk HLB5.out (by have h1:=HS2.out;have h2:=HMF.out;have h3:=HMB.out;rintro(e|e)<;>omega);have HV6:=Qa (HRV5.out.turn ho6 (fun k hk e=>by have h2:=HMF.out;have h3:=HMB.out;rcases e with e|e<;>omega));have y0:=HLB6.out.cell (i:=0) rfl;have HC0:Hid (C=0):=HCT.out.trans ht;clear hev6 hbad hok ho6 hn6 hf6 ht;go_wp2_with fail;refine(Qbw (.slice pf fl.length cf) fl w6 (by have:=HCO.out.1;omega) HV6.out.at).mono ?_;rintro e w7 ⟨v,rfl,hrow,hb7⟩;have HROW:=Qa hrow;have HB7:=Qa hb7;obtain⟨p7,c7,rfl⟩:=Jv hrow;clear hrow hb7 y0;go_wp2_with fail;go_ret2;unfold Qca;rw[HC.out,HC0.out];refine⟨_,_,rfl,.inl ⟨rfl,rfl⟩,fun h=>absurd rfl h,fun _=>⟨Ui HROW.out (Nat.le_trans HS5.out HO6.out.size),((Off.of_below HB5.out).trans HO6.out (fun _ _ h=>h)).trans (Off.of_below HB7.out) (fun _ _ h=>h),?_⟩⟩;rw[HXR.out];exact⟨vi',pi',Fi',HN6.out.below HB7.out,fun k hk=>by
    rcases HF6.out k hk with h|h
    ·exact .inl h
    ·exact .inr (Nat.le_trans HS5.out h)⟩
  ·have HB6:=Qa (HB5.out.trans ((hbad ht).mono HB5.out.size));have HNZ:Hid (C≠0):=fun e=>ht (HCT.out.symm.trans e);obtain⟨⟨c6,p6⟩,hcp⟩:∃x,takeC fs bs (xp,xl) fl l=x:=⟨_,rfl⟩;rw[hcp]at hev6 ht;have HCT6:Hid (C=c6):=(by show _=_;rw[HCT.out,hcp]);have HEI:=Qa hev6.at;obtain⟨T,A,hTA⟩:∃T A,ev6=.iface T A:=by
    rcases hev6 with⟨_,h⟩|⟨k,_,hc,_⟩|⟨k,pb,po,at0,_,_,hc,_⟩
    ·exact absurd (Prod.mk.inj h).1 ht
    ·exact⟨_,_,hc⟩
    ·exact⟨_,_,hc⟩
   subst hTA;clear hev6 hbad hok ht hcp;go_wp2_with fail;refine(Qiw a (.iface T A) c6 p6 w6 (HE.out _ HB6.out) HEI.out).mono ?_;rintro e w7 ⟨ev7,rfl,hev7,hb7⟩;have HB7:=Qa (HB6.out.trans (hb7.mono HB6.out.size));have HEV7:=Qa hev7;clear hev7 hb7;go_wp2_with fail;go_ret2;unfold Qca;rw[HC.out];exact⟨_,_,rfl,by rw[HCT6.out];exact HEV7.out,fun _=>⟨rfl,HB7.out⟩,fun h=>absurd h HNZ.out⟩
 ·obtain⟨⟨c6,p6⟩,hcp⟩:∃x,K6 K fl=x:=⟨_,rfl⟩;have HCT6:Hid (C=c6):=by show _=_;rw[←HC.out];unfold inC;rw[if_pos hck,hcp]
  rw[hcp]at hck;have HNZ:Hid (C≠0):=fun e=>hck (HCT6.out.symm.trans e);have hev6:=HEV.out;rw[hcp]at hev6;have HEI:=Qa hev6.at;obtain⟨T,A,hTA⟩:∃T A,ev4=.iface T A:=by
   rcases hev6 with⟨_,h⟩|⟨k,_,hc,_⟩|⟨k,pb,po,at0,_,_,hc,_⟩
   ·exact absurd (Prod.mk.inj h).1 hck
   ·exact⟨_,_,hc⟩
   ·exact⟨_,_,hc⟩
  subst hTA;clear hev6 hck hcp;go_wp2_with fail;go_simp;go_wp2_with fail;refine(Qiw a (.iface T A) c6 p6 W5 (HE.out _ HB5.out) HEI.out).mono ?_;rintro e w7 ⟨ev7,rfl,hev7,hb7⟩;have HB7:=Qa (HB5.out.trans (hb7.mono HB5.out.size));have HEV7:=Qa hev7;clear hev7 hb7;go_wp2_with fail;go_ret2;unfold Qca;rw[HC.out];exact⟨_,_,rfl,by rw[HCT6.out];exact HEV7.out,fun _=>⟨rfl,HB7.out⟩,fun h=>absurd h HNZ.out⟩
theorem U0 (x:Nat×Int):∀(fs:List Qz),Yk (fs.filter fun f=>decide (Qg f.2=x)) x=Yk fs x
 | []=>rfl
 | f::r=>by
  by_cases h:Qg f.2=x
  ·rw[List.filter_cons_of_pos (by simpa using h),Kk,Kk,U0 x r]
  ·rw[List.filter_cons_of_neg (by simpa using h),Kk,if_neg h,U0 x r];rfl
structure Qbh (U:Int)(x:Nat×Int)(fl:List Qz)(l:List Hd):Prop where
 inv:Xh ⟨fl,[(x,l)]⟩
 full:Xj ⟨fl,[(x,l)]⟩
 ok:NOk U 1 ⟨fl,[(x,l)]⟩
 ne:fl≠[]
 rep:∀f∈fl,Qg f.2=x
theorem Qr8 {U:Int}{n:Nat}{st:NSt}(hI:Xh st)(hN:Xj st)(hK:NOk U n st){x:Nat×Int}{l:List Hd}{fl:List Qz}(hb:(x,l)∈st.bins)(hp:fl.Perm (st.files.filter fun f=>decide (Qg f.2=x))):Qbh U x fl l:=by
 have hm:∀f∈fl,f∈st.files∧Qg f.2=x:=fun f hf=>by have:=List.mem_filter.1 (hp.mem_iff.1 hf);exact⟨this.1,by simpa using this.2⟩
 have hne:fl≠[]:=by obtain⟨f,hf,e⟩:=hN.bhas _ hb;intro h;rw[h]at hp;have:=hp.symm.mem_iff.1 (List.mem_filter.2 ⟨hf,by simpa using e⟩);simp at this
 have hlog:J5 l (Yk fl x):=by refine(hI.log _ hb).perm ?_;show(Yk st.files x).Perm (Yk fl x);rw[←U0];exact Ur hp.symm x
 refine⟨⟨?_,List.pairwise_singleton _ _,fun f hf=>⟨l,by rw[(hm f hf).2];simp⟩,fun b hb' => ?_⟩,⟨fun b hb' => ?_,?_⟩,⟨fun b hb' => ?_,by simp,fun f hf=>hK.files f (hm f hf).1⟩,hne,fun f hf=>(hm f hf).2⟩
 ·exact(hp.pairwise_iff (fun {_ _} h e=>h e.symm)).2 (hI.fap.filter _)
 ·rw[List.mem_singleton.1 hb'];exact hlog
 ·obtain⟨f,hf⟩:=List.exists_mem_of_ne_nil fl hne;rw[List.mem_singleton.1 hb'];exact⟨f,hf,(hm f hf).2⟩
 ·show fl.length≤30;rw[hp.length_eq];exact Nat.le_trans (List.length_filter_le _ _) hN.fmany
 ·rw[List.mem_singleton.1 hb'];exact hK.bins _ hb
theorem Qlu {l:List Hd}(hi:∀h∈l,h.1=Qc h.2.2)(hr:Y7 l){k:Nat}(hk:k<l.length):Z6 l k=0:=by
 unfold Z6;rw[List.getElem?_eq_getElem hk];simp only;rw[if_neg (by rw[hi _ (List.getElem_mem hk)];simp)];by_cases h0:k=0
 ·rw[if_pos h0]
 ·rw[if_neg h0,List.getElem?_eq_getElem (show k - 1<l.length by omega)];simp only;unfold Y7 at hr;rw[List.pairwise_iff_getElem]at hr;rw[if_pos (hr (k - 1) k (by omega) hk (by omega))]
theorem Qtc {U:Int}{l:List Hd}(hok:Qd U l):Y2 l=(0,-1):=by
 unfold Y2;rw[if_neg (by have:=hok.many;omega)];refine Gz l l.length 0 (fun j _ hj => ?_);have hj':j<l.length:=by omega
 have h1:=hok.each _ (List.getElem_mem hj');have h2:J7 l j=0:=by unfold J7;rw[List.getElem?_eq_getElem hj'];simp only;rw[if_neg (by omega)];exact Qlu (fun h hh=>(hok.each h hh).1) hok.rise hj'
 omega
theorem Qiq {U:Int}{x:Nat×Int}{fl:List Qz}{l:List Hd}(h:Qbh U x fl l)(K:Int×Int):K6 K (fl.map rcpOf)=K:=by
 have hr:∀r∈fl.map rcpOf,Qv r=x:=fun r hr=>by obtain⟨f,hf,rfl⟩:=List.mem_map.1 hr;exact h.rep f hf
 obtain⟨f,q,hfq⟩:=List.exists_cons_of_ne_nil h.ne;rw[hfq]at hr ⊢;rw[List.map_cons]at hr ⊢;unfold K6;simp only;rw[if_neg (by intro ha;obtain⟨y,hy,hy2⟩:=List.any_eq_true.1 ha;rw[hr y hy,hr _ (List.mem_cons_self ..)]at hy2;simp at hy2)]
theorem Qpo {U:Int}{x:Nat×Int}{fl:List Qz}{l:List Hd}(a:Nat→Addr)(w:World)(hE:J6 w a)(h:Qbh U x fl l)(ho:fl.Pairwise (fun f g=>f.1<g.1)):Qcx a w (fl.map rcpOf) l (0,-1):=by
 intro vf vb y W hb _ hf hl hy;obtain rfl:y=x:=by
  obtain⟨f,q,hfq⟩:=List.exists_cons_of_ne_nil h.ne;have hm:f∈fl:=by rw[hfq];exact List.mem_cons_self ..
  rw[←hy (rcpOf f) (List.mem_map.2 ⟨f,hm,rfl⟩)];exact h.rep f hm
 obtain⟨hR,hu⟩:=Qlg h.inv h.full h.ok (by decide) (List.Perm.refl _) (List.Perm.refl _) ho (List.pairwise_singleton _ _);refine(qw a vf vb (fl.map rcpOf) [(y,l)] W hR hf hl ((hE.below hb wz).on (by decide))).mono ?_;have h0:Zx (Y6 (fl.map rcpOf) [(y,l)]) 1=(0,-1):=by
  have h1:Y6 (fl.map rcpOf) [(y,l)] 0=0:=by unfold Y6;rw[dif_pos (by simp)];exact hu _ (List.mem_singleton.2 rfl)
  unfold Zx Zc;rw[if_neg (by rw[h1];simp)];rfl
 rw[show[(y,l)].length=1 from rfl,h0];exact fun e w' h=>h
theorem Qt1 {U:Int}{x:Nat×Int}{fl:List Qz}{l:List Hd}(h:Qbh U x fl l):takeC [] [] x (fl.map rcpOf) l=(0,-1):=by
 unfold takeC hasB;have hn:=h.full.fmany;simp only at hn;rw[if_neg (by simp),if_neg (by simp;omega)];exact Qtc (h.ok.bins _ (List.mem_singleton.2 rfl))
theorem Qq1 {x:Nat×Int}{fs:List Rcp}{bs:List Qr}{fl:List Rcp}{l:List Hd}(h:∃b∈bs,b.1=x):takeC fs bs x fl l=(6,-1):=by
 obtain⟨b,hb,e⟩:=h;unfold takeC hasB;rw[List.any_eq_true.2 ⟨b,hb,by simpa using e⟩];rfl
open Go.RowKit Go.Shelf
def Qtr:Go.Shelf.Ren:=⟨fun|166=>191|169=>194|240=>263|276=>305|n=>n,fun|70=>260|72=>262|37=>82|75=>42|164=>248|20=>20|80=>265|n=>n,fun|n=>n⟩
theorem Qvc:Go.Proofs.Lays.n166 Tryz.prog Qtr:=by
 constructor
 all_goals first|kernel_rfl|(intro w;kernel_rfl)
theorem Qtj:Builder.Extra Tryz.prog Qtr:=by
 constructor
 ·constructor
  all_goals first|kernel_rfl|decide|(intro w;kernel_rfl)
 all_goals first|kernel_rfl|decide|(intro w;kernel_rfl)
theorem Qbt (B b:Nat)(bs:List Value)(s:ByteArray)(w:World)(h:Lib.IsBuilderF 262 5 B b bs w)(hlen:bs.length+s.size≤140737488355328)(hBw:B≤w.heap.size) :
 Calls Tryz.prog 191 #[.pointer (some ⟨b,0,none⟩),.string s] w fun e w'=>e=.returned (.tuple #[.int .i64 s.size,.nilIface])∧(Lib.BuilderAtF 262 5 B b (.pointer (some ⟨b,0,none⟩)) (bs++Lib.strCells s) w'∧Below B w w'∧Lib.OthersKept 5 (some b) w w'):=
 Any.Builder_WriteString_k Qvc Qtj B b bs s w h hlen hBw
theorem Qma (B b:Nat)(l:List UInt8)(w:World)(h:Lib.IsBuilderF 262 5 B b (Lib.byteCells l) w)(hBw:B≤w.heap.size) :
 Calls Tryz.prog 194 #[.pointer (some ⟨b,0,none⟩)] w fun e w'=>e=.returned (.string ⟨l.toArray⟩)∧(Lib.IsBuilderF 262 5 B b (Lib.byteCells l) w'∧Below B w w'∧Lib.OthersKept 5 (some b) w w'):=
 Any.Builder_String_any_k Tryz.lays169 Tryz.Builder_Extra_169 B b l w h hBw
theorem Jl {T e:TypeId}{B b:Nat}{bs:List Value}{w w':World}(h:Lib.IsBuilderF T e B b bs w)(hb:Below w.heap.size w w'):Lib.IsBuilderF T e B b bs w':=by
 have key:∀p,Lib.BuilderAtF T e B b p bs w→Lib.BuilderAtF T e B b p bs w':=fun p h=>by
  obtain⟨h1,v,h2,h3,h4⟩:=h;refine⟨h1,v,(hb.block b (Array.getElem?_eq_some_iff.1 h2).1).trans h2,h3.kept (Qw hb) ?_,h4⟩;cases hv:v.ownBlock with
  | none=>exact .inl rfl
  | some j=>exact .inr (by simp)
 exact h.imp (key _) (key _)
theorem Qr0 (a b:ByteArray)(h:a.size+b.size≤100000):∃c:ByteArray,(∀w:World,(Op.stringOp .add a b).run Tryz.prog w=.ok (.string c) w)∧c.data.toList=a.data.toList++b.data.toList∧c.size=a.size+b.size:=
 ⟨a++b,fun w=>run_string_add_sum w a b (by omega),by rw[ByteArray.data_append,Array.toList_append],ByteArray.size_append⟩
theorem J9 {q:Prop}(h:q):Hid q:=h
structure Qgf (l:List Hd):Prop where
 many:l.length≤250
 each:∀h∈l,h.1.1<4294967296∧(0≤h.1.2∧h.1.2≤9223372036854775807)∧(0≤h.2.1∧h.2.1≤9223372036854775807)∧h.2.2.length≤100
theorem Qd5 (u:Nat)(h:u≤9223372036854775807):(Lib.decDigits u).length≤19:=J4 u 19 (by decide) (by omega)
theorem Qd.text {l:List Hd}(h:Qd 1000 l):Qgf l:=⟨h.many,fun x hx=>by
 obtain⟨e,h1,h2,h3⟩:=h.each x hx;rw[e];exact⟨Zr _ (by decide) _,⟨by simp only[Qc];omega,by simp only[Qc];omega⟩,⟨h2,by omega⟩,by omega⟩⟩
theorem Qd.textU {U:Int}{l:List Hd}(hU:U≤1000000)(h:Qd U l):Qgf l:=⟨h.many,fun x hx=>by
 obtain⟨e,h1,h2,h3⟩:=h.each x hx;rw[e];exact⟨Zr _ (by decide) _,⟨by simp only[Qc];omega,by simp only[Qc];omega⟩,⟨h2,by omega⟩,by omega⟩⟩
theorem Qnz {h:Hd}(h1:h.2.2.length≤100)(h2:h.1.2.toNat≤9223372036854775807)(h3:h.2.1.toNat≤9223372036854775807):(Ub h).length≤160:=by
 have a:=Qd5 h.1.2.toNat h2;have b:=Qd5 h.2.1.toNat h3;simp[Ub,Qes,idText,Qm];omega
theorem V9:∀(l:List Hd),(∀h∈l,h.2.2.length≤100∧h.1.2.toNat≤9223372036854775807∧h.2.1.toNat≤9223372036854775807)→(Qu l).length≤l.length*160
 | [],_=>by simp[Qu]
 | x::r,h=>by
  obtain⟨a,b,c⟩:=h x (List.mem_cons_self ..);have h1:=Qnz a b c;have h2:=V9 r (fun y hy=>h y (List.mem_cons_of_mem _ hy));have e:Qu (x::r)=Ub x++Qu r:=by simp[Qu]
  rw[e,List.length_append,List.length_cons];omega
theorem Qqm (va:Value)(l:List Hd)(w:World)(hok:Qgf l)(hp:Y9 w)(hv:Q4 w va l) :
 Calls Tryz.prog 192 #[va] w fun e w'=>e=.returned (.string ⟨(Qu l).toArray⟩)∧Below w.heap.size w w':=by
 have HV:Hid (Q4 w va l):=hv;have HOK:Hid (Qgf l):=hok;have HP:Hid (∀W,Below w.heap.size w W→Y9 W):=fun W hb=>hp.below hb wz;have hl2:(l.length:Int)≤250:=by have:=hok.many;omega
 obtain⟨pa,ca,rfl,_⟩:=hv;have hbf:=Lib.IsBuilderF.of (Lib.fresh_isBuilder 262 5 w);clear hok hp;go_enter Tryz.func192,Tryz.ntmps192;go_wp2_with fail
 go_loopw [8] (fun i wr=>∃k:Nat,k≤l.length∧i=.int .i64 k∧Hid (Lib.IsBuilderF 262 5 w.heap.size w.heap.size (Lib.byteCells (Qu (l.take k))) wr)∧Hid (Below w.heap.size w wr)) (fun i _=>l.length - (intOf i).toNat)
 case atStart=>exact⟨0,Nat.zero_le _,rfl,hbf,(Below.refl _ w).alloc wz _⟩
 case round=>
  clear hbf;obtain⟨k,hk,rfl,HBD,HB⟩:=hrel;by_cases hlt:k<l.length
  ·have hlt':(k:Int)<(l.length:Int):=(by omega);obtain⟨_,_,hve,hcell⟩:=HV.out.below HB.out;obtain⟨rfl,rfl⟩:pa=_∧ca=_:=(by simpa using hve);obtain⟨b,o,rfl,_,c0,c1,c2,c3⟩:=hcell k hlt;obtain⟨q1,q2,q3,q4⟩:=HOK.out.each l[k] (List.getElem_mem hlt);have HSN:Hid (Qu (l.take (k+1))=Qu (l.take k)++Ub l[k]):=Qla l k hlt;obtain⟨⟨⟨xp,xl⟩,u,t⟩,hy⟩:∃y,l[k]=y:=⟨_,rfl⟩;rw[hy]at c0 c1 c2 c3 q1 q2 q3 q4 HSN;simp only at c0 c1 c2 c3 q1 q2 q3 q4;have hxp:=q1;obtain⟨xn,rfl⟩:∃xn:Nat,xl=(xn:Int):=⟨xl.toNat,by omega⟩;have hxn:xn≤9223372036854775807:=(by omega);obtain⟨un,rfl⟩:∃un:Nat,u=(un:Int):=⟨u.toNat,by omega⟩;have hun:un≤9223372036854775807:=(by omega);clear hcell hve hy q1 q3;obtain⟨X,hX⟩:∃X:ByteArray,(⟨(idText xp xn).toArray⟩:ByteArray)=X:=⟨_,rfl⟩;obtain⟨D,hD⟩:∃D:ByteArray,(⟨(Lib.decDigits un).toArray⟩:ByteArray)=D:=⟨_,rfl⟩;obtain⟨T,hT⟩:∃T:ByteArray,(⟨t.toArray⟩:ByteArray)=T:=⟨_,rfl⟩;rw[hT]at c3;have hXs:X.size≤28:=(by rw[←hX];have:=Qd5 xn hxn;show(idText xp xn).toArray.size≤28;simp[idText,Qm];omega);have hDs:D.size≤19:=(by rw[←hD];have:=Qd5 un hun;show(Lib.decDigits un).toArray.size≤19;simpa using this);have hTs:T.size≤100:=(by rw[←hT];show t.toArray.size≤100;simpa using q4);have z1:(⟨#[32]⟩:ByteArray).size=1:=rfl;have z2:(⟨#[10]⟩:ByteArray).size=1:=rfl;obtain⟨S1,hS1,hT1,hZ1⟩:=Qr0 X ⟨#[32]⟩ (by rw[z1];omega);obtain⟨S2,hS2,hT2,hZ2⟩:=Qr0 S1 D (by rw[hZ1,z1];omega);obtain⟨S3,hS3,hT3,hZ3⟩:=Qr0 S2 ⟨#[10]⟩ (by rw[hZ2,hZ1,z1,z2];omega);obtain⟨S4,hS4,hT4,hZ4⟩:=Qr0 S3 T (by rw[hZ3,hZ2,hZ1,z1,z2];omega);obtain⟨S5,hS5,hT5,hZ5⟩:=Qr0 S4 ⟨#[10]⟩ (by rw[hZ4,hZ3,hZ2,hZ1,z1,z2];omega);have HS5:Hid (S5.data.toList=Ub ((xp,(xn:Int)),(un:Int),t)):=(by show _=_;rw[hT5,hT4,hT3,hT2,hT1,←hX,←hD,←hT];simp[Ub,Qes]);have HZ5:Hid (S5.size≤200):=(by show _≤_;rw[hZ5,hZ4,hZ3,hZ2,hZ1,z1,z2];omega);have HXX:=J9 hX;have HDD:=J9 hD;have HN:Hid (xp<4294967296∧xn≤9223372036854775807∧un≤9223372036854775807):=⟨hxp,hxn,hun⟩;clear hT1 hT2 hT3 hT4 hT5 hZ1 hZ2 hZ3 hZ4 hZ5 hX hD hT hXs hDs hTs z1 z2 q2 q4 hxp hxn hun;have hal:=(Below.refl _ wr).alloc wz (.cells #[.int .u32 (xp:Nat),.int .i64 (xn:Int),.int .i64 (un:Int),.string T] 78);have hblk:=Blk.new wr #[.int .u32 (xp:Nat),.int .i64 (xn:Int),.int .i64 (un:Int),.string T] 78;have HBD2:=J9 (Jl HBD.out hal);have HB2:=J9 (HB.out.trans (hal.mono HB.out.size));go_wp2_with fail;obtain⟨W,hW⟩:∃W,(wr.alloc (.cells #[.int .u32 (xp:Nat),.int .i64 (xn:Int),.int .i64 (un:Int),.string T] 78))=W:=⟨_,rfl⟩;rw[hW]at hblk HBD2 HB2 ⊢;clear hW hal c0 c1 c2 c3;have HNE:Hid (some wr.heap.size≠some w.heap.size):=by
    intro e;have e1:wr.heap.size=w.heap.size:=(by simpa using e);have e2:w.heap.size<wr.heap.size:=by rcases HBD.out with⟨_,v,h,_⟩|⟨_,v,h,_⟩<;>exact(Array.getElem?_eq_some_iff.1 h).1
    omega
   generalize wr.heap.size=H at *;have y0:=hblk.cell (i:=0) rfl;have y1:=hblk.cell (i:=1) rfl;have y2:=hblk.cell (i:=2) rfl;have y3:=hblk.cell (i:=3) rfl;have HBL:=J9 hblk;clear hblk;have HLEN:Hid ((Lib.byteCells (Qu (l.take k))).length+S5.size≤140737488355328):=by show _≤_;have h1:=V9 (l.take k) (fun y hy=>by obtain⟨e1,e2,e3,e4⟩:=HOK.out.each y (List.mem_of_mem_take hy);exact⟨e4,by omega,by omega⟩);have h2:=HZ5.out;rw[Lib.byteCells_length];rw[List.length_take]at h1;have:l.length≤250:=(by omega);omega
   have HCE:Hid (∀W',Blk W' H #[.int .u32 (xp:Nat),.int .i64 (xn:Int),.int .i64 (un:Int),.string T] 78→W'.cell? ⟨H,0,none⟩=some (.int .u32 (xp:Nat))∧W'.cell? ⟨H,1,none⟩=some (.int .i64 (xn:Int))∧W'.cell? ⟨H,2,none⟩=some (.int .i64 (un:Int))∧W'.cell? ⟨H,3,none⟩=some (.string T)):=fun W' h=>⟨h.cell (i:=0) rfl,h.cell (i:=1) rfl,h.cell (i:=2) rfl,h.cell (i:=3) rfl⟩
   go_region_held3 (fun w'=>w'.cell? ⟨H,0,none⟩=some (.int .u32 (xp:Nat))∧w'.cell? ⟨H,1,none⟩=some (.int .i64 (xn:Int))∧w'.cell? ⟨H,2,none⟩=some (.int .i64 (un:Int))∧w'.cell? ⟨H,3,none⟩=some (.string T)) (first|exact HCE.out _ HBL3.out|exact HCE.out _ HBL2.out|exact HCE.out _ HBL1.out|go_keep) (first
    | (go_at_call 262;refine(Qk4 xp xn HN.out.1 HN.out.2.1 W.drew (HP.out _ HB2.out.drew)).mono ?_;rintro e w1 ⟨rfl,hb1⟩;rw[HXX.out];have HBL1:=J9 (Blk.next (W:=W.drew) HBL.out hb1);have HBD3:=J9 (Jl HBD2.out (Below.trans (Below.refl W.heap.size W).drew hb1));have HB3:=J9 (HB2.out.trans ((Below.trans (Below.refl W.heap.size W).drew hb1).mono HB2.out.size));clear hb1)
    | (go_at_call 193;refine(Qam un HN.out.2.2 w1 (HP.out _ HB3.out)).mono ?_;rintro e w2 ⟨rfl,hb2⟩;rw[HDD.out];have HBL2:=J9 (HBL1.out.next hb2);have HBD4:=J9 (Jl HBD3.out hb2);have HB4:=J9 (HB3.out.trans (hb2.mono HB3.out.size));clear hb2)
    | (go_at_call 191;refine(Qbt w.heap.size w.heap.size _ S5 w2 HBD4.out HLEN.out HB4.out.size).mono ?_;rintro e w3 ⟨rfl,hbd5,hb5,ho5⟩;have HBL3:=J9 (ho5 _ _ HBL2.out HNE.out (fun c fz e=>by cases e));have HBD5:=J9 hbd5;have HB5:=J9 hb5;clear hbd5 hb5 ho5))
   go_wp2_with fail;go_roundw
   case rel=>exact⟨k+1,hlt,by go_num,by show Lib.IsBuilderF _ _ _ _ _ _;rw[HSN.out,Lib.byteCells_append,←HS5.out];exact .inr HBD5.out,HB4.out.trans HB5.out⟩
   case measure=>simp[intOf];omega
  ·have hge:(l.length:Int)≤(k:Int):=(by omega);obtain rfl:k=l.length:=(by omega);rw[List.take_length]at HBD;have HST:=J9 (Qma w.heap.size w.heap.size (Qu l) wr HBD.out HB.out.size);clear HBD;go_wp2_with fail;refine HST.out.mono ?_;rintro e w3 ⟨rfl,_,hb3,_⟩;go_wp2_with fail;go_ret;exact⟨rfl,HB.out.trans hb3⟩
def K8 (r:Rcp):List UInt8:=Ud r.1 r.2.1 r.2.2.1.toNat r.2.2.2++[10]
def Zo (fs:List Rcp):List UInt8:=(fs.map K8).flatten
theorem Qmg (fs:List Rcp)(k:Nat)(h:k<fs.length):Zo (fs.take (k+1))=Zo (fs.take k)++K8 (fs[k]'h):=by
 unfold Zo;rw[List.take_succ_eq_append_getElem h,List.map_append,List.flatten_append];simp
def Ky (n m:Nat):List UInt8:=[108,111,97,100,32]++Lib.decDigits n++[32]++Lib.decDigits m++[10]
def loadBody (fs:List Rcp)(l:List Hd):List UInt8:=Ky fs.length (Qu l).length++Zo fs++Qu l
def Ql (fs:List Rcp)(l:List Hd):List UInt8:=loadBody fs l++hexLast (pmore 2166136261 (loadBody fs l)) 8
structure Gv (r:Rcp):Prop where
 good:Qb r.1 r.2.1 r.2.2.2=(0,-1)
 nm:r.1.length≤50000
 pr:0≤r.2.2.1∧r.2.2.1<4294967296
 ids:r.2.2.2.length≤50000
 nums:∀j (hj:j<r.2.2.2.length),r.2.2.2[j].1<4294967296
 line:(K8 r).length≤2000000
theorem Qcc:∀(fs:List Rcp),(∀r∈fs,Gv r)→(Zo fs).length≤fs.length*2000000
 | [],_=>by simp[Zo]
 | x::r,h=>by
  have h1:=(h x (List.mem_cons_self ..)).line;have h2:=Qcc r (fun y hy=>h y (List.mem_cons_of_mem _ hy));have e:Zo (x::r)=K8 x++Zo r:=by simp[Zo]
  rw[e,List.length_append,List.length_cons];omega
theorem Qll (a b:ByteArray)(h:a.size+b.size≤100000000000000):∃c:ByteArray,(∀w:World,(Op.stringOp .add a b).run Tryz.prog w=.ok (.string c) w)∧c.data.toList=a.data.toList++b.data.toList∧c.size=a.size+b.size:=
 ⟨a++b,fun w=>run_string_add_sum w a b (by omega),by rw[ByteArray.data_append,Array.toList_append],ByteArray.size_append⟩
theorem Qj4 (a:Nat→Addr)(vf va:Value)(fs:List Rcp)(l:List Hd)(w:World)(hn:fs.length≤1000)(hfs:∀r∈fs,Gv r)(hl:Qgf l)(hf:Jo w vf fs)(hv:Q4 w va l)(hE:J6 w a)(hp:Y9 w) :
 Calls Tryz.prog 112 #[.agg #[vf,va]] w fun e w'=>e=.returned (.tuple #[.string ⟨(Ql fs l).toArray⟩,.nilIface])∧Below w.heap.size w w':=by
 have HV:=Qa hv;have HP:Hid (∀W,Below w.heap.size w W→Y9 W):=fun W hb=>hp.below hb wz;have HE:Hid (∀W,Below w.heap.size w W→J6 W a):=fun W hb=>hE.below hb wz;have HLO:=Qa hl;have HFS:=Qa hfs;obtain⟨pa,ca,rfl,hcell⟩:=hf;obtain⟨pv,cv,rfl,_⟩:=hv;have HC:Hid (∀W',Below w.heap.size w W'→∀i (h:i<fs.length),∃b o vi,pa=some ⟨b,o,none⟩∧qi W' b (o+i*4) vi fs[i]):=fun W' hb i hi=>by obtain⟨b,o,vi,hp,hr⟩:=hcell i hi;exact⟨b,o,vi,hp,hr.below hb⟩
 have HLL:Hid ((Qu l).length≤40000):=by show _≤_;have h1:=V9 l (fun y hy=>by obtain⟨e1,e2,e3,e4⟩:=HLO.out.each y hy;exact⟨e4,by omega,by omega⟩);have h2:=HLO.out.many;omega
 have HRL:Hid ((Zo fs).length≤2000000000):=by show _≤_;have h1:=Qcc fs hfs;omega
 have hal0:=(Below.refl _ w).alloc wz (.cells #[.slice pa fs.length ca,.slice pv l.length cv] 176);have HBX0:=Qa (Blk.new w #[.slice pa fs.length ca,.slice pv l.length cv] 176);have hs1:(w.alloc (.cells #[.slice pa fs.length ca,.slice pv l.length cv] 176)).heap.size=w.heap.size+1:=by simp
 have hbf:=Lib.IsBuilderF.of (Lib.fresh_isBuilder 262 5 (w.alloc (.cells #[.slice pa fs.length ca,.slice pv l.length cv] 176)));rw[hs1]at hbf;have hal1:=(Below.refl (w.heap.size+1) (w.alloc (.cells #[.slice pa fs.length ca,.slice pv l.length cv] 176))).alloc (by rw[hs1];exact wz) (.cells #[.pointer none,.slice none 0 0] 262);have HB0:Hid (Below w.heap.size w _):=Qa (hal0.trans (hal1.mono (Nat.le_succ _)));have hsz:w.heap.size+2≤((w.alloc (.cells #[.slice pa fs.length ca,.slice pv l.length cv] 176)).alloc (.cells #[.pointer none,.slice none 0 0] 262)).heap.size:=by simp
 have HBX1:=Qa (HBX0.out.next (hal1.mono (Nat.le_of_eq hs1)));clear hcell hfs hl hE hp hal0 hs1 hal1 HBX0;have HSZ:=Qa hsz;clear hsz;have b0:=HBX1.out.cell (i:=0) rfl;go_enter Tryz.func112,Tryz.ntmps112;go_wp2_with fail;generalize (w.alloc (.cells #[.slice pa fs.length ca,.slice pv l.length cv] 176)).alloc (.cells #[.pointer none,.slice none 0 0] 262)=W1 at *
 go_loopw [15] (fun i wr=>∃k:Nat,k≤fs.length∧i=.int .i64 k∧Hid (Lib.IsBuilderF 262 5 (w.heap.size+1) (w.heap.size+1) (Lib.byteCells (Zo (fs.take k))) wr)∧Hid (Below (w.heap.size+1) W1 wr)) (fun i _=>fs.length - (intOf i).toNat)
 case atStart=>exact⟨0,Nat.zero_le _,rfl,hbf,Below.refl _ _⟩
 case round=>
  clear hbf b0;obtain⟨k,hk,rfl,HBD,HB⟩:=hrel;have HBw:Hid (Below w.heap.size w wr):=HB0.out.trans (HB.out.mono (Nat.le_succ _));have HBX:Hid (Blk wr w.heap.size #[.slice pa fs.length ca,.slice pv l.length cv] 176):=(HB.out.block _ (Nat.lt_succ_self _)).trans HBX1.out;have HWS:Hid (w.heap.size+2≤wr.heap.size):=by have h1:=HB.out.size;have h2:=HSZ.out;show _≤_;omega
  by_cases hlt:k<fs.length
  ·have hlt':(k:Int)<(fs.length:Int):=(by omega);have hk0:(0:Int)≤(k:Int):=(by omega);obtain⟨b,o,vi,hp,hr⟩:=HC.out _ HBw.out k hlt;have HLI:=Qa (HFS.out _ (List.getElem_mem hlt));have HSN:=Qa (Qmg fs k hlt);have HRK:Hid ((Zo (fs.take k)).length≤2000000000):=(by show _≤_;have h1:=Qcc (fs.take k) (fun r hr=>HFS.out r (List.mem_of_mem_take hr));rw[List.length_take]at h1;have:min k fs.length≤1000:=(by omega);omega);obtain⟨⟨nm,L,P,ids⟩,hx⟩:∃x,fs[k]=x:=⟨_,rfl⟩;rw[hx]at hr HLI HSN;have c0:=hr.c0;have c1:=hr.c1;have c2:=hr.c2;have c3:=hr.c3;have HI:=Qa hr.ids;obtain⟨pi,ci,hvi,_⟩:=hr.ids;simp only at c0 c1 c2 c3 hvi HI;subst hvi;subst hp;obtain⟨p,rfl⟩:∃p:Nat,P=(p:Int):=⟨P.toNat,by have:=HLI.out.pr.1;simp only at this;omega⟩;obtain⟨X,hX⟩:∃X:ByteArray,(⟨nm.toArray⟩:ByteArray)=X:=⟨_,rfl⟩;have hXd:X.data.toList=nm:=(by rw[←hX]);rw[hX]at c0;obtain⟨T,hT⟩:∃T:ByteArray,(⟨(Ud nm L p ids).toArray⟩:ByteArray)=T:=⟨_,rfl⟩;have hTd:T.data.toList=Ud nm L p ids:=(by rw[←hT]);have hrl:K8 (nm,L,(p:Int),ids)=Ud nm L p ids++[10]:=rfl;have hTs:T.size≤2000000:=(by have h1:=HLI.out.line;rw[hrl,List.length_append,←hTd,Array.length_toList]at h1;have:T.data.size=T.size:=rfl;simp only[List.length_cons,List.length_nil]at h1;omega);have z2:(⟨#[10]⟩:ByteArray).size=1:=rfl;obtain⟨S1,hS1,hT1,hZ1⟩:=Qll T ⟨#[10]⟩ (by rw[z2];omega);have HS1:Hid (S1.data.toList=K8 (nm,L,(p:Int),ids)):=(by show _=_;rw[hT1,hrl,hTd]);have HZ1:Hid (S1.size≤2000001):=(by show _≤_;rw[hZ1,z2];omega);have HTX:=Qa (fun W (hB:Below w.heap.size w W) (hi:Q3 W (.slice pi ids.length ci) ids)=>Qnk a X (by have h1:=HLI.out.nm;simp only at h1;rw[←hXd,Array.length_toList]at h1;have:X.data.size=X.size:=rfl;unfold maxLen;omega) L p (by have:=HLI.out.pr.2;simp only at this;omega) (.slice pi ids.length ci) ids W (HE.out _ hB) (HP.out _ hB) hi (by have:=HLI.out.ids;simp only at this;unfold maxLen;omega) HLI.out.nums (by rw[hXd];exact HLI.out.good));unfold Qlz at HTX;rw[hXd,hT]at HTX;have HGD:Hid (Qb nm L ids=(0,-1)):=HLI.out.good;obtain⟨idl,hidl⟩:∃idl,ids.length=idl:=⟨_,rfl⟩;have HID:=Qa hidl;rw[hidl]at c3 HI HTX;have hal:=(Below.refl _ wr).alloc wz (.cells #[.string X,.int .i64 L,.int .u32 (p:Nat),.slice pi idl ci] 40);have HI2:=Qa (HI.out.below hal);have HBD2:=Qa (Jl HBD.out hal);have HB2:=Qa (HB.out.trans (hal.mono (by have:=HWS.out;omega)));have HBw2:=Qa (HBw.out.trans (hal.mono HBw.out.size));clear hx hr hX hXd hT hTd hrl hTs z2 hT1 hZ1 hidl hal;go_wp2_with fail;generalize wr.alloc (.cells #[.string X,.int .i64 L,.int .u32 (p:Nat),.slice pi idl ci] 40)=W2 at *;refine(HTX.out W2 HBw2.out HI2.out).mono ?_;rintro e w3 ⟨ev,rfl,hev,hb3⟩;rw[HGD.out]at hev;obtain rfl:=hev.is_nil;have HBD3:=Qa (Jl HBD2.out hb3);have HSZ2:Hid (w.heap.size+1≤W2.heap.size):=(by have h1:=HB2.out.size;have h2:=HSZ.out;show _≤_;omega);have HB3:=Qa (HB2.out.trans (hb3.mono HSZ2.out));have HSZ3:Hid (w.heap.size+1≤w3.heap.size):=(by have h1:=hb3.size;have h2:=HSZ2.out;show _≤_;omega);have HLEN:Hid ((Lib.byteCells (Zo (fs.take k))).length+S1.size≤140737488355328):=(by show _≤_;rw[Lib.byteCells_length];have h1:=HRK.out;have h2:=HZ1.out;omega);clear hev hb3 c0 c1 c2 c3 HTX;go_wp2_with fail;refine(Qbt (w.heap.size+1) (w.heap.size+1) _ S1 w3 HBD3.out HLEN.out HSZ3.out).mono ?_;rintro e w4 ⟨rfl,hbd4,hb4,_⟩;have HBD4:=Qa hbd4;have HB4:=Qa (HB3.out.trans hb4);clear hbd4 hb4;go_wp2_with fail;go_roundw
   case rel=>exact⟨k+1,hlt,by go_num,by show Lib.IsBuilderF _ _ _ _ _ _;rw[HSN.out,Lib.byteCells_append,←HS1.out];exact .inr HBD4.out,HB4.out⟩
   case measure=>simp[intOf];omega
  ·have hge:(fs.length:Int)≤(k:Int):=(by omega);have hke:k=fs.length:=(by omega);rw[hke,List.take_length]at HBD;clear hke;have q0:=HBX.out.cell (i:=0) rfl;have q1:=HBX.out.cell (i:=1) rfl;have HTB:=Qa (Qqm (.slice pv l.length cv) l wr HLO.out (HP.out _ HBw.out) (HV.out.below HBw.out));obtain⟨PT,hPT⟩:∃PT:ByteArray,(⟨(Qu l).toArray⟩:ByteArray)=PT:=⟨_,rfl⟩;have hPd:PT.data.toList=Qu l:=(by rw[←hPT]);have hPs:PT.size=(Qu l).length:=(by rw[←hPd,Array.length_toList];rfl);have hPl:PT.size≤40000:=(by rw[hPs];exact HLL.out);obtain⟨LN,hLN⟩:∃LN:ByteArray,(⟨(Zo fs).toArray⟩:ByteArray)=LN:=⟨_,rfl⟩;have hLd:LN.data.toList=Zo fs:=(by rw[←hLN]);have hLs:LN.size≤2000000000:=(by have h1:=HRL.out;rw[←hLd,Array.length_toList]at h1;exact h1);obtain⟨D1,hD1⟩:∃D:ByteArray,(⟨(Lib.decDigits fs.length).toArray⟩:ByteArray)=D:=⟨_,rfl⟩;obtain⟨D2,hD2⟩:∃D:ByteArray,(⟨(Lib.decDigits PT.size).toArray⟩:ByteArray)=D:=⟨_,rfl⟩;have hD1s:D1.size≤19:=(by rw[←hD1];have:=Qd5 fs.length (by omega);show(Lib.decDigits fs.length).toArray.size≤19;simpa using this);have hD2s:D2.size≤19:=(by rw[←hD2];have:=Qd5 PT.size (by omega);show(Lib.decDigits PT.size).toArray.size≤19;simpa using this);have hD1d:D1.data.toList=Lib.decDigits fs.length:=(by rw[←hD1]);have hD2d:D2.data.toList=Lib.decDigits (Qu l).length:=(by rw[←hD2,hPs]);have z1:(⟨#[108,111,97,100,32]⟩:ByteArray).size=5:=rfl;have z2:(⟨#[32]⟩:ByteArray).size=1:=rfl;have z3:(⟨#[10]⟩:ByteArray).size=1:=rfl;obtain⟨A1,hA1,e1,g1⟩:=Qll ⟨#[108,111,97,100,32]⟩ D1 (by omega);obtain⟨A2,hA2,e2,g2⟩:=Qll A1 ⟨#[32]⟩ (by omega);obtain⟨A3,hA3,e3,g3⟩:=Qll A2 D2 (by omega);obtain⟨A4,hA4,e4,g4⟩:=Qll A3 ⟨#[10]⟩ (by omega);obtain⟨A5,hA5,e5,g5⟩:=Qll A4 LN (by omega);obtain⟨A6,hA6,e6,g6⟩:=Qll A5 PT (by omega);have h6:A6.data.toList=loadBody fs l:=(by rw[e6,e5,e4,e3,e2,e1,hPd,hLd,hD1d,hD2d];simp[loadBody,Ky]);obtain⟨HX,hHX⟩:∃HX:ByteArray,(⟨(hexLast (pmore 2166136261 (loadBody fs l)) 8).toArray⟩:ByteArray)=HX:=⟨_,rfl⟩;have hHs:HX.size=8:=(by rw[←hHX];show(hexLast (pmore 2166136261 (loadBody fs l)) 8).toArray.size=8;rw[List.size_toArray,Qm]);obtain⟨A7,hA7,e7,g7⟩:=Qll A6 HX (by omega);have HA7:Hid ((⟨(Ql fs l).toArray⟩:ByteArray)=A7):=(by show _=_;have h7:A7.data.toList=Ql fs l:=(by rw[e7,h6,←hHX];rfl);rw[←h7]);have HOF:=Qa (fun W=>Qdn A6 W (by unfold maxLen;omega));rw[h6]at HOF;have HHX:=Qa (fun W=>hexText_any (pmore 2166136261 (loadBody fs l)) (Zr _ (by decide) _) W);rw[hHX]at HHX;have HIT1:=Qa (fun W (hB:Below w.heap.size w W)=>Qam fs.length (by omega) W (HP.out _ hB));rw[hD1]at HIT1;have HIT2:=Qa (fun W (hB:Below w.heap.size w W)=>Qam PT.size (by omega) W (HP.out _ hB));rw[hD2]at HIT2;rw[hPT]at HTB;obtain⟨PP,hPP⟩:∃PP,pmore 2166136261 (loadBody fs l)=PP:=⟨_,rfl⟩;rw[hPP]at HOF HHX;have HLN:=Qa hLN;clear hPT hPd hPs hLN hLd hLs hD1 hD2 hD1s hD2s hD1d hD2d z1 z2 z3 e1 e2 e3 e4 e5 e6 e7 g1 g2 g3 g4 g5 g6 g7 h6 hHX hHs hPP;go_wp2_with fail;refine HTB.out.mono ?_;rintro e w3 ⟨rfl,hb3⟩;have HBw3:=Qa (HBw.out.trans (hb3.mono HBw.out.size));have HBX3:=Qa (HBX.out.next hb3);have HBD3:=Qa (Jl HBD.out hb3);have HS3:Hid (w.heap.size+2≤w3.heap.size):=(by have h1:=hb3.size;have h2:=HWS.out;show _≤_;omega);clear q0 q1 hb3;have q0:=HBX3.out.cell (i:=0) rfl;go_wp2_with fail;refine(HIT1.out w3 HBw3.out).mono ?_;rintro e w4 ⟨rfl,hb4⟩;have HBw4:=Qa (HBw3.out.trans (hb4.mono HBw3.out.size));have HBD4:=Qa (Jl HBD3.out hb4);have HS4:Hid (w.heap.size+2≤w4.heap.size):=(by have h1:=hb4.size;have h2:=HS3.out;show _≤_;omega);clear q0 hb4;go_wp2_with fail;refine(HIT2.out w4 HBw4.out).mono ?_;rintro e w5 ⟨rfl,hb5⟩;have HBw5:=Qa (HBw4.out.trans (hb5.mono HBw4.out.size));have HBD5:=Qa (Jl HBD4.out hb5);have HS5:Hid (w.heap.size+1≤w5.heap.size):=(by have h1:=hb5.size;have h2:=HS4.out;show _≤_;omega);clear hb5;go_wp2_with fail;refine(Qma (w.heap.size+1) (w.heap.size+1) (Zo fs) w5 HBD5.out HS5.out).mono ?_;rintro e w6 ⟨rfl,_,hb6,_⟩;rw[HLN.out];have HBw6:=Qa (HBw5.out.trans (hb6.mono (Nat.le_succ _)));clear hb6;go_wp2_with fail;refine(HOF.out w6).mono ?_;rintro e w7 ⟨rfl,rfl⟩;go_wp2_with fail;refine(HHX.out _).mono ?_;rintro e w8 ⟨rfl,hb8⟩;have HBw8:=Qa (HBw6.out.trans (hb8.mono HBw6.out.size));clear hb8;go_wp2_with fail;go_ret2;refine⟨?_,HBw8.out⟩;rw[HA7.out];rfl
theorem Qi2 (n:Nat)(hn:n<4294967296)(u v:List UInt8){c d:UInt8}(hcd:c≠d):pmore n (u++c::v)≠pmore n (u++d::v):=fun h=>by
 rw[U3,U3,V4,V4]at h;exact hcd (Qkx (Zr n hn u) (Qlm (Qat _ c) (Qat _ d) v h))
theorem Qjn (n:Nat)(hn:n<4294967296)(s:List UInt8)(i:Nat)(hi:i<s.length){x:UInt8}(hx:s[i]'hi≠x):pmore n s≠pmore n (s.set i x):=by
 have e1:s=s.take i++(s[i]'hi)::s.drop (i+1):=by rw[←List.drop_eq_getElem_cons hi,List.take_append_drop]
 have e2:s.set i x=s.take i++x::s.drop (i+1):=List.set_eq_take_append_cons_drop.trans (by rw[if_pos hi]);rw[e2]
 conv=>lhs;rw[e1]
 exact Qi2 n hn _ _ hx
theorem Qtl {nm:List UInt8}(h:Qj nm=true):(10:UInt8) ∉ nm:=fun hc=>by
 obtain⟨i,hi,e⟩:=List.mem_iff_getElem.1 hc;have:=Kg (l:=nm) (k:=i) (c:=10) (by rw[List.getElem?_eq_getElem hi,e]) (by decide);rw[this]at h;cases h
theorem Qlt (ids:List (Nat×Int)):(10:UInt8) ∉ idsText ids:=by
 intro hc;unfold idsText at hc;obtain⟨l,hl,hm⟩:=List.mem_flatten.1 hc;obtain⟨x,_,rfl⟩:=List.mem_map.1 hl;rcases List.mem_cons.1 hm with e|hm
 ·revert e;decide
 ·exact(Qdt _ _ _ hm).1 rfl
theorem Ql7 {nm:List UInt8}{len:Int}{p:Nat}{ids:List (Nat×Int)}(h:Qj nm=true):(10:UInt8) ∉ Zy nm len p ids:=by
 intro hc;unfold Zy at hc;simp only[List.mem_append]at hc;rcases hc with((((hc|hc)|hc)|hc)|hc)|hc
 ·exact Qtl h hc
 ·revert hc;decide
 ·exact(Qe4 _ _ hc).1 rfl
 ·revert hc;decide
 ·exact(Qgn _ _ _ hc).1 rfl
 ·exact Qlt _ hc
theorem Qnq {r:Rcp}(h:Gv r):K8 r=Zy r.1 r.2.1 r.2.2.1.toNat r.2.2.2++[10]:=by
 unfold K8 Ud;rw[if_pos h.good]
theorem Qnt {r:Rcp}(h:Gv r)(rest:List UInt8):Gr (K8 r++rest) true=(r,rest,true):=by
 have hn:Qj r.1=true:=(Yc h.good).1;have e:K8 r++rest=Zy r.1 r.2.1 r.2.2.1.toNat r.2.2.2++10::rest:=by rw[Qnq h];simp
 have hc:tUp 10 (K8 r++rest) true=(Zy r.1 r.2.1 r.2.2.1.toNat r.2.2.2,rest,true):=by unfold tUp;rw[e,V8 _ _ _ (Ql7 hn)];rfl
 have hr:=Qjc r.1 r.2.1 r.2.2.1.toNat r.2.2.2 h.good (by have:=h.pr;omega) (fun x hx=>by obtain⟨j,hj,rfl⟩:=List.mem_iff_getElem.1 hx;exact h.nums j hj);unfold Gr;rw[hc];simp only[hr];obtain⟨nm,L,P,ids⟩:=r;have hp:=h.pr.1;simp only at hp;simp[Quu,Int.toNat_of_nonneg hp]
theorem Qdc:∀(fs l0:List Rcp) (rest:List UInt8),(∀r∈fs,Gv r)→V5 fs.length l0 (Zo fs++rest) true=(l0++fs,rest,true)
 | [],l0,rest,_=>by simp[V5,Zo]
 | r::q,l0,rest,h=>by
  have e:Zo (r::q)++rest=K8 r++(Zo q++rest):=by simp[Zo]
  rw[e,List.length_cons,Qei,Qnt (h r (List.mem_cons_self ..))];simp only;rw[Qdc q (l0++[r]) rest (fun y hy=>h y (List.mem_cons_of_mem _ hy))];simp
theorem Qku {U:Int}(hU:U<1000000){h:Hd}(h1:h.1=Qc h.2.2)(h2:h.2.2.length≤64)(h3:0≤h.2.1∧h.2.1≤U)(r:List UInt8):X8 (Ub h++r)=some (h,r):=by
 obtain⟨⟨x,n⟩,u,t⟩:=h;simp only at h1 h2 h3;obtain⟨rfl,rfl⟩:x=pmore 2166136261 t∧n=(t.length:Int):=by simpa[Qc]using h1
 unfold X8;rw[Qs9];unfold Qea;rw[Qt2];simp only[Int.toNat_natCast];rw[Qbv _ _ (Zr _ (by decide) _) (by omega),Xe _ 6 (by decide) (by omega)];simp only;rw[if_pos (by simp)];simp;omega
theorem Qqi {U:Int}{l:List Hd}(hok:Qd U l){k:Nat}(hk:k<l.length):Z6 (l.take k++[l[k]]) (l.take k).length=0:=by
 have hlk:(l.take k).length=k:=by rw[List.length_take];omega
 have e:l.take k++[l[k]]=l.take (k+1):=(List.take_succ_eq_append_getElem hk).symm;rw[hlk,e];unfold Z6;have g:(l.take (k+1))[k]? = some l[k]:=by rw[List.getElem?_take_of_lt (by omega),List.getElem?_eq_getElem hk]
 rw[g];simp only;rw[if_neg (by rw[(hok.each _ (List.getElem_mem hk)).1];simp)];by_cases h0:k=0
 ·rw[if_pos h0]
 ·rw[if_neg h0];have g2:(l.take (k+1))[k - 1]? = some (l[k - 1]'(by omega)):=by rw[List.getElem?_take_of_lt (by omega),List.getElem?_eq_getElem (by omega)]
  rw[g2];simp only;have hr:=hok.rise;unfold Y7 at hr;rw[List.pairwise_iff_getElem]at hr;rw[if_pos (hr (k - 1) k (by omega) hk (by omega))]
theorem Qeg {U:Int}(hU:U<1000000){l:List Hd}(hok:Qd U l):∀(n k:Nat),k+n=l.length→Yz (l.take k) (Qu (l.drop k))=(l,0,-1)
 | 0,k,h=>by
  have hk:k=l.length:=by omega
  subst hk;rw[List.take_length,List.drop_length];exact Qgw l
 | n+1,k,h=>by
  have hk:k<l.length:=by omega
  have hm:=hok.each _ (List.getElem_mem hk);rw[Qkh l k hk];have hf:=Qku hU hm.1 hm.2.1.2 hm.2.2 (Qu (l.drop (k+1)));rw[Qem _ _ _ hf (Qqi hok hk)];simp only;rw[←List.take_succ_eq_append_getElem hk];exact Qeg hU hok n (k+1) (by omega)
theorem Qda {U:Int}(hU:U<1000000){l:List Hd}(hok:Qd U l)(hl:(Qu l).length≤40000):readsOf (Qu l)=(l,0,-1):=by
 unfold readsOf;rw[if_neg (by omega)];have:=Qeg hU hok l.length 0 (by omega);simpa using this
theorem Qvj {U:Int}(hU:U<1000000){fs:List Rcp}{l:List Hd}(hf:∀r∈fs,Gv r)(hn:fs.length≤30)(hok:Qd U l)(hl:(Qu l).length≤40000):(Gy (loadBody fs l)).1=fs∧(Gy (loadBody fs l)).2.1=Qu l∧tOk (loadBody fs l)=true:=by
 have e1:loadBody fs l=[108,111,97,100]++32::(Lib.decDigits fs.length++32::(Lib.decDigits (Qu l).length++10::(Zo fs++Qu l))):=by simp[loadBody,Ky]
 have w:Qg0 (loadBody fs l)=(Lib.decDigits fs.length++32::(Lib.decDigits (Qu l).length++10::(Zo fs++Qu l)),true):=by unfold Qg0 tUp;rw[e1,V8 _ _ _ (by decide)];rfl
 have m:Qgg (loadBody fs l)=(fs.length,Lib.decDigits (Qu l).length++10::(Zo fs++Qu l),true):=by unfold Qgg Qey tUp;rw[w];simp only;rw[V8 _ _ _ (fun hc=>(Qe4 _ _ hc).2 rfl),Xe _ 6 (by decide) (by omega)];rfl
 have z:Qfe (loadBody fs l)=((Qu l).length,Zo fs++Qu l,true):=by unfold Qfe Qey tUp;rw[m];simp only;rw[V8 _ _ _ (fun hc=>(Qe4 _ _ hc).1 rfl),Xe _ 6 (by decide) (by omega)];rfl
 have f:Gy (loadBody fs l)=(fs,Qu l,true):=by unfold Gy;rw[m,z];simp only;rw[Qdc fs [] (Qu l) hf];rfl
 refine⟨by rw[f],by rw[f],?_⟩;unfold tOk;rw[f,z];simp only;rw[Qda hU hok hl];simp
theorem Jy (fs:List Rcp)(l:List Hd):(Ql fs l).length=(loadBody fs l).length+8∧(Ql fs l).take ((Ql fs l).length - 8)=loadBody fs l∧(Ql fs l).drop ((Ql fs l).length - 8)=hexLast (pmore 2166136261 (loadBody fs l)) 8:=by
 have h1:(Ql fs l).length=(loadBody fs l).length+8:=by unfold Ql;rw[List.length_append,Qm]
 rw[h1,Nat.add_sub_cancel];refine⟨rfl,?_,?_⟩
 ·unfold Ql;simp
 ·unfold Ql;simp
theorem Qmr {U:Int}(hU:U<1000000){fs:List Rcp}{l:List Hd}(hf:∀r∈fs,Gv r)(hn:fs.length≤30)(hok:Qd U l)(hl:(Ql fs l).length≤40000):Ye (Ql fs l)=0:=by
 obtain⟨h1,h2,h3⟩:=Jy fs l;have hb:(Qu l).length≤40000:=by
  have:(loadBody fs l).length=(Ky fs.length (Qu l).length).length+(Zo fs).length+(Qu l).length:=by unfold loadBody;rw[List.length_append,List.length_append]
  omega
 unfold Ye;rw[if_neg (by omega),if_neg (by omega),h2,h3];have hu:unhex8 (hexLast (pmore 2166136261 (loadBody fs l)) 8)=some (pmore 2166136261 (loadBody fs l)):=by unfold unhex8;rw[if_pos (Qm _ _)];exact Qa0 _ (Zr _ (by decide) _)
 rw[hu];simp only;rw[(Qvj hU hf hn hok hb).2.2];simp
theorem Qkf (fs:List Rcp)(l:List Hd)(i:Nat)(x:UInt8)(hi:i<(loadBody fs l).length)(hx:x≠(loadBody fs l)[i]):Ye ((Ql fs l).set i x)≠0:=by
 obtain⟨h1,h2,h3⟩:=Jy fs l;have e:(Ql fs l).set i x=(loadBody fs l).set i x++hexLast (pmore 2166136261 (loadBody fs l)) 8:=by unfold Ql;rw[List.set_append_left _ _ hi]
 have hlen:((loadBody fs l).set i x++hexLast (pmore 2166136261 (loadBody fs l)) 8).length - 8=((loadBody fs l).set i x).length:=by rw[List.length_append,Qm];omega
 have hl8:((loadBody fs l).set i x++hexLast (pmore 2166136261 (loadBody fs l)) 8).length=((loadBody fs l).set i x).length+8:=by rw[List.length_append,Qm]
 have hu:unhex8 (hexLast (pmore 2166136261 (loadBody fs l)) 8)=some (pmore 2166136261 (loadBody fs l)):=by unfold unhex8;rw[if_pos (Qm _ _)];exact Qa0 _ (Zr _ (by decide) _)
 rw[e];unfold Ye;rw[hlen];split
 ·decide
 ·split
  ·decide
  ·rw[List.drop_left' rfl,List.take_left' rfl,hu];simp only;split
   ·decide
   ·rw[if_neg (fun e=>Qjn 2166136261 (by decide) (loadBody fs l) i hi (x:=x) (fun e2=>hx e2.symm) e.symm)];decide
theorem Qfw (l:List UInt8):∀x∈idsOf l,x.1<4294967296∧x.2.toNat≤9223372036854775807:=fun x hx=>by
 obtain⟨p,hp,rfl⟩:=List.mem_map.1 hx;obtain⟨i,hi,rfl⟩:=List.mem_iff_getElem.1 hp;have:=Vr l i hi;refine⟨Zr _ (by decide) _,?_⟩;simp only[Int.toNat_natCast];omega
theorem Qdl (f:Qz)(hl:f.2.length≤4000)(hn:Qj f.1=true):Gv (rcpOf f):=by
 have h0:=Gd f.1 f.2 hn hl;have h1:=Qy f.2;have hi:(idsOf f.2).length≤4000:=by unfold idsOf;rw[List.length_map];omega
 have h5:f.1.length≤12:=by have h6:=hn;unfold Qj at h6;simp only[Bool.and_eq_true,decide_eq_true_eq]at h6;exact h6.2.2
 refine⟨h0,by show f.1.length≤50000;omega,⟨by show(0:Int)≤((pmore 2166136261 f.2:Nat):Int);omega,by have:=Zr 2166136261 (by decide) f.2;show((pmore 2166136261 f.2:Nat):Int)<4294967296;omega⟩,by show(idsOf f.2).length≤50000;omega,fun j hj=>(Qfw f.2 _ (List.getElem_mem hj)).1,?_⟩;have h2:=J4 f.2.length 4 (by omega) (by omega);have h3:=U8 (idsOf f.2) (fun x hx=>(Qfw f.2 x hx).2);have e:K8 (rcpOf f)=Zy f.1 f.2.length (pmore 2166136261 f.2) (idsOf f.2)++[10]:=by show Ud f.1 (f.2.length:Int) (((pmore 2166136261 f.2:Nat):Int)).toNat (idsOf f.2)++[10]=_;rw[Int.toNat_natCast];unfold Ud;rw[if_pos h0]
 rw[e];unfold Zy;simp only[List.length_append,List.length_cons,List.length_nil,Int.toNat_natCast,Qm];omega
theorem Qbl (p:Addr)(F:Nat→Prop)(st:NSt)(xp:Nat)(xl:Int)(w:World)(hfl:∀f∈st.files,f.2.length≤4000)(hn:st.files.length≤1000)(hP:Q9 w p F st) :
 Calls Tryz.prog 113 #[.pointer (some p),idV (xp:Nat) xl] w fun e w'=>∃(v:Value) (fl:List Qz),e=.returned v∧fl.Perm (st.files.filter fun f=>decide (Qg f.2=(xp,xl)))∧fl.Pairwise (fun f g=>f.1<g.1)∧Jo w' v (fl.map rcpOf)∧Below w.heap.size w w':=by
 have hP2:=hP;obtain⟨N,mf,mb,vi,pi,Fi,rfl,h,_⟩:=hP2;have hap:st.files.Pairwise (fun f g=>f.1≠g.1):=by have:=h.files.apart;rw[List.pairwise_map]at this;exact this
 have HAP:=Qa hap;have HFL:=Qa hfl;have hal0:=(Below.refl _ w).alloc wz (.cells #[.int .u32 (xp:Nat),.int .i64 xl] 25);have HBX0:=Qa (Blk.new w #[.int .u32 (xp:Nat),.int .i64 xl] 25);have HNM:=Qa (Yd ⟨N,0,none⟩ F st _ hn (hP.below hal0));have HH0:=Qa (h.below hal0);have HB0:=Qa hal0;have HLN:=Qa hn;obtain⟨iR,hiR,zR0,zR1,zR2⟩:=info_parts Qja;clear hP hfl hap h hal0 hn;go_enter Tryz.func113,Tryz.ntmps113;go_wp2_with fail;generalize w.alloc (.cells #[.int .u32 (xp:Nat),.int .i64 xl] 25)=W0 at *;refine HNM.out.mono ?_;rintro e w1 ⟨vn,ss,rfl,hss,hrow,hb1⟩;obtain⟨hs1,hs2⟩:=Qc0 hss (by rw[List.pairwise_map];exact HAP.out);obtain⟨NS,hNS⟩:∃NS,ss.mergeSort (fun x y=>decide (x≤y))=NS:=⟨_,rfl⟩;rw[hNS]at hs1 hs2 hrow;have hlen:ss.length=NS.length:=by rw[←hNS,List.length_mergeSort]
 rw[hlen]at hrow;have HS1:=Qa hs1;have HS2:=Qa hs2;have HB1:=Qa hb1;have HH1:=Qa (HH0.out.below hb1);have HBX1:=Qa (HBX0.out.next hb1);have HPE:=Qa (Qej HAP.out hs1);have hnl:(NS.length:Int)≤1000:=by have:=hs1.length_eq;have:=HLN.out;rw[List.length_map]at *;omega
 have HCN:Hid (NS≠[]→∃g,(∃c,vn=.slice (some ⟨g,0,none⟩) NS.length c)∧g<w1.heap.size∧∀i (hi:i<NS.length),w1.cell? ⟨g,i,none⟩=some (.string ⟨NS[i].toArray⟩)):=fun hne=>by
  rcases hrow.2 with⟨_,hz⟩|⟨g,cap,cur,hv,_,hb,_⟩
  ·exact absurd (List.length_eq_zero_iff.1 hz) hne
  ·refine⟨g,⟨cap,hv⟩,lt_of_block hb,fun i hi => ?_⟩;have c1:=hrow.cells (g:=g) (by rw[hv];rfl) i (encStr NS[i]) (by simp[hi]);simp only[add_plain]at c1;exact c1
 obtain⟨pn,cn,hvn⟩:=Jh hrow;subst hvn;clear hss hs1 hs2 hNS hlen hrow hb1 HNM HH0 HBX0;go_wp2_with fail
 go_loopw [5,12] (fun v iv wr=>∃(k:Nat) (ps:List RP),k≤NS.length∧iv=.int .i64 k∧Hid (ps.map (·.1)=((NS.take k).map (fun n=>(n,(nFile st.files n).getD []))).filter (fun f=>decide (Qg f.2=(xp,xl))))∧Hid (Va w1 wr v ps)∧Hid (Below w1.heap.size w1 wr)) (fun _ iv _=>NS.length - (intOf iv).toNat)
 case atStart=>exact⟨0,[],Nat.zero_le _,rfl,rfl,Va.nil _ _,Below.refl _ _⟩
 case round=>
  obtain⟨k,ps,hk,rfl,HPS,HFS,HB⟩:=hrel;have HPL:Hid (ps.length≤k):=by show _≤_;have:=congrArg List.length HPS.out;rw[List.length_map]at this;rw[this];refine Nat.le_trans (List.length_filter_le _ _) ?_;rw[List.length_map,List.length_take];omega
  by_cases hlt:k<NS.length
  ·have hlt':(k:Int)<(NS.length:Int):=(by omega);have hk0:(0:Int)≤(k:Int):=(by omega);obtain⟨g,⟨cg,hvg⟩,hgl,hcell⟩:=HCN.out (fun e=>by rw[e]at hlt;simp at hlt);obtain⟨rfl,rfl⟩:pn=some ⟨g,0,none⟩∧cn=cg:=(by simpa using hvg);have d0:=(HB.out.cell (p:=⟨g,k,none⟩) hgl).trans (hcell k hlt);have HTK:=Qa (List.take_succ_eq_append_getElem hlt);have hxm:NS[k]∈st.files.map (·.1):=HS1.out.mem_iff.1 (List.getElem_mem hlt);obtain⟨x,hx⟩:∃x,NS[k]=x:=⟨_,rfl⟩;rw[hx]at d0 HTK hxm;obtain⟨⟨f1,s⟩,hf,rfl⟩:=List.mem_map.1 hxm;simp only at d0 HTK;have HNF:=Qa (Jj HAP.out hf);have HLS:=Qa (HFL.out _ hf);simp only at HLS;have HHr:=Qa (HH1.out.below HB.out);have q0:=HHr.out.blk.cell (i:=0) rfl;obtain⟨pv0,cv0,hv0,_⟩:=HHr.out.ids _ hf;have HI:=Qa (HHr.out.ids _ hf);simp only at hv0 HI;have l0:(Instr.lookup 118 (.map (some mf)) (.string ⟨f1.toArray⟩) false).run Tryz.prog wr=.ok (.agg #[.string ⟨f1.toArray⟩,.int .i64 (s.length:Int),.int .u32 ((pmore 2166136261 s:Nat):Int),.slice pv0 (idsOf s).length cv0]) wr:=(by have:=look1 HHr.out.files Tryz.underlying118 (Y5 _) (List.mem_map.2 ⟨_,hf,rfl⟩);change(Instr.lookup _ _ (.string ⟨f1.toArray⟩) false).run _ _=.ok (rcpV ⟨f1.toArray⟩ (s.length:Int) ((pmore 2166136261 s:Nat):Int) (vi f1)) _ at this;rw[hv0]at this;exact this);rw[hv0]at HI;have HLEN:Hid ((idsOf s).length≤4000):=(by show _≤_;have h1:=Qy s;have h2:=HLS.out;unfold idsOf;rw[List.length_map];omega);obtain⟨P,hPP⟩:∃P,pmore 2166136261 s=P:=⟨_,rfl⟩;obtain⟨LL,hLL⟩:∃LL,(s.length:Int)=LL:=⟨_,rfl⟩;obtain⟨idl,hidl⟩:∃idl,(idsOf s).length=idl:=⟨_,rfl⟩;obtain⟨⟨rp,rl⟩,hrep⟩:∃r,Qg s=r:=⟨_,rfl⟩;obtain⟨FN,hFN⟩:∃FN:ByteArray,(⟨f1.toArray⟩:ByteArray)=FN:=⟨_,rfl⟩;have HID:=Qa hidl;have HRP:=Qa hrep;have HPP:=Qa hPP;have HLL:=Qa hLL;have HFN:=Qa hFN;have HREP:=Qa (fun W (hv:Q3 W (.slice pv0 idl cv0) (idsOf s))=>Ga FN LL (P:Int) (.slice pv0 idl cv0) (idsOf s) W hv (by have:=HLEN.out;unfold maxLen;omega));change Hid (∀W,_→Calls _ _ _ W fun e w'=>e=.returned (idV ((Qg s).1:Nat) (Qg s).2)∧_)at HREP;rw[hrep]at HREP;simp only at HREP;rw[hPP,hLL,hidl,hFN]at l0;rw[hidl]at HI;rw[hFN]at d0;have hal:=(Below.refl _ wr).alloc wz (.cells #[.string FN,.int .i64 LL,.int .u32 (P:Nat),.slice pv0 idl cv0] 40);have HBR:=Qa (Blk.new wr #[.string FN,.int .i64 LL,.int .u32 (P:Nat),.slice pv0 idl cv0] 40);have HI1:=Qa (HI.out.below hal);have HBX2:=Qa ((HBX1.out.next HB.out).next hal);have HFS2:=Qa (HFS.out.next hal);have HB2:Hid (Below w1.heap.size w1 _):=Qa (HB.out.trans (hal.mono HB.out.size));have hc:(rp=xp∧rl=xl)∨((rp:Int)==(xp:Int))=false∨(((rp:Int)==(xp:Int))=true∧(rl==xl)=false):=by
    by_cases h:rp=xp
    ·by_cases h2:rl=xl
     ·exact .inl ⟨h,h2⟩
     ·exact .inr (.inr ⟨by rw[beq_iff_eq];omega,by rw[beq_eq_false_iff_ne];exact h2⟩)
    ·exact .inr (.inl (by rw[beq_eq_false_iff_ne];omega))
   have HCE:Hid (∀W',Blk W' wr.heap.size #[.string FN,.int .i64 LL,.int .u32 (P:Nat),.slice pv0 idl cv0] 40→Blk W' w.heap.size #[.int .u32 (xp:Nat),.int .i64 xl] 25→W'.cell? ⟨wr.heap.size,0,none⟩=some (.string FN)∧W'.cell? ⟨wr.heap.size,1,none⟩=some (.int .i64 LL)∧W'.cell? ⟨wr.heap.size,2,none⟩=some (.int .u32 (P:Nat))∧W'.cell? ⟨wr.heap.size,3,none⟩=some (.slice pv0 idl cv0)∧W'.cell? ⟨w.heap.size,0,none⟩=some (.int .u32 (xp:Nat))∧W'.cell? ⟨w.heap.size,1,none⟩=some (.int .i64 xl)):=fun W' h1 h2=>⟨h1.cell (i:=0) rfl,h1.cell (i:=1) rfl,h1.cell (i:=2) rfl,h1.cell (i:=3) rfl,h2.cell (i:=0) rfl,h2.cell (i:=1) rfl⟩;clear hvg hgl hcell hxm hx hf hv0 hPP hLL hidl hrep hFN hal;go_wp2_with fail;generalize wr.alloc (.cells #[.string FN,.int .i64 LL,.int .u32 (P:Nat),.slice pv0 idl cv0] 40)=W2 at *;generalize wr.heap.size=RB at *;obtain⟨z0,z1,z2,z3,z4,z5⟩:=HCE.out _ HBR.out HBX2.out;clear HFS HB HHr HI q0 l0;rcases hc with⟨rfl,rfl⟩|hc|⟨hc,hd⟩
   ·go_region_held3 (fun w'=>w'.cell? ⟨RB,0,none⟩=some (.string FN)∧w'.cell? ⟨RB,1,none⟩=some (.int .i64 LL)∧w'.cell? ⟨RB,2,none⟩=some (.int .u32 (P:Nat))∧w'.cell? ⟨RB,3,none⟩=some (.slice pv0 idl cv0)∧w'.cell? ⟨w.heap.size,0,none⟩=some (.int .u32 (rp:Nat))∧w'.cell? ⟨w.heap.size,1,none⟩=some (.int .i64 rl)) (first|exact HCE.out _ HBR3.out HBX3.out|go_keep) (first
     | (go_at_call 96;refine(HREP.out _ (HI1.out.below (Below.refl _ W2).drew)).mono ?_;rintro e w3 ⟨rfl,hb3⟩;have hB3:Below W2.heap.size W2 w3:=(Below.refl _ W2).drew.trans hb3;have HBR3:=Qa (HBR.out.next hB3);have HBX3:=Qa (HBX2.out.next hB3);have HFS3:=Qa (HFS2.out.next hB3);have HI3:=Qa (HI1.out.below hB3);have HB3:Hid (Below w1.heap.size w1 w3):=Qa (HB2.out.trans (hB3.mono HB2.out.size));clear hb3 hB3))
    go_wp2_with fail;refine(Qci FN LL (P:Nat) (.slice pv0 idl cv0) (idsOf s) w3 HI3.out (by have:=HLEN.out;omega)).mono ?_;rintro e w4 ⟨v4,rfl,hi4,hb4⟩;obtain⟨q4,c4,hv4,hq4⟩:=hi4;rw[HID.out]at hv4;subst hv4;have hi4:Zb w3.heap.size w4 (.slice q4 idl c4) (idsOf s):=⟨q4,c4,by rw[HID.out],hq4⟩;have HRW:Hid (∀j,u5.ownBlock=some j→j<w3.heap.size):=fun j hj=>Qan HFS3.out.row hj;have hal5:=(Below.refl _ w4).alloc wz (.cells #[.string FN,.int .i64 LL,.int .u32 (P:Nat),.slice q4 idl c4] 40);have HR5:=Qa (Blk.new w4 #[.string FN,.int .i64 LL,.int .u32 (P:Nat),.slice q4 idl c4] 40);have HFS5:=Qa ((HFS3.out.next hb4).next hal5);have HI5:=Qa ((hi4.below hal5).at);have HIB:Hid (idsOf s≠[]→∀j,(Value.slice q4 idl c4).ownBlock=some j→w3.heap.size≤j):=fun hne j hj=>(hi4.own hne hj).1;have HB5:Hid (Below w1.heap.size w1 _):=Qa ((HB3.out.trans (hb4.mono HB3.out.size)).trans (hal5.mono (Nat.le_trans HB3.out.size hb4.size)));obtain⟨W5,hW5⟩:∃W5,w4.alloc (.cells #[.string FN,.int .i64 LL,.int .u32 (P:Nat),.slice q4 idl c4] 40)=W5:=⟨_,rfl⟩;rw[hW5]at HR5 HFS5 HI5 HB5;have hs5:W5.heap.size=w4.heap.size+1:=(by rw[←hW5];simp);have r0:=HR5.out.cell (i:=0) rfl;have r1:=HR5.out.cell (i:=1) rfl;have r2:=HR5.out.cell (i:=2) rfl;have r3:=HR5.out.cell (i:=3) rfl;have HS5:=Qa hs5;have HW5:=Qa hW5;rw[←hW5]at r0 r1 r2 r3;have HPLN:Hid (ps.length≤1000):=(by show _≤_;have:=HPL.out;omega);have HOWN5:Hid ((w4.alloc (.cells #[.string FN,.int .i64 LL,.int .u32 (P:Nat),.slice q4 idl c4] 40)).ownsRow w1.heap.size 40 4 u5 ps.length (Zn ps)):=(by rw[hW5];exact HFS5.out.row);clear hal5 hb4 hi4 hq4 hW5 hs5 z0 z1 z2 z3 z4 z5;go_wp2_with (at_builtin;go_loud (refine wpList_append_own_at _ rfl (.tmp 26) (.tmp 29) 31 rfl w1.heap.size 40 iR (rcpV ⟨#[]⟩ 0 0 (.slice none 0 0)) 4 56 Tryz.underlying31 hiR zR0 zR1 zR2 rfl (by decide) _ _ _ rfl HOWN5.out ⟨w4.heap.size,0,none⟩ 1 1 [.string FN,.int .i64 LL,.int .u32 (P:Nat),.slice q4 idl c4] rfl rfl ?c1 ?c2 ?c3 ?c4 ?c5 ?_))
    case c1=>
     intro j u hj;rw[add_plain];exact Zh _ #[.string FN,.int .i64 LL,.int .u32 (P:Nat),.slice q4 idl c4] _ (by rw[←hj];simp) (by simp)
    case c2=>intro u hu;simp at hu;rcases hu with rfl|rfl|rfl|rfl<;>rfl
    case c3=>have:=HPLN.out;unfold maxLen;omega
    case c4=>have:=HPLN.out;omega
    case c5=>have h1:=HB5.out.size;have h2:=HS5.out;first|omega|(simp;omega)
    intro v6 w6 hown6 hg6 _ hv6;rw[HW5.out]at hg6;have HFS6:Hid (Va w1 w6 v6 (ps++[((f1,s),.slice q4 idl c4)])):=HFS5.out.app (q:=((f1,s),.slice q4 idl c4)) HI5.out (fun hne j hj e=>by
     have h1:=HIB.out hne j hj;have h2:=HRW.out j e;omega) hg6 (by
     rw[K5];have:Zn [((f1,s),Value.slice q4 idl c4)]=[.string FN,.int .i64 LL,.int .u32 (P:Nat),.slice q4 idl c4]:=(by rw[Zn,Zn];simp only;rw[HFN.out,HLL.out,HPP.out]);rw[this];exact hown6) (by
     rcases hv6 with h|h
     ·exact .inl h
     ·exact .inr (by rw[h];simp[HS5.out]))
    have HB6:Hid (Below w1.heap.size w1 w6):=HB5.out.trans ⟨hg6.os,hg6.tape,hg6.output,hg6.size,fun j hj=>hg6.block j (by have:=HB5.out.size;simp;omega) (fun e=>by have:=Kc HFS5.out.row e.symm;omega)⟩;have HPS6:Hid ((ps++[((f1,s),Value.slice q4 idl c4)]).map (·.1)=((NS.take (k+1)).map (fun n=>(n,(nFile st.files n).getD []))).filter (fun f=>decide (Qg f.2=(rp,rl)))):=(by show _=_;rw[List.map_append,HPS.out,HTK.out,List.map_append,List.filter_append];congr 1;simp only[List.map_cons,List.map_nil];rw[HNF.out,Option.getD_some,List.filter_cons_of_pos (by simp only[decide_eq_true_eq];exact HRP.out)];rfl);clear hown6 hg6 hv6 r0 r1 r2 r3 d0;go_wp2_with fail;go_roundw
    case rel=>exact⟨k+1,_,hlt,by go_num,HPS6.out,HFS6.out,HB6.out⟩
    case measure=>simp[intOf];omega
   all_goals
    go_region_held3 (fun w'=>w'.cell? ⟨RB,0,none⟩=some (.string FN)∧w'.cell? ⟨RB,1,none⟩=some (.int .i64 LL)∧w'.cell? ⟨RB,2,none⟩=some (.int .u32 (P:Nat))∧w'.cell? ⟨RB,3,none⟩=some (.slice pv0 idl cv0)∧w'.cell? ⟨w.heap.size,0,none⟩=some (.int .u32 (xp:Nat))∧w'.cell? ⟨w.heap.size,1,none⟩=some (.int .i64 xl)) (first|exact HCE.out _ HBR3.out HBX3.out|go_keep) (first
     | (go_at_call 96;refine(HREP.out _ (HI1.out.below (Below.refl _ W2).drew)).mono ?_;rintro e w3 ⟨rfl,hb3⟩;have hB3:Below W2.heap.size W2 w3:=(Below.refl _ W2).drew.trans hb3;have HBR3:=Qa (HBR.out.next hB3);have HBX3:=Qa (HBX2.out.next hB3);have HFS3:=Qa (HFS2.out.next hB3);have HB3:Hid (Below w1.heap.size w1 w3):=Qa (HB2.out.trans (hB3.mono HB2.out.size));clear hb3 hB3))
    have HNE:Hid ((rp,rl)≠(xp,xl)):=fun e=>by obtain⟨e1,e2⟩:=Prod.mk.inj e;subst e1 e2;simp at *
    have HPS6:Hid (ps.map (·.1)=((NS.take (k+1)).map (fun n=>(n,(nFile st.files n).getD []))).filter (fun f=>decide (Qg f.2=(xp,xl)))):=(by show _=_;rw[HPS.out,HTK.out,List.map_append,List.filter_append];simp only[List.map_cons,List.map_nil];rw[HNF.out,Option.getD_some,List.filter_cons_of_neg (by simp only[decide_eq_true_eq];rw[HRP.out];exact HNE.out),List.filter_nil,List.append_nil]);go_wp2_with fail;go_roundw
    case rel=>exact⟨k+1,ps,hlt,by go_num,HPS6.out,HFS3.out,HB3.out⟩
    case measure=>simp[intOf];omega
  ·have hge:(NS.length:Int)≤(k:Int):=(by omega);have hke:NS.take k=NS:=List.take_of_length_le (by omega);rw[hke]at HPS;clear hke;go_wp2_with fail;go_ret;refine⟨_,(NS.map (fun n=>(n,(nFile st.files n).getD []))).filter (fun f=>decide (Qg f.2=(xp,xl))),rfl,HPE.out.filter _,?_,?_,(HB0.out.trans (HB1.out.mono HB0.out.size)).trans (HB.out.mono (Nat.le_trans HB0.out.size HB1.out.size))⟩
   ·refine List.Pairwise.filter _ ?_;rw[List.pairwise_map];exact HS2.out
   ·rw[←HPS.out,List.map_map];exact HFS.out.at
theorem Qc2 {U:Int}(hU:U≤1000000)(a:Nat→Addr)(p:Addr)(F:Nat→Prop)(st:NSt)(xp:Nat)(xl:Int)(l:List Hd)(w:World)(hx:Zv (xp,xl))(hfl:∀f∈st.files,f.2.length≤4000)(hlo:∀f∈st.files,Gv (rcpOf f))(hn:st.files.length≤1000)(hb:Zi st.bins (xp,xl)=some l)(hok:Qd U l)(hE:J6 w a)(hp:Y9 w)(hP:Q9 w p F st) :
 Calls Tryz.prog 38 #[.pointer (some p),idV (xp:Nat) xl] w fun e w'=>∃fl:List Qz,e=.returned (.tuple #[.string ⟨(Ql (fl.map rcpOf) l).toArray⟩,.nilIface])∧fl.Perm (st.files.filter fun f=>decide (Qg f.2=(xp,xl)))∧fl.Pairwise (fun f g=>f.1<g.1)∧Below w.heap.size w w':=by
 have HPW:Hid (∀W,Below w.heap.size w W→Y9 W):=fun W hb=>hp.below hb wz;have HE:Hid (∀W,Below w.heap.size w W→J6 W a):=fun W hb=>hE.below hb wz;have hal0:=(Below.refl _ w).alloc wz (.cells #[.int .u32 (xp:Nat),.int .i64 xl] 25);have HBX0:=Qa (Blk.new w #[.int .u32 (xp:Nat),.int .i64 xl] 25);have HB0:=Qa hal0;have HP0:=Qa (hP.below hal0);have HX:=Qa hx;have HFL:=Qa hfl;have HLN:=Qa hlo;have HN:=Qa hn;have HOK:=Qa hok;have HBN:=Qa (Gm (xp,xl) p F st _ hx (hP.below hal0));rw[hb]at HBN;have x0:=HBX0.out.cell (i:=0) rfl;have x1:=HBX0.out.cell (i:=1) rfl;clear hx hfl hlo hn hb hok hE hp hP hal0;go_enter Tryz.func38,Tryz.ntmps38;go_wp2_with fail;generalize w.alloc (.cells #[.int .u32 (xp:Nat),.int .i64 xl] 25)=W0 at *;refine HBN.out.mono ?_;intro e w1 hpost;unfold Qi4 at hpost;obtain⟨⟨q,Fq,rfl,hq,_⟩,hb1⟩:=hpost;clear x0 x1;have HQ:Hid (Q0 w1 q Fq l):=hq;have HBX1:=Qa (HBX0.out.next hb1);have HP1:=Qa (HP0.out.below hb1);have HB1:=Qa (HB0.out.trans (hb1.mono HB0.out.size));have x0:=HBX1.out.cell (i:=0) rfl;have x1:=HBX1.out.cell (i:=1) rfl;clear hb1;go_wp2_with fail;refine(Qbl p F st xp xl w1 HFL.out HN.out HP1.out).mono ?_;rintro e w2 ⟨vf,fl,rfl,hfp,hfs,hfr,hb2⟩;have HFP:=Qa hfp;have HFS:=Qa hfs;have HFR:=Qa hfr;have HB2:=Qa (HB1.out.trans (hb2.mono HB1.out.size));have HQ2:=Qa (HQ.out.off (Off.of_below (F:=fun _=>False) hb2) (fun _ _ h=>h));clear x0 x1 hb2 hfp hfs hfr;go_wp2_with fail;refine(Qrz q Fq l w2 HOK.out HQ2.out).mono ?_;rintro e w3 ⟨va,rfl,hva,hb3⟩;have HVA:=Qa hva;have HFR3:=Qa (HFR.out.below hb3);have HB3:=Qa (HB2.out.trans (hb3.mono HB2.out.size));obtain⟨pf,cf,nf,rfl⟩:∃pf cf nf,vf=.slice pf nf cf:=by obtain⟨p',c',h1,_⟩:=HFR3.out;exact⟨p',c',_,h1⟩
 obtain⟨pv,cv,nv,rfl⟩:∃pv cv nv,va=.slice pv nv cv:=by obtain⟨p',c',h1,_⟩:=HVA.out;exact⟨p',c',_,h1⟩
 clear hva hb3;go_wp2_with fail;refine(Qj4 a (.slice pf nf cf) (.slice pv nv cv) (fl.map rcpOf) l w3 (by rw[List.length_map,HFP.out.length_eq];exact Nat.le_trans (List.length_filter_le _ _) HN.out) (fun r hr=>by obtain⟨f,hf,rfl⟩:=List.mem_map.1 hr;exact HLN.out f (List.mem_filter.1 (HFP.out.mem_iff.1 hf)).1) (HOK.out.textU hU) HFR3.out HVA.out (HE.out _ HB3.out) (HPW.out _ HB3.out)).mono ?_;rintro e w4 ⟨rfl,hb4⟩;have HB4:=Qa (HB3.out.trans (hb4.mono HB3.out.size));obtain⟨T,hT⟩:∃T:ByteArray,(⟨(Ql (fl.map rcpOf) l).toArray⟩:ByteArray)=T:=⟨_,rfl⟩;rw[hT];have HT:=Qa hT;clear hb4 hT;go_wp2_with fail;refine(Qkw w4).mono ?_;rintro e w5 ⟨rfl,hb5⟩;have HB5:=Qa (HB4.out.trans (hb5.mono HB4.out.size));clear hb5;go_wp2_with fail;go_ret2;refine⟨fl,?_,HFP.out,HFS.out,HB5.out⟩;rw[HT.out];rfl
theorem q8 (l:List UInt8):(⟨l.toArray⟩:ByteArray).data.toList=l:=rfl
theorem parr_size (l:List UInt8):(⟨l.toArray⟩:ByteArray).size=l.length:=by show l.toArray.size=l.length;simp
theorem Qpp {U:Int}(hU:U≤900000){x:Nat×Int}{fl:List Qz}{l:List Hd}(h:Qbh U x fl l)(hl:(Ql (fl.map rcpOf) l).length≤40000) :
 Ye (Ql (fl.map rcpOf) l)=0∧(Gy ((Ql (fl.map rcpOf) l).take ((Ql (fl.map rcpOf) l).length - 8))).1=fl.map rcpOf∧(readsOf (Gy ((Ql (fl.map rcpOf) l).take ((Ql (fl.map rcpOf) l).length - 8))).2.1).1=l:=by
 have hok:Qd U l:=h.ok.bins _ (List.mem_singleton.2 rfl);have hf:∀r∈fl.map rcpOf,Gv r:=fun r hr=>by obtain⟨f,hf,rfl⟩:=List.mem_map.1 hr;exact Qdl f (h.ok.files f hf).1 (h.ok.files f hf).2
 have hn:(fl.map rcpOf).length≤30:=by rw[List.length_map];exact h.full.fmany
 obtain⟨h1,h2,_⟩:=Jy (fl.map rcpOf) l;have hb:(Qu l).length≤40000:=by
  have:(loadBody (fl.map rcpOf) l).length=(Ky (fl.map rcpOf).length (Qu l).length).length+(Zo (fl.map rcpOf)).length+(Qu l).length:=by unfold loadBody;rw[List.length_append,List.length_append]
  omega
 obtain⟨t1,t2,_⟩:=Qvj (U:=U) (by omega) hf hn hok hb;refine⟨Qmr (U:=U) (by omega) hf hn hok hl,?_,?_⟩
 ·rw[h2,t1]
 ·rw[h2,t2,Qda (U:=U) (by omega) hok hb]
theorem Qgx {U:Int}(hU:U≤900000)(a:Nat→Addr)(m:Int)(fl:List Qz)(l:List Hd)(x:Nat×Int)(N mf mb:Nat)(vi:List UInt8→Value)(pi:Nat×Int→Addr)(Fi:Nat×Int→Nat→Prop)(fs:List Rcp)(bs:List Qr)(w:World)(h:Qbh U x fl l)(ho:fl.Pairwise (fun f g=>f.1<g.1))(hl:(Ql (fl.map rcpOf) l).length≤40000)(hE:J6 w a)(hm:w.cell? ⟨14,0,none⟩=some (.int .i64 m))(hsl:fs.length≤1000)(hbsl:bs.length≤1000)(hN:Js w N mf mb vi pi Fi fs bs) :
 Calls Tryz.prog 39 #[.pointer (some ⟨N,0,none⟩),.string ⟨(Ql (fl.map rcpOf) l).toArray⟩] w (Qca a (0,-1) w N mf mb vi Fi fs bs (fl.map rcpOf) l):=by
 obtain⟨t1,t2,t3⟩:=Qpp hU h hl;have hok:Qd U l:=h.ok.bins _ (List.mem_singleton.2 rfl);have hs:(⟨(Ql (fl.map rcpOf) l).toArray⟩:ByteArray).size=(Ql (fl.map rcpOf) l).length:=parr_size _;refine Qn6 (0,-1) a ⟨(Ql (fl.map rcpOf) l).toArray⟩ m (fl.map rcpOf) l N mf mb vi pi Fi fs bs w (by omega) hE hm t1 (by rw[hs,q8];exact t2) (by rw[hs,q8];exact t3) (Qpo a w hE h ho) (by rw[List.length_map];have:=h.full.fmany;simp only at this;omega) (fun r hr => ?_) (fun r hr => ?_) (fun r hr => ?_) ?_ (by have:=hok.many;omega) (fun y hy=>Qiy hok hy) (fun y hy=>by have:=(hok.each y hy).2.1;omega) hsl hbsl hN
 ·obtain⟨f,hf,rfl⟩:=List.mem_map.1 hr;have:=Vu (h.ok.files f hf).2;show f.1.length≤50000;omega
 ·obtain⟨f,hf,rfl⟩:=List.mem_map.1 hr;show(idsOf f.2).length≤1000;rw[X6];have:=U9 _ (h.ok.files f hf).1;omega
 ·obtain⟨f,hf,rfl⟩:=List.mem_map.1 hr;exact Gi f.2
 ·rw[List.pairwise_map];exact ho.imp fun {f g} hfg e=>by have hfg':f.1<g.1:=hfg;have e':f.1=g.1:=e;rw[e']at hfg';exact absurd hfg' (List.lt_irrefl _)
theorem Qlj {U:Int}{x:Nat×Int}{fl:List Qz}{l:List Hd}(h:Qbh U x fl l):U7 (fl.map rcpOf)=x:=by
 obtain⟨f,q,hfq⟩:=List.exists_cons_of_ne_nil h.ne;have:=h.rep f (by rw[hfq];exact List.mem_cons_self ..);rw[hfq];exact this
theorem Qlv {a:Nat→Addr}{ev:Value}(h:qb a ev 6):ev=sentV a 5:=by
 rcases h with⟨h,_⟩|⟨i,_,h,e⟩
 ·cases h
 ·obtain rfl:i=5:=by omega
  exact e
theorem Qcz {U:Int}(hU:U≤900000)(a:Nat→Addr)(m:Int)(fl:List Qz)(l:List Hd)(x:Nat×Int)(p:Addr)(F:Nat→Prop)(w:World)(h:Qbh U x fl l)(ho:fl.Pairwise (fun f g=>f.1<g.1))(hl:(Ql (fl.map rcpOf) l).length≤40000)(hE:J6 w a)(hm:w.cell? ⟨14,0,none⟩=some (.int .i64 m))(hP:Q9 w p F ⟨[],[]⟩) :
 Calls Tryz.prog 39 #[.pointer (some p),.string ⟨(Ql (fl.map rcpOf) l).toArray⟩] w fun e w'=>∃v F',e=.returned (.tuple #[v,.nilIface])∧w'.ownsRow w.heap.size 9 1 v fl.length (fl.map fun f=>encStr f.1)∧Q9 w' p F' ⟨fl.reverse,[(x,l)]⟩∧(∀k,F' k→F k∨w.heap.size≤k)∧Off F w w':=by
 obtain⟨N,mf,mb,vi,pi,Fi,rfl,hN,rfl⟩:=hP;refine(Qgx hU a m fl l x N mf mb vi pi Fi [] [] w h ho hl hE hm (by simp) (by simp) hN.toR).mono ?_;intro e w' hpost;unfold Qca at hpost;have hx:=Qlj h;have hc:inC (0,-1) [] [] (fl.map rcpOf) l=0:=by unfold inC;rw[Qiq h,hx,Qt1 h];rfl
 rw[hc,hx]at hpost;obtain⟨v,ev,rfl,hev,_,hok⟩:=hpost;obtain⟨hrow,hoff,vi',pi',Fi',hn',hf'⟩:=hok rfl;obtain rfl:=hev.nil;have e1:(fl.map rcpOf).reverse++[]=fl.reverse.map rcpOf:=by rw[List.append_nil,List.map_reverse]
 rw[e1]at hn' hf';refine⟨v,_,rfl,?_,hn'.node,fun k hk => ?_,hoff.mono fun k _ hk => ?_⟩
 ·rw[List.length_map,List.map_map]at hrow;exact hrow
 ·rcases hf' k hk with h1|h1
  ·exact .inl ((Qa1 (fl:=[])).1 h1)
  ·exact .inr h1
 ·rcases hk with rfl|rfl
  ·exact .inr (.inl rfl)
  ·exact .inr (.inr (.inl rfl))
theorem Qju {U:Int}(hU:U≤900000)(a:Nat→Addr)(m:Int)(fl:List Qz)(l:List Hd)(x:Nat×Int)(p:Addr)(F:Nat→Prop)(st:NSt)(w:World)(h:Qbh U x fl l)(ho:fl.Pairwise (fun f g=>f.1<g.1))(hl:(Ql (fl.map rcpOf) l).length≤40000)(hE:J6 w a)(hm:w.cell? ⟨14,0,none⟩=some (.int .i64 m))(hsl:st.files.length≤1000)(hbl:st.bins.length≤1000)(hb:∃b∈st.bins,b.1=x)(hP:Q9 w p F st) :
 Calls Tryz.prog 39 #[.pointer (some p),.string ⟨(Ql (fl.map rcpOf) l).toArray⟩] w fun e w'=>e=.returned (.tuple #[.slice none 0 0,sentV a 5])∧Below w.heap.size w w':=by
 obtain⟨N,mf,mb,vi,pi,Fi,rfl,hN,rfl⟩:=hP;refine(Qgx hU a m fl l x N mf mb vi pi Fi (st.files.map rcpOf) st.bins w h ho hl hE hm (by rw[List.length_map];exact hsl) hbl hN.toR).mono ?_;intro e w' hpost;unfold Qca at hpost;have hc:inC (0,-1) (st.files.map rcpOf) st.bins (fl.map rcpOf) l=6:=by unfold inC;rw[Qiq h,Qlj h,Qq1 hb];rfl
 rw[hc]at hpost;obtain⟨v,ev,rfl,hev,hbad,_⟩:=hpost;obtain⟨rfl,hbw⟩:=hbad (by decide);obtain rfl:=Qlv hev;exact⟨rfl,hbw⟩
def Qcw {β:Type}(B:Nat)(J:β→World→Prop):Prop:=
 ∀s W W' row,J s W→W.grownBy W' row→(∀r,row=some r→B≤r∧∃o:Obj,W.heap[r]? = some o∧o.isWalk=true)→J s W'
def Qvu {α:Type}(F:Fence)(n:Nat)(P:Program)(g:Nat)(lb:Array Value)(encs:α→Array Value)(S:List α→Prop)(N:Nat)(w:World):Prop:=
 ∀(l:Nat) (J:List α→World→Prop) (W:World),Below w.heap.size w W→Qcw W.heap.size J →
  (∀pre x W1,J pre W1→pre.length<N→YieldAt F (n - 1) P l (encs x) W1 fun e W'=>e=.returned (.bool true)∧J (pre++[x]) W'∧KeepsWalks W1 W') →
  J [] W→CallsIn F n P g (#[.func (.yield l) #[] #[]]++lb) W fun e W'=>(∃v,e=.returned v)∧∃xs,S xs∧J xs W'
theorem Qmq {α:Type}{F:Fence}{n:Nat}{P:Program}{g:Operand}{ps:Array Tmp}{assign body:Code}{Q:Exit→Act→World→Prop}{a:Act}{w:World}
 (hro:F.round=none)(h1:1≤n){gf:Nat}{lb:Array Value}(hg:a.eval g=.func (.func gf) #[] lb)(hFg:F.fn gf)(eg:∀args w,(callFunc gf args).run P w=.ok (.enter gf args) w)
 {encs:α→Array Value}{S:List α→Prop}{N:Nat}{w0:World}(hseq:Qvu F (n - 1) P gf lb encs S N w0)
 (hb0:Below w0.heap.size w0 w)(hps:∀x,(encs x).size=ps.size)
 (I:List α→World→Prop)(hI:Qcw w.heap.size I)(hIp:∀pre A l o o',w.heap.size≤l→I pre A→A.heap[l]? = some o→o.isCells=false→I pre (A.putObj l o'))(h0:I [] w)
 (Ax:α→Act→World→Prop)(hAx:∀x a' A l o,(∃r,A.heap[l]? = some (.loop r))→Ax x a' A→Ax x a' (A.putObj l o))
 (hassign:∀(l:Nat) (pre:List α) (x:α) (W:World) (K:Act→World→Prop),I pre W→(∀a' W',KeepsOthers W W'→I pre W'→Ax x a' W'→K a' W') →
  assign.wpIn (F.inRound l) (n - 1 - 1) P (Exit.then K (fun _ _ _=>False)) { tmps:=(ps.zip (encs x)).foldl (fun t (p,v)=>t.setIfInBounds p v) a.tmps,defers:=[] } W)
 (hbody:∀(l:Nat) (pre:List α) (x:α) (a':Act) (W:World),I pre W→Ax x a' W→pre.length<N→body.wpIn (F.inRound l) (n - 1 - 1) P (fun e _ W'=>e=.normal∧KeepsOthers W W'∧I (pre++[x]) W') a' W)
 (hdone:∀(D:Nat) (xs:List α) (W:World),w.heap.size≤D→S xs→I xs W→W.heap[D]? = some (.deferred (some []))→Q .normal { a with defers:={ target:=.collected D,args := #[] }::a.defers } W) :
 (Code.rangeFunc g ps assign body).wpIn F n P Q a w:=by
 refine wpIn_rangeFunc ?_;intro fn hfn;rw[hro];obtain⟨lp,hlp⟩:∃lp:LoopState→Loop,lp=fun st=>{ state:=st,pending:=none,fn,tmps:=a.tmps,params:=ps,assign,body,defers:=w.heap.size }:=⟨_,rfl⟩;obtain⟨V,hV⟩:∃V,(w.alloc (.deferred (some []))).alloc (.loop (lp .ready))=V:=⟨_,rfl⟩;have hVs:V.heap.size=w.heap.size+2:=by rw[←hV];simp
 have hVl:V.heap[w.heap.size+1]? = some (.loop (lp .ready)):=by rw[←hV];have:=World.alloc_heap_new (w.alloc (.deferred (some []))) (.loop (lp .ready));rwa [World.size_alloc]at this
 have hVd:V.heap[w.heap.size]? = some (.deferred (some [])):=by rw[←hV];exact(Below.heap_alloc _ _ _ (by simp)).trans (World.alloc_heap_new w _)
 have hVb:Below w.heap.size w V:=by rw[←hV];exact((Below.refl _ w).alloc wz _).alloc (by simp) _
 have hVI:I [] V:=hI [] w V none h0 ⟨hVb.os,hVb.tape,hVb.output,hVb.size,fun k hk _=>hVb.block k hk⟩ (fun r e=>by cases e);refine⟨w.heap.size+1,[{ target:=.collected w.heap.size,args := #[] }],V,{ target:=.fn (.func gf) lb,args := #[.func (.yield (w.heap.size+1)) #[] #[]] },V,gf,
  #[.func (.yield (w.heap.size+1)) #[] #[]]++lb,V,?_,?_,?_,?_,fun _=>h1,?_⟩
 ·rw[←hV,hlp];exact run_enterLoop_outer _ _ _ _ _
 ·simp only[resolve,hg];simp[go_sem]
 ·intro f' hf';simp[Target.leads]at hf';subst hf';exact hFg
 ·simp[invoke,go_sem,eg]
 refine(hseq (w.heap.size+1) (fun pre W=>I pre W∧W.heap[w.heap.size+1]? = some (.loop (lp .ready))∧W.heap[w.heap.size]? = some (.deferred (some []))) V (hb0.trans (hVb.mono hb0.size))
  (fun s A B row h hg hrow=>⟨hI s A B row h.1 hg (fun r e=>⟨by have:=(hrow r e).1;omega,(hrow r e).2⟩),(grownBy_keeps hg (fun r e=>(hrow r e).2) h.2.1 rfl).trans h.2.1,(grownBy_keeps hg (fun r e=>(hrow r e).2) h.2.2 rfl).trans h.2.2⟩) ?_ ⟨hVI,hVl,hVd⟩).mono ?_
 ·rintro pre x W ⟨hi,hl,hd⟩ hlen;have hlt:w.heap.size+1<W.heap.size:=(Array.getElem?_eq_some_iff.1 hl).1;have hy:=run_yield (P:=P) (args:=encs x) hl (by rw[hlp];exact hps x);rw[hlp]at hy;refine⟨fn,_,assign,body,hy,roundIn_of_wpIn hfn (hassign _ pre x W _ hi ?_)⟩;clear hy;intro a' Wa hka hia hax;have hla:=hka.same _ _ hl rfl;have hda:=hka.same _ _ hd rfl;have hlta:w.heap.size+1<Wa.heap.size:=(Array.getElem?_eq_some_iff.1 hla).1;refine⟨_,run_beginRound hla (by rw[hlp]),?_⟩;refine wpIn_mono (hbody _ pre x a' _ (hIp _ _ _ _ _ (by omega) hia hla rfl) (hAx x a' Wa _ _ ⟨_,hla⟩ hax) hlen) ?_;rintro e a3 W3 ⟨rfl,hkb,hi3⟩;have hlb:=hkb.same _ _ (World.putObj_heap_same hlta) rfl;have hdb:=hkb.same _ _ ((World.putObj_heap_other (w:=Wa) (r:=w.heap.size+1) (k:=w.heap.size) (by omega)).trans hda) rfl;have hr:=run_endRound (P:=P) none hlb;have hlt3:w.heap.size+1<W3.heap.size:=(Array.getElem?_eq_some_iff.1 hlb).1;refine⟨_,_,hr,rfl,⟨hIp _ _ _ _ _ (by omega) hi3 hlb rfl,?_,(World.putObj_heap_other (by omega)).trans hdb⟩,?_⟩
  ·rw[World.putObj_heap_same hlt3,hlp];rfl
  ·refine⟨?_,fun b o hb hw => ?_⟩
   ·have h1:=hka.size;have h2:=hkb.size;simp at h2 ⊢;omega
   ·have hbl:b≠w.heap.size+1:=fun e=>by subst e;rw[hl]at hb;cases hb;cases hw
    have hnc:o.isCells=false:=(by cases o<;>first|rfl|cases hw);exact(World.putObj_heap_other hbl).trans (hkb.same _ _ ((World.putObj_heap_other hbl).trans (hka.same _ _ hb hnc)) hnc)
 ·rintro e W2 ⟨⟨v,rfl⟩,xs,hS,hi,hl,hd⟩;have he:=run_endLoop (P:=P) hl (by rw[hlp];simp);rw[hlp]at he;exact⟨none,_,he,hdone _ xs _ wz hS (hIp _ _ _ _ _ (by omega) hi hl rfl) ((World.putObj_heap_other (by omega)).trans hd)⟩
section
variable {F:Fence} {nF:Nat} {P:Program} {k:TypeId} {κ β:Type}
variable {ops:Array Oper} {rest:List Oper} {o:Oper} {a:Act} {Q:Exit→Act→World→Prop}
theorem wpIn_range_kit [DecidableEq κ](M:Qf P k κ β)(w:World)(hg:o.guard=none)(m:Operand)(t:TypeId)(hop:o.op=Op.range t m)(e:TypeId)(ht:P.underlying t=some (.map k e))(b:Nat)(l:List (κ×β))(hm:a.eval m=.map (some b))(h:M.Of w b l)
 (hK:∀w',M.Rng w' b w.heap.size l (fun x=>decide (x∈l.map (·.1))) l.length→w.grownBy w' none→w'.heap.size=w.heap.size+1→wpListIn F nF P ops Q rest (a.put o.dst (.pointer (some ⟨w.heap.size,0,none⟩))) w') :
 wpListIn F nF P ops Q (o::rest) a w:=by
 obtain⟨ds,ho,hp⟩:=h.own;refine wpListIn_range_own w hg m t hop k e M.K ht M.R b ds.length (.map ds) hm ho fun w' hr hgr hs=>hK w' ⟨⟨ds,ds.length,Maps.has (DataW.map ds),?_,hp,fun x hx => ?_⟩,h.wf⟩ hgr hs
 ·have e:Maps.size (DataW.map ds)=l.length:=by show ds.length=_;rw[hp.length_eq,List.length_map]
  rw[←e];exact hr
 ·rw[Bool.eq_iff_iff,Maps.has_eq,List.any_eq_true,decide_eq_true_eq];constructor
  ·rintro⟨p,hm,hs⟩;obtain⟨y,hy,rfl⟩:=List.mem_map.1 (hp.mem_iff.1 hm);have hxy:y.1=x:=M.kl_inj (h.wf y hy) hx (WideAt.sameKey_eq hs);exact List.mem_map.2 ⟨y,hy,hxy⟩
  ·intro hm;obtain⟨y,hy,rfl⟩:=List.mem_map.1 hm;exact⟨M.ent y,hp.mem_iff.2 (List.mem_map.2 ⟨y,hy,rfl⟩),WideAt.sameKey_self (M.isKey hx)⟩
theorem wpIn_next_kit [DecidableEq κ](M:Qf P k κ β)(w:World)(hg:o.guard=none)(it:Operand)(hop:o.op=Op.next it false)(b r:Nat)(l:List (κ×β))(left:κ→Bool)(cnt:Nat)(hit:a.eval it=.pointer (some ⟨r,0,none⟩))(h:M.Rng w b r l left cnt)
 (hDone:(∀h∈l,left h.1=false)→wpListIn F nF P ops Q rest (a.put o.dst (.tuple #[.bool false])) w)
 (hMore:∀(x:κ) (c:β) (w':World) (cnt':Nat),(x,c)∈l→left x=true→M.Rng w' b r l (fun y=>left y && !decide (y=x)) cnt'→cnt'<cnt→w.grownBy w' (some r)→w'.heap.size=w.heap.size →
  (Instr.entry (.pointer (some ⟨r,0,none⟩))).run P w'=.ok (.tuple #[M.mkK x,M.mkV c]) w'→wpListIn F nF P ops Q rest (a.put o.dst (.tuple #[.bool true,M.mkK x,M.mkV c])) w') :
 wpListIn F nF P ops Q (o::rest) a w:=by
 obtain⟨ds,n,lf,hr,hp,hl⟩:=h.at';refine wpListIn_next_ranges w hg it hop k M.K M.R M.mkK M.mkV (fun key kl hk => ?_) (fun v y hv => ?_) b r n (.map ds) lf cnt hit hr (fun _ h0=>hDone (fun y hy=>by rw[←hl _ (h.wf y hy)];exact h0 _)) ?_
 ·obtain⟨x,_,rfl⟩:=M.inv key kl hk;exact⟨x,rfl⟩
 ·obtain⟨c,rfl,_⟩:=M.R_inv hv;exact⟨c,rfl⟩
 ·intro x c kl y w' cnt' hkey hlk hv hat hrg hlt hgr hsz hen;obtain⟨x',hx',e⟩:=M.inv _ _ hkey;obtain rfl:=M.inj _ _ e;have ekl:kl=M.kl x:=Option.some.inj (hkey.symm.trans (M.key_kl hx'));subst ekl;have ey:y=(.held (M.mkV c),[]):=by rw[M.R_mk]at hv;exact(Option.some.inj hv).symm
  have hm:(x,c)∈l:=by have hh:=Maps.has_true_of_atKey (fun z=>hat z);rw[Maps.has_eq,List.any_eq_true]at hh;obtain⟨p,hpm,hs⟩:=hh;obtain⟨q,hq,rfl⟩:=List.mem_map.1 (hp.mem_iff.1 hpm);have hqx:q.1=x:=M.kl_inj (h.wf q hq) hx' (WideAt.sameKey_eq hs);obtain⟨es,e,hap,_⟩:=hr.owns.entries M.K;cases e;have h2:=WideAt.atKey_mem (DataW.nil) (M.isKey (h.wf q hq)) hap hpm;have h3:=hat DataW.nil;rw[←hqx,h2,ey]at h3;have h4:M.mkV q.2=M.mkV c:=DataW.held.inj h3;have h5:q.2=c:=(by have:=M.un q.2;rw[h4,M.un]at this;exact(Option.some.inj this).symm);rw[←hqx,←h5];exact hq
  refine hMore x c w' cnt' hm (by rw[←hl x hx'];exact hlk) ⟨⟨ds,n,_,hrg,hp,fun z hz => ?_⟩,h.wf⟩ hlt hgr hsz hen;rw[hl z hz,M.same hz hx']
theorem Qf.Rng.of_walks {M:Qf P k κ β}{w w':World}{b r:Nat}{l:List (κ×β)}{left:κ→Bool}{cnt:Nat}(h:M.Rng w b r l left cnt)(hk:KeepsWalks w w'):M.Rng w' b r l left cnt:=by
 obtain⟨ds,n,lf,h1,hp,hl⟩:=h.at';exact⟨⟨ds,n,lf,h1.of_walks hk,hp,hl⟩,h.wf⟩
theorem Qf.Rng.iter_walk {M:Qf P k κ β}{w:World}{b r:Nat}{l:List (κ×β)}{left:κ→Bool}{cnt:Nat}(h:M.Rng w b r l left cnt):∃o:Obj,w.heap[r]? = some o∧o.isWalk=true:=by
 obtain⟨ds,n,lf,h1,hp,hl⟩:=h.at';exact h1.iter_walk
end
end Go.Proofs.YtjngnnbondejaabGreatDoor
