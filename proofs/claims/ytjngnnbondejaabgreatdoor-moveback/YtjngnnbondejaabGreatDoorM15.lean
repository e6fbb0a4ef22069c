/- A part. -/
import Derived.Test.YtjngnnbondejaabGreatDoorM14
import Derived.WideKeyEntry
set_option maxHeartbeats 8000000
set_option maxRecDepth 100000
namespace Go.Proofs.YtjngnnbondejaabGreatDoor
open Go.RowKit
def Xu:List (List UInt8)→Option Qhf
 | nm::ln::pr::rs=>match lenR ln,unhex8 pr,Ze rs with
  | some n,some p,some ids=>some (nm,n,p,ids)
  | _,_,_=>none
 | _=>none
theorem Kw {nm ln pr:List UInt8}{rs:List (List UInt8)}{n:Int}{p:Nat}{ids:List (Nat×Int)}(h1:lenR ln=some n)(h2:unhex8 pr=some p)(h3:Ze rs=some ids):Xu (nm::ln::pr::rs)=some (nm,n,p,ids):=by
 simp only[Xu,h1,h2,h3]
theorem Qb7 {nm ln pr:List UInt8}{rs:List (List UInt8)}(h:lenR ln=none):Xu (nm::ln::pr::rs)=none:=by
 simp only[Xu,h]
theorem Qbx {nm ln pr:List UInt8}{rs:List (List UInt8)}(h:unhex8 pr=none):Xu (nm::ln::pr::rs)=none:=by
 simp only[Xu,h];cases lenR ln<;>rfl
theorem Qb6 {nm ln pr:List UInt8}{rs:List (List UInt8)}(h:Ze rs=none):Xu (nm::ln::pr::rs)=none:=by
 simp only[Xu,h];cases lenR ln<;>cases unhex8 pr<;>rfl
theorem Qdg:∀{ws:List (List UInt8)},ws.length<3→Xu ws=none
 | [],_=>rfl
 | [_],_=>rfl
 | [_,_],_=>rfl
 | _::_::_::_,h=>by simp at h;omega
theorem Qe0 {nm:List UInt8}{n:Int}{ids:List (Nat×Int)}(h:Qb nm n ids=(0,-1)):0≤n∧n≤4000:=(Yc h).2.1
theorem Qk5 (t:List UInt8):(Qs t).2=(0,-1)↔∃d:Qhf,Xu (cutBy 32 t)=some d∧Qb d.1 d.2.1 d.2.2.2=(0,-1):=by
 constructor
 ·intro h;obtain⟨nm,ln,pr,rs,n,p,ids,hc,h1,h2,h3,hf,hrr⟩:=Qgo h;exact⟨(nm,(n:Int),p,ids),by rw[hc];exact Kw (Qoq h1) h2 h3,hf⟩
 ·rintro⟨⟨nm,n,p,ids⟩,hw,hf⟩;have hb:=Qe0 hf;rcases hc:cutBy 32 t with _|⟨a,_|⟨b,_|⟨c,rs⟩⟩⟩
  ·rw[hc]at hw;cases hw
  ·rw[hc]at hw;cases hw
  ·rw[hc]at hw;cases hw
  ·rw[hc]at hw;cases h1:lenR b with
   | none=>rw[Qb7 h1]at hw;cases hw
   | some n'=>
    cases h2:unhex8 c with
    | none=>rw[Qbx h2]at hw;cases hw
    | some p'=>
     cases h3:Ze rs with
     | none=>rw[Qb6 h3]at hw;cases hw
     | some ids'=>
      rw[Kw h1 h2 h3]at hw;obtain⟨rfl,rfl,rfl,rfl⟩:a=nm∧n'=n∧p'=p∧ids'=ids:=(by simpa using hw);have h6:=Qrr h1 hb.1 hb.2;rw[Gc hc h6 h2 h3,Int.toNat_of_nonneg hb.1,if_pos hf]
def Qdv (a:Nat→Addr)(w:World)(o:Option Qhf)(e:Ending)(w':World):Prop:=
 match o with
 | some d=>∃v,e=.returned (.tuple #[qg d v,.nilIface])∧Zb w.heap.size w' v d.2.2.2∧Below w.heap.size w w'
 | none=>e=.returned (.tuple #[rcpV ⟨#[]⟩ 0 0 (.slice none 0 0),sentV a 0])∧Below w.heap.size w w'
theorem Qev (a:Nat→Addr)(pw:Option Addr)(n c:Nat)(hn:n<3)(w:World)(hg:w.cell? ⟨4,0,none⟩=some (sentV a 0)) :
 Calls Tryz.prog 309 #[.slice pw n c] w fun e w'=>Qdv a w none e w':=by
 have hn':(n:Int)<3:=by omega
 have hg':∀o,(w.alloc o).cell? ⟨4,0,none⟩=some (sentV a 0):=fun o=>(((Below.refl _ w).alloc wz o).cell (p:=⟨4,0,none⟩) (lt_of_cell hg)).trans hg;have g1:=hg' (.cells #[.string ⟨#[]⟩,.int .i64 0,.int .u32 0,.slice none 0 0] 40);have hal:=(Below.refl _ w).alloc wz (.cells #[.string ⟨#[]⟩,.int .i64 0,.int .u32 0,.slice none 0 0] 40);have HB0:=Qa hal;have HR:=Qa (Blk.new w #[.string ⟨#[]⟩,.int .i64 0,.int .u32 0,.slice none 0 0] 40);have hlt:=HR.out.lt;have r0:=HR.out.cell (i:=0) rfl;have r1:=HR.out.cell (i:=1) rfl;have r2:=HR.out.cell (i:=2) rfl;have r3:=HR.out.cell (i:=3) rfl;have f0:=HR.out.frozen 0;have f1:=HR.out.frozen 1;have f2:=HR.out.frozen 2;have f3:=HR.out.frozen 3;have hgl:4<w.heap.size:=lt_of_cell hg;clear hg hg' hal hn;go_enter Tryz.func309,Tryz.ntmps309;go_wp2_with fail;generalize w.alloc (.cells #[.string ⟨#[]⟩,.int .i64 0,.int .u32 0,.slice none 0 0] 40)=W at *;go_region
 all_goals go_wp2_with fail
 all_goals refine bodyPost_ret (v:=.tuple #[rcpV ⟨#[]⟩ 0 0 (.slice none 0 0),sentV a 0]) (by simp[results,Tryz.results309,go_sem,r0,r1,r2,r3]) rfl ⟨rfl,?_⟩
 all_goals exact(((((HB0.out.setCell (p:=⟨w.heap.size,0,none⟩) wz _).setCell (p:=⟨w.heap.size,1,none⟩) wz _).setCell (p:=⟨w.heap.size,2,none⟩) wz _).setCell (p:=⟨w.heap.size,3,none⟩) wz _)).drew
theorem Qbr (a:Nat→Addr)(B:Nat)(nm ln pr:List UInt8)(rs:List (List UInt8))(w:World)(hE:J6 w a)
 (hB:Blk w B ((nm::ln::pr::rs).map Qf2).toArray 9)(hsz:rs.length≤40001)(hln:ln.length≤40000)(hrs:∀q∈rs,q.length≤40000) :
 Calls Tryz.prog 309 #[.slice (some ⟨B,0,none⟩) (rs.length+3) (rs.length+3)] w fun e w'=>Qdv a w (Xu (nm::ln::pr::rs)) e w':=by
 obtain⟨i0,hi0,hz0,hz1,hz2⟩:=info_parts Qj5;have HG:Hid (∀W',Below w.heap.size w W'→W'.cell? ⟨4,0,none⟩=some (sentV a 0)):=fun W' hb=>(hE.below hb wz).glob 0 (by decide);have HRS:Hid (∀i (h:i<rs.length),rs[i].length≤40000):=fun i h=>hrs _ (List.getElem_mem h);have hsz':(rs.length:Int)≤40001:=by omega
 obtain⟨NM,hNM⟩:∃NM:ByteArray,(⟨nm.toArray⟩:ByteArray)=NM:=⟨_,rfl⟩;obtain⟨LN,hLN⟩:∃LN:ByteArray,(⟨ln.toArray⟩:ByteArray)=LN:=⟨_,rfl⟩;obtain⟨PR,hPR⟩:∃PR:ByteArray,(⟨pr.toArray⟩:ByteArray)=PR:=⟨_,rfl⟩;obtain⟨OL,hOL⟩:∃o,lenR ln=o:=⟨_,rfl⟩;obtain⟨OP,hOP⟩:∃o,unhex8 pr=o:=⟨_,rfl⟩;have HLN:=Qa (fun W=>Qmb LN (by rw[←hLN];show ln.length≤50000;omega) W);have HPR:=Qa (fun W=>Km PR W);have hLd:LN.data.toList=ln:=by rw[←hLN]
 have hPd:PR.data.toList=pr:=by rw[←hPR]
 rw[hLd,hOL]at HLN;rw[hPd,hOP]at HPR;have HC0:Hid (∀W',Below w.heap.size w W'→W'.cell? ⟨B,0,none⟩=some (.string NM)∧W'.cell? ⟨B,1,none⟩=some (.string LN)∧W'.cell? ⟨B,2,none⟩=some (.string PR)):=fun W' hb=>by have h:=hB.next hb;rw[←hNM,←hLN,←hPR];exact⟨h.cell (i:=0) (by simp),h.cell (i:=1) (by simp),h.cell (i:=2) (by simp)⟩
 have HCR:Hid (∀W',Below w.heap.size w W'→∀i (h:i<rs.length),W'.cell? ⟨B,3+i,none⟩=some (Qf2 rs[i])):=fun W' hb i hi=>by refine(hB.next hb).cell (i:=3+i) ?_;rw[Nat.add_comm];simp[hi]
 have hBl:=hB.lt;have hgl:4<w.heap.size:=lt_of_cell (hE.glob 0 (by decide));have HNM:Hid ((⟨nm.toArray⟩:ByteArray)=NM):=hNM;obtain⟨OW,hOW⟩:∃o,Xu (nm::ln::pr::rs)=o:=⟨_,rfl⟩;have HWL:Hid (OL=none→OW=none):=fun h=>by rw[←hOW];exact Qb7 (hOL.trans h)
 have HWP:Hid (OP=none→OW=none):=fun h=>by rw[←hOW];exact Qbx (hOP.trans h)
 have HWI:Hid (Ze rs=none→OW=none):=fun h=>by rw[←hOW];exact Qb6 h
 have HWS:Hid (∀n p ids,OL=some n→OP=some p→Ze rs=some ids→OW=some (nm,n,p,ids)):=fun n p ids h1 h2 h3=>by rw[←hOW];exact Kw (hOL.trans h1) (hOP.trans h2) h3
 rw[hOW];have HPO:Hid (∀p,OP=some p→p<4294967296):=fun p h=>by
  have h2:=hOP.trans h;unfold unhex8 at h2;split at h2
  ·rename_i h8
   have:=Qf9 pr 0 p h2;rw[h8]at this;omega
  ·cases h2
 clear hNM hLN hPR hOL hOP hLd hPd hrs hE hB hln hOW;obtain⟨P4,c4,hsl,hP4⟩:=Qt3 B (rs.length+3) (by omega);have HP4:Hid (0<rs.length→P4=some ⟨B,3,none⟩):=fun h=>hP4 (by omega);rw[Nat.add_sub_cancel]at hsl;obtain⟨N,hN⟩:∃N,rs.length+3=N:=⟨_,rfl⟩;rw[hN]at hsl ⊢;have hN3:(3:Int)≤(N:Int):=by omega
 have hN3':¬(N:Int)<3:=by omega
 clear hP4 hN hsz;have hbR:Below w.heap.size w (w.alloc (.cells #[.string ⟨#[]⟩,.int .i64 0,.int .u32 0,.slice none 0 0] 40)):=(Below.refl _ w).alloc wz _;have hR0:=Blk.new w #[.string ⟨#[]⟩,.int .i64 0,.int .u32 0,.slice none 0 0] 40;obtain⟨d0,d1,d2⟩:=HC0.out _ hbR;have g0:=HG.out _ hbR;by_cases hbad:OL=none∨OP=none
 ·have HW0:Hid (OW=none):=hbad.elim HWL.out HWP.out;have HCB:Hid (OL.isSome=false∨(OL.isSome=true∧OP=none)):=by
   cases OL with
   | none=>exact .inl rfl
   | some n=>
    rcases hbad with h|h
    ·cases h
    ·exact .inr ⟨rfl,h⟩
  have HB0:=Qa hbR;have HR:=Qa hR0;have hlt:=HR.out.lt;have r0:=HR.out.cell (i:=0) rfl;have r1:=HR.out.cell (i:=1) rfl;have r2:=HR.out.cell (i:=2) rfl;have r3:=HR.out.cell (i:=3) rfl;have f0:=HR.out.frozen 0;have f1:=HR.out.frozen 1;have f2:=HR.out.frozen 2;have f3:=HR.out.frozen 3;rw[HW0.out];clear hbR hR0 hbad HWL HWP HWI HWS HP4 hsl;go_enter Tryz.func309,Tryz.ntmps309;go_wp2_with fail;generalize w.alloc (.cells #[.string ⟨#[]⟩,.int .i64 0,.int .u32 0,.slice none 0 0] 40)=W at *;refine(HLN.out _).mono ?_;rintro e w1 ⟨rfl,hw1⟩;subst hw1;go_wp2_with fail;refine(HPR.out _).mono ?_;rintro e w1 ⟨rfl,hw1⟩;subst hw1;rcases HCB.out with h|⟨h,rfl⟩
  ·rw[h];cases OP
   all_goals unfold U1
   all_goals go_wp2_with fail
   all_goals go_region
   all_goals go_wp2_with fail
   all_goals refine bodyPost_ret (v:=.tuple #[rcpV ⟨#[]⟩ 0 0 (.slice none 0 0),sentV a 0]) (by simp[results,Tryz.results309,go_sem,r0,r1,r2,r3]) rfl ⟨rfl,?_⟩
   all_goals exact(((((HB0.out.setCell (p:=⟨w.heap.size,0,none⟩) wz _).setCell (p:=⟨w.heap.size,1,none⟩) wz _).setCell (p:=⟨w.heap.size,2,none⟩) wz _).setCell (p:=⟨w.heap.size,3,none⟩) wz _)).drew
  ·rw[h];unfold U1;go_wp2_with fail;go_region
   all_goals go_wp2_with fail
   all_goals refine bodyPost_ret (v:=.tuple #[rcpV ⟨#[]⟩ 0 0 (.slice none 0 0),sentV a 0]) (by simp[results,Tryz.results309,go_sem,r0,r1,r2,r3]) rfl ⟨rfl,?_⟩
   all_goals exact(((((HB0.out.setCell (p:=⟨w.heap.size,0,none⟩) wz _).setCell (p:=⟨w.heap.size,1,none⟩) wz _).setCell (p:=⟨w.heap.size,2,none⟩) wz _).setCell (p:=⟨w.heap.size,3,none⟩) wz _)).drew
 obtain⟨n,rfl⟩:∃n,OL=some n:=by
  cases OL with
  | none=>exact absurd (.inl rfl) hbad
  | some n=>exact⟨n,rfl⟩
 obtain⟨p,rfl⟩:∃p,OP=some p:=by
  cases OP with
  | none=>exact absurd (.inr rfl) hbad
  | some n=>exact⟨n,rfl⟩
 have HWG:Hid (∀ids,Ze rs=some ids→OW=some (nm,n,p,ids)):=fun ids h=>HWS.out n p ids rfl rfl h;clear hbad HWL HWP HWS g0;go_enter Tryz.func309,Tryz.ntmps309;go_wp2_with fail;refine(HLN.out _).mono ?_;rintro e w1 ⟨rfl,hw1⟩;subst hw1;simp only[Option.getD_some,Option.isSome_some];go_wp2_with fail;refine(HPR.out _).mono ?_;rintro e w1 ⟨rfl,hw1⟩;subst hw1;unfold U1;go_wp2_with fail;have hX0:=Blk.new (w.alloc (.cells #[.string ⟨#[]⟩,.int .i64 0,.int .u32 0,.slice none 0 0] 40)) #[.string NM,.int .i64 n,.int .u32 (p:Nat),.slice none 0 0] 40;rw[World.size_alloc]at hX0;have hal2:=(Below.refl (w.alloc (.cells #[.string ⟨#[]⟩,.int .i64 0,.int .u32 0,.slice none 0 0] 40)).heap.size (w.alloc (.cells #[.string ⟨#[]⟩,.int .i64 0,.int .u32 0,.slice none 0 0] 40))).alloc wz (.cells #[.string NM,.int .i64 n,.int .u32 (p:Nat),.slice none 0 0] 40);replace hR0:=hR0.next hal2;replace hbR:=hbR.trans (hal2.mono (by simp));have hZ:((w.alloc (.cells #[.string ⟨#[]⟩,.int .i64 0,.int .u32 0,.slice none 0 0] 40)).alloc (.cells #[.string NM,.int .i64 n,.int .u32 (p:Nat),.slice none 0 0] 40)).heap.size=w.heap.size+2:=by simp
 obtain⟨W0,hW0⟩:∃W0,(w.alloc (.cells #[.string ⟨#[]⟩,.int .i64 0,.int .u32 0,.slice none 0 0] 40)).alloc (.cells #[.string NM,.int .i64 n,.int .u32 (p:Nat),.slice none 0 0] 40)=W0:=⟨_,rfl⟩;rw[hW0]at hX0 hR0 hbR hZ ⊢;clear hW0 hal2 d0 d1 d2
 go_loopw [49] (fun i wr=>∃(k:Nat) (v:Value) (ids:List (Nat×Int)),k≤rs.length∧i=.int .i64 k∧Hid (Ze (rs.take k)=some ids)∧wr.ownsRow (w.heap.size+2) 25 2 v k (idCells ids)∧Hid (ids.length=k)∧w.heap.size+2≤wr.heap.size∧Below w.heap.size w wr∧Blk wr w.heap.size #[.string ⟨#[]⟩,.int .i64 0,.int .u32 0,.slice none 0 0] 40∧Blk wr (w.heap.size+1) #[.string NM,.int .i64 n,.int .u32 (p:Nat),v] 40) (fun i _=>rs.length - (intOf i).toNat)
 case atStart=>exact⟨0,.slice none 0 0,[],Nat.zero_le _,rfl,rfl,World.ownsRow_nil _ _ _ _,rfl,by omega,hbR,hR0,hX0⟩
 case round=>
  clear hX0 hR0 hbR;obtain⟨k,v,ids,hk,rfl,HRI,hown,HIK,hwz,hbr,hR,hX⟩:=hrel;by_cases hlt:k<rs.length
  ·have hlt':(k:Int)<(rs.length:Int):=(by omega);obtain rfl:=HP4.out (by omega);have hc':=HCR.out wr hbr k hlt;obtain⟨q,hq⟩:∃q:ByteArray,(⟨rs[k].toArray⟩:ByteArray)=q:=⟨_,rfl⟩;have hqd:q.data.toList=rs[k]:=(by rw[←hq]);have HQM:Hid (q.size≤maxLen):=(by show _≤_;have h1:=HRS.out k hlt;have h2:q.size=rs[k].length:=(by rw[←hq];rfl);unfold maxLen;omega);obtain⟨OX,hOX⟩:∃o,idRead q.data.toList=o:=⟨_,rfl⟩;have HIR:Hid (idRead q.data.toList=OX):=hOX;rw[hqd]at hOX;have HNO:Hid (OX=none→Ze rs=none):=fun h=>Qc6 rs k hlt (hOX.trans h);have HSN:Hid (∀x,OX=some x→Ze (rs.take (k+1))=some (ids++[(x.1,(x.2:Int))])):=fun x h=>by rw[List.take_succ_eq_append_getElem hlt];exact Qdj _ _ _ _ HRI.out (hOX.trans h)
   rw[Qf2,hq]at hc';have hgt:=HG.out wr hbr;clear hq hqd hOX;obtain⟨pv,cv,rfl⟩:∃pv cv,v=.slice pv k cv:=by
    obtain⟨_,h⟩:=hown;rcases h with⟨rfl,h0⟩|⟨g,cap,cur,rfl,_⟩
    ·exact⟨none,0,by rw[h0]⟩
    ·exact⟨_,_,rfl⟩
   have hne1:(Value.slice pv k cv).ownBlock≠some (w.heap.size+1):=fun e=>by have:=Xf hown e;omega
   have hne0:(Value.slice pv k cv).ownBlock≠some w.heap.size:=fun e=>by have:=Xf hown e;omega
   go_wp2_with fail;refine(Ql1 q HQM.out (sentV a 0) _ hgt).mono ?_;rintro e w2 ⟨rfl,hb2⟩;rw[HIR.out];have hX2:=hX.next hb2;have hR2:=hR.next hb2;have hown2:=Qi hown hb2;have hw2:w.heap.size+2≤w2.heap.size:=Nat.le_trans hwz hb2.size;have hB2:Below w.heap.size w w2:=hbr.trans (hb2.mono hbr.size);have x32:=hX2.cell (i:=3) rfl;have hXl:=hX2.lt;clear hown hX hR hbr hwz hgt hc' hb2;cases OX with
   | none=>
    have HW0:Hid (OW=none):=HWI.out (HNO.out rfl);unfold Ut;have hR2l:=hR2.lt;have r0:=hR2.cell (i:=0) rfl;have r1:=hR2.cell (i:=1) rfl;have r2:=hR2.cell (i:=2) rfl;have r3:=hR2.cell (i:=3) rfl;have f0:=hR2.frozen 0;have f1:=hR2.frozen 1;have f2:=hR2.frozen 2;have f3:=hR2.frozen 3;have HZ:=Qa (((((hR2.set 0 (.string ⟨#[]⟩)).set 1 (.int .i64 0)).set 2 (.int .u32 0)).set 3 (.slice none 0 0)).next ((Below.refl _ _).alloc wz (.cells #[.int .u32 0,.int .i64 0] 25)));have z0:=HZ.out.cell (i:=0) rfl;have z1:=HZ.out.cell (i:=1) rfl;have z2:=HZ.out.cell (i:=2) rfl;have z3:=HZ.out.cell (i:=3) rfl;have HB4:Hid (Below w.heap.size w _):=Qa ((((hB2.setCell (p:=⟨w.heap.size,0,none⟩) wz (.string ⟨#[]⟩)).setCell (p:=⟨w.heap.size,1,none⟩) wz (.int .i64 0)).setCell (p:=⟨w.heap.size,2,none⟩) wz (.int .u32 0)).setCell (p:=⟨w.heap.size,3,none⟩) wz (.slice none 0 0));clear hX2 hR2 hown2 x32 hne0 hne1;go_wp2_with fail;refine bodyPost_ret (v:=.tuple #[rcpV ⟨#[]⟩ 0 0 (.slice none 0 0),sentV a 0]) (by simp[results,Tryz.results309,go_sem,z0,z1,z2,z3]) rfl ?_;rw[HW0.out];exact⟨rfl,HB4.out.alloc HB4.out.size _⟩
   | some x=>
    have HNX:=Qa (HSN.out x rfl);obtain⟨Q,L⟩:=x;unfold Ut;simp only at HNX;go_wp2_with (at_builtin;refine wpList_append_own _ rfl (.tmp 63) (.tmp 65) 38 rfl (w.heap.size+2) 25 i0 (idV 0 0) 2 16 Tryz.underlying38 hi0 hz0 hz1 hz2 rfl (by decide) _ _ _ rfl ((hown2.alloc _).alloc _) ⟨w2.heap.size+1,0,none⟩ 1 1 [.int .u32 (Q:Nat),.int .i64 (L:Nat)] rfl rfl (Qi0 _ _ _ _ _ (by simp)) (by simp[Value.oneCell']) (by unfold maxLen;omega) (by omega) (by simp;omega) ?_;intro v' w3 hown' hgrow _;obtain⟨g',cap',rfl⟩:=ownsRow_succ hown';have hX3:Blk w3 (w.heap.size+1) #[.string NM,.int .i64 n,.int .u32 (p:Nat),.slice pv k cv] 40:=(hgrow.block _ (by simp;omega) (fun e=>hne1 e.symm)).trans ((hX2.next ((Below.refl _ w2).alloc wz _)).next ((Below.refl _ _).alloc wz _));have hR3:Blk w3 w.heap.size #[.string ⟨#[]⟩,.int .i64 0,.int .u32 0,.slice none 0 0] 40:=(hgrow.block _ (by simp;omega) (fun e=>hne0 e.symm)).trans ((hR2.next ((Below.refl _ w2).alloc wz _)).next ((Below.refl _ _).alloc wz _));have x33:=hX3.cell (i:=3) rfl;have f33:=hX3.frozen 3);have hB3:Below w.heap.size w w3:=((hB2.alloc hB2.size _).alloc (by have:=hB2.size;simp;omega) _).grown hgrow (by simp;omega) (fun j e=>by have:=Xf hown2 e;omega);have hw3:w.heap.size+2≤w3.heap.size:=(by have:=hgrow.size;simp at this;omega);have hX4:=hX3.set 3 (.slice (some ⟨g',0,none⟩) (k+1) cap');have hR4:=hR3.other (a:=⟨w.heap.size+1,3,none⟩) (show w.heap.size≠w.heap.size+1 by omega) (.slice (some ⟨g',0,none⟩) (k+1) cap');have hr4:=ownsRow_setCell_below hown' (a:=⟨w.heap.size+1,3,none⟩) (show w.heap.size+1<w.heap.size+2 by omega) (.slice (some ⟨g',0,none⟩) (k+1) cap');have hb4:=hB3.setCell (p:=⟨w.heap.size+1,3,none⟩) (Nat.le_succ _) (.slice (some ⟨g',0,none⟩) (k+1) cap');have hz4:w.heap.size+2≤(w3.setCell ⟨w.heap.size+1,3,none⟩ (.slice (some ⟨g',0,none⟩) (k+1) cap')).heap.size:=(by simpa[World.setCell]using hw3);go_roundw
    case rel=>exact⟨k+1,.slice (some ⟨g',0,none⟩) (k+1) cap',ids++[(Q,(L:Int))],by omega,by go_num,HNX.out,by rw[Xy];exact hr4,by show _=_;rw[List.length_append,HIK.out];rfl,hz4,hb4,hR4,hX4⟩
    case measure=>simp[intOf];omega
  ·have hge:(rs.length:Int)≤(k:Int):=(by omega);have hri:=HRI.out;rw[List.take_of_length_le (by omega)]at hri;have HW0:=Qa (HWG.out ids hri);obtain rfl:k=rs.length:=(by omega);have x0:=hX.cell (i:=0) rfl;have x1:=hX.cell (i:=1) rfl;have x2:=hX.cell (i:=2) rfl;have x3:=hX.cell (i:=3) rfl;have r0:=hR.cell (i:=0) rfl;have r1:=hR.cell (i:=1) rfl;have r2:=hR.cell (i:=2) rfl;have r3:=hR.cell (i:=3) rfl;have g0:=hR.frozen 0;have g1:=hR.frozen 1;have g2:=hR.frozen 2;have g3:=hR.frozen 3;have hRl:=hR.lt;obtain⟨pv,cv,rfl⟩:∃pv cv,v=.slice pv rs.length cv:=by
    obtain⟨_,h⟩:=hown;rcases h with⟨rfl,h0⟩|⟨g,cap,cur,rfl,_⟩
    ·exact⟨none,0,by rw[h0]⟩
    ·exact⟨_,_,rfl⟩
   have HROW:Hid (wr.ownsRow (w.heap.size+2) 25 2 (.slice pv rs.length cv) ids.length (idCells ids)):=(by show World.ownsRow _ _ _ _ _ _ _;rw[HIK.out];exact hown);clear hown hR hX hri;go_wp2_with fail;refine bodyPost_ret (v:=.tuple #[rcpV NM n (p:Nat) (.slice pv rs.length cv),.nilIface]) (by simp[results,Tryz.results309,go_sem,r0,r1,r2,r3]) rfl ?_;rw[HW0.out];refine⟨.slice pv rs.length cv,by rw[←HNM.out],?_,(((hbr.setCell (p:=⟨w.heap.size,0,none⟩) wz _).setCell (p:=⟨w.heap.size,1,none⟩) wz _).setCell (p:=⟨w.heap.size,2,none⟩) wz _).setCell (p:=⟨w.heap.size,3,none⟩) wz _⟩;refine(Zb.of_row (base:=w.heap.size+2) (e:=25) ?_).low (by omega);have hR0:w.heap.size<w.heap.size+2:=(by omega);exact ownsRow_setCell_below (ownsRow_setCell_below (ownsRow_setCell_below (ownsRow_setCell_below HROW.out (a:=⟨w.heap.size,0,none⟩) hR0 _) (a:=⟨w.heap.size,1,none⟩) hR0 _) (a:=⟨w.heap.size,2,none⟩) hR0 _) (a:=⟨w.heap.size,3,none⟩) hR0 _
theorem Qmu (a:Nat→Addr)(t:ByteArray)(ht:t.size≤40000)(m:Int)(w:World)(hE:J6 w a)(hm:w.cell? ⟨14,0,none⟩=some (.int .i64 m))(hr:(Qs t.data.toList).2=(0,-1)) :
 Calls Tryz.prog 270 #[.string t] w fun e w'=>∃v ev,e=.returned (.tuple #[qg (Qs t.data.toList).1 v,ev])∧Zb w.heap.size w' v (Qs t.data.toList).1.2.2.2∧Qp w.heap.size w' a ev (Qs t.data.toList).2∧Below w.heap.size w w':=by
 obtain⟨nm,ln,pr,rs,n,p,ids,hc,h1,h2,h3,hf,hrr⟩:=Qgo hr;have hcl:=Qdq 32 t.data.toList;rw[hc,Array.length_toList]at hcl;have hts:t.data.size≤40000:=ht;have hrl:rs.length≤40000:=by have:=hcl.1;simp at this;omega
 have hrs:∀q∈rs,q.length≤40000:=fun q hq=>Nat.le_trans (hcl.2 q (by simp[hq])) hts;have hnl:nm.length≤40000:=Nat.le_trans (hcl.2 nm (by simp)) hts;have hbR:∀o,Below w.heap.size w (w.alloc o):=fun o=>(Below.refl _ w).alloc wz o;have hlen:(Lib.splitB ⟨#[32]⟩ 0 (Lib.countB t ⟨#[32]⟩) t).length=Lib.countB t ⟨#[32]⟩+1:=Lib.splitB_all ⟨#[32]⟩ (by decide) 0 _ t rfl;rw[Gp,hc,List.length_map]at hlen;have hlen':Lib.countB t ⟨#[32]⟩+1=rs.length+3:=by rw[←hlen];simp
 have HSP:Hid (∀W,Below w.heap.size w W→Calls Tryz.prog 310 #[.string t,.string ⟨#[32]⟩] W fun e w'=>e=.returned (.slice (some ⟨W.heap.size,0,none⟩) (rs.length+3) (rs.length+3))∧w'=W.alloc (.cells ((nm::ln::pr::rs).map Qf2).toArray 9)):=fun W hb=>by
  refine(Tryz.strings_Split t ⟨#[32]⟩ m W (by omega) ((hb.cell (p:=⟨14,0,none⟩) (lt_of_cell hm)).trans hm) (by decide)).mono fun e w' ⟨g1,g2⟩=>⟨?_,?_⟩
  ·rw[g1,hlen']
  ·rw[g2,Gp,hc,List.map_map];rfl
 have HRW:Hid (∀(W:World) (B:Nat),Below w.heap.size w W→Blk W B ((nm::ln::pr::rs).map Qf2).toArray 9→Calls Tryz.prog 309 #[.slice (some ⟨B,0,none⟩) (rs.length+3) (rs.length+3)] W fun e w'=>∃v,e=.returned (.tuple #[rcpV ⟨nm.toArray⟩ n (p:Nat) v,.nilIface])∧Zb W.heap.size w' v ids∧Below W.heap.size W w'):=fun W B hb hB=>(Qbr a B nm ln pr rs W (hE.below hb wz) hB (by omega) (Nat.le_trans (hcl.2 ln (by simp)) hts) hrs).mono fun e w' h=>by rw[Kw (Qoq h1) h2 h3]at h;exact h
 obtain⟨NM,hNM⟩:∃NM:ByteArray,(⟨nm.toArray⟩:ByteArray)=NM:=⟨_,rfl⟩;rw[hNM]at HRW;have HNM:Hid ((⟨nm.toArray⟩:ByteArray)=NM):=hNM;have HNL:Hid (NM.data.toList=nm):=by show _=_;rw[←hNM]
 have hil:ids.length≤40000:=by have:=(Qb1 rs ids h3).1;omega
 have HCK:Hid (∀(W:World) (v:Value),Below w.heap.size w W→Q3 W v ids→Calls Tryz.prog 166 #[rcpV NM n (p:Nat) v] W fun e w'=>e=.returned .nilIface∧Below W.heap.size W w'):=fun W v hb hv=>by refine(Ua a NM (by rw[←hNM];show nm.length≤_;unfold maxLen;omega) n p v ids W ((hE.below hb wz).on (by decide)) hv (by unfold maxLen;omega)).mono fun e w' ⟨ev,g1,g2,g3⟩=>⟨?_,g3⟩;rw[HNL.out,hf]at g2;rw[g1,g2.is_nil]
 have HRR:Hid (Qs t.data.toList=((nm,(n:Int),p,ids),(0,-1))):=hrr;have ht':¬(40000:Int)<(t.size:Int):=by omega
 clear hc h1 h2 h3 hf hrr hcl hts hrl hrs hnl hlen hlen' hNM hil hE hm hr ht;go_enter Tryz.func270,Tryz.ntmps270;go_wp2_with fail;refine(HSP.out _ (hbR _)).mono ?_;rintro e w1 ⟨rfl,hw1⟩;have hR0:=Blk.new w #[.string ⟨#[]⟩,.int .i64 0,.int .u32 0,.slice none 0 0] 40;have hbR0:=hbR (.cells #[.string ⟨#[]⟩,.int .i64 0,.int .u32 0,.slice none 0 0] 40);obtain⟨W0,hW0⟩:∃W0,w.alloc (.cells #[.string ⟨#[]⟩,.int .i64 0,.int .u32 0,.slice none 0 0] 40)=W0:=⟨_,rfl⟩;rw[hW0]at hR0 hbR0 hw1 ⊢;have hB1:=Blk.new W0 ((nm::ln::pr::rs).map Qf2).toArray 9;have hal1:Below W0.heap.size W0 (W0.alloc (.cells ((nm::ln::pr::rs).map Qf2).toArray 9)):=(Below.refl _ W0).alloc wz _;rw[←hw1]at hB1 hal1;have hR1:=hR0.next hal1;have hb1:Below w.heap.size w w1:=hbR0.trans (hal1.mono hbR0.size);clear hR0 hbR0 hW0 hw1 hal1 HSP;obtain⟨N,hN⟩:∃N,rs.length+3=N:=⟨_,rfl⟩;have HRW1:=HRW.out w1 _ hb1 hB1;rw[hN]at HRW1 ⊢;have HRW2:Hid (Calls Tryz.prog 309 #[.slice (some ⟨W0.heap.size,0,none⟩) N N] w1 fun e w'=>∃v,e=.returned (.tuple #[rcpV NM n (p:Nat) v,.nilIface])∧Zb w1.heap.size w' v ids∧Below w1.heap.size w1 w'):=HRW1;clear HRW1 hB1 hN HRW;go_wp2_with fail;refine HRW2.out.mono ?_;clear HRW2;rintro e w2 ⟨v,rfl,hids,hb2⟩;have hR2:=hR1.next hb2;have hb2w:Below w.heap.size w w2:=hb1.trans (hb2.mono hb1.size);have hlt1:=hR1.lt;obtain⟨pv,cv,hvv,_⟩:=id hids;subst hvv;have hX2:=Blk.new w2 #[.string NM,.int .i64 (n:Nat),.int .u32 (p:Nat),.slice pv ids.length cv] 40;have hal2:Below w2.heap.size w2 (w2.alloc (.cells #[.string NM,.int .i64 (n:Nat),.int .u32 (p:Nat),.slice pv ids.length cv] 40)):=(Below.refl _ w2).alloc wz _;clear hb2 hR1 hb1;go_wp2_with fail;replace hids:=hids.below hal2;have hR3:=hR2.next hal2;have hb3:Below w.heap.size w _:=hb2w.trans (hal2.mono hb2w.size);refine(HCK.out _ _ hb3 hids.at).mono ?_;rintro e w4 ⟨rfl,hb4⟩;replace hids:=hids.below hb4;have hX4:=hX2.next hb4;have hR4:=hR3.next hb4;have hb4w:Below w.heap.size w w4:=hb3.trans (hb4.mono hb3.size);have x0:=hX4.cell (i:=0) rfl;have x1:=hX4.cell (i:=1) rfl;have x2:=hX4.cell (i:=2) rfl;have x3:=hX4.cell (i:=3) rfl;have r0:=hR4.cell (i:=0) rfl;have r1:=hR4.cell (i:=1) rfl;have r2:=hR4.cell (i:=2) rfl;have r3:=hR4.cell (i:=3) rfl;have g0:=hR4.frozen 0;have g1:=hR4.frozen 1;have g2:=hR4.frozen 2;have g3:=hR4.frozen 3;have HIDS:Hid (Zb w1.heap.size w4 (.slice pv ids.length cv) ids):=hids;have HLT:Hid (w.heap.size<w1.heap.size):=hlt1;clear hids hX4 hR4 hR3 hR2 hX2 hal2 hb4 hb3 hlt1;go_wp2_with fail;refine bodyPost_ret (v:=.tuple #[rcpV NM n (p:Nat) (.slice pv ids.length cv),.nilIface]) (by simp[results,Tryz.results270,go_sem,r0,r1,r2,r3]) rfl ⟨.slice pv ids.length cv,.nilIface,by rw[HRR.out,qg,HNM.out],?_,by rw[HRR.out];exact Qp.mkNil _ _ a,(((hb4w.setCell (p:=⟨w.heap.size,0,none⟩) wz _).setCell (p:=⟨w.heap.size,1,none⟩) wz _).setCell (p:=⟨w.heap.size,2,none⟩) wz _).setCell (p:=⟨w.heap.size,3,none⟩) wz _⟩;rw[HRR.out];exact((((HIDS.out.setCell (a:=⟨w.heap.size,0,none⟩) HLT.out _).setCell (a:=⟨w.heap.size,1,none⟩) HLT.out _).setCell (a:=⟨w.heap.size,2,none⟩) HLT.out _).setCell (a:=⟨w.heap.size,3,none⟩) HLT.out _).low (Nat.le_of_lt HLT.out)
theorem cutBy_split3 (c:UInt8)(t:List UInt8):(cutBy c t).length<3∨∃x y z rs,cutBy c t=x::y::z::rs:=by
 rcases h:cutBy c t with _|⟨x,_|⟨y,_|⟨z,rs⟩⟩⟩
 ·exact .inl (by simp)
 ·exact .inl (by simp)
 ·exact .inl (by simp)
 ·exact .inr ⟨x,y,z,rs,rfl⟩
theorem Qoa {t:List UInt8}(h:(Qs t).2≠(0,-1)):(Qs t).1=([],0,0,[]):=by
 rcases cutBy_split3 32 t with h1|⟨nm,ln,pr,rs,h1⟩
 ·rw[Qhn t h1]
 ·cases h2:numOf ln 6 with
  | none=>rw[Qk3 h1 h2]
  | some n=>
   cases h3:unhex8 pr with
   | none=>rw[Qls h1 h2 h3]
   | some p=>
    cases h4:Ze rs with
    | none=>rw[Ql3 h1 h2 h3 h4]
    | some ids=>
     rw[Gc h1 h2 h3 h4]at h ⊢;by_cases hc:Qb nm n ids=(0,-1)
     ·rw[if_pos hc]at h;exact absurd rfl h
     ·rw[if_neg hc]
theorem Qrh (a:Nat→Addr)(t:ByteArray)(ht:t.size≤40000)(m:Int)(w:World)(hE:J6 w a)(hm:w.cell? ⟨14,0,none⟩=some (.int .i64 m)) :
 Calls Tryz.prog 270 #[.string t] w fun e w'=>∃v ev,e=.returned (.tuple #[qg (Qs t.data.toList).1 v,ev])∧Zb w.heap.size w' v (Qs t.data.toList).1.2.2.2∧(if (Qs t.data.toList).2=(0,-1) then ev=.nilIface else ∃T A,ev=.iface T A)∧Below w.heap.size w w':=by
 by_cases hr:(Qs t.data.toList).2=(0,-1)
 ·refine(Qmu a t ht m w hE hm hr).mono fun e w' ⟨v,ev,h1,h2,h3,h4⟩=>⟨v,ev,h1,h2,?_,h4⟩;rw[if_pos hr];rw[hr]at h3;exact h3.is_nil
 have hno:=Qoa hr;have hiff:∀d:Qhf,Xu (cutBy 32 t.data.toList)=some d→Qb d.1 d.2.1 d.2.2.2≠(0,-1):=fun d h1 h2=>hr ((Qk5 _).2 ⟨d,h1,h2⟩);rw[hno];simp only[if_neg hr];have hcl:=Qdq 32 t.data.toList;rw[Array.length_toList]at hcl;have hts:t.data.size≤40000:=ht;have hbR:∀o,Below w.heap.size w (w.alloc o):=fun o=>(Below.refl _ w).alloc wz o;have hlen:(Lib.splitB ⟨#[32]⟩ 0 (Lib.countB t ⟨#[32]⟩) t).length=Lib.countB t ⟨#[32]⟩+1:=Lib.splitB_all ⟨#[32]⟩ (by decide) 0 _ t rfl;rw[Gp,List.length_map]at hlen;obtain⟨ws,hws⟩:∃ws,cutBy 32 t.data.toList=ws:=⟨_,rfl⟩;rw[hws]at hlen hcl hiff;have HSP:Hid (∀W,Below w.heap.size w W→Calls Tryz.prog 310 #[.string t,.string ⟨#[32]⟩] W fun e w'=>e=.returned (.slice (some ⟨W.heap.size,0,none⟩) ws.length ws.length)∧w'=W.alloc (.cells (ws.map Qf2).toArray 9)):=fun W hb=>by
  refine(Tryz.strings_Split t ⟨#[32]⟩ m W (by omega) ((hb.cell (p:=⟨14,0,none⟩) (lt_of_cell hm)).trans hm) (by decide)).mono fun e w' ⟨g1,g2⟩=>⟨?_,?_⟩
  ·rw[g1,hlen]
  ·rw[g2,Gp,hws,List.map_map];rfl
 have HRW:Hid (∀(W:World) (B:Nat),Below w.heap.size w W→Blk W B (ws.map Qf2).toArray 9→Calls Tryz.prog 309 #[.slice (some ⟨B,0,none⟩) ws.length ws.length] W fun e w'=>Qdv a W (Xu ws) e w'):=fun W B hb hB=>by
  have hEW:=hE.below hb wz;rcases cutBy_split3 32 t.data.toList with h|⟨x,y,z,rs,h⟩
  ·rw[hws]at h;rw[Qdg h];exact Qev a _ _ _ h W (hEW.glob 0 (by decide))
  ·rw[hws]at h;subst h;exact Qbr a B x y z rs W hEW hB (by have:=hcl.1;simp at this;omega) (Nat.le_trans (hcl.2 y (by simp)) hts) (fun q hq=>Nat.le_trans (hcl.2 q (by simp[hq])) hts)
 have HWL:Hid (∀d:Qhf,Xu ws=some d→d.1.length≤40000∧d.2.2.2.length≤40000):=fun d hd=>by
  rcases cutBy_split3 32 t.data.toList with h|⟨x,y,z,rs,h⟩
  ·rw[hws]at h;rw[Qdg h]at hd;cases hd
  ·rw[hws]at h;subst h;cases h1:lenR y with
   | none=>rw[Qb7 h1]at hd;cases hd
   | some n'=>
    cases h2:unhex8 z with
    | none=>rw[Qbx h2]at hd;cases hd
    | some p'=>
     cases h3:Ze rs with
     | none=>rw[Qb6 h3]at hd;cases hd
     | some ids'=>
      rw[Kw h1 h2 h3]at hd;cases hd;refine⟨Nat.le_trans (hcl.2 x (by simp)) hts,?_⟩;have:=(Qb1 rs ids' h3).1;have:=hcl.1;simp at this;show ids'.length≤40000;omega
 have HNF:Hid (∀d:Qhf,Xu ws=some d→Qb d.1 d.2.1 d.2.2.2≠(0,-1)):=hiff;have HEW:Hid (∀W,Below w.heap.size w W→J6 W a):=fun W hb=>hE.below hb wz;have ht':¬(40000:Int)<(t.size:Int):=by omega
 obtain⟨N,hN⟩:∃N,ws.length=N:=⟨_,rfl⟩;rw[hN]at HSP HRW;obtain⟨OW,hOW⟩:∃o,Xu ws=o:=⟨_,rfl⟩;rw[hOW]at HRW HWL HNF;clear hno hcl hts hlen hws hiff hE hm ht hr hN hOW;go_enter Tryz.func270,Tryz.ntmps270;go_wp2_with fail;refine(HSP.out _ (hbR _)).mono ?_;rintro e w1 ⟨rfl,hw1⟩;have hR0:=Blk.new w #[.string ⟨#[]⟩,.int .i64 0,.int .u32 0,.slice none 0 0] 40;have hbR0:=hbR (.cells #[.string ⟨#[]⟩,.int .i64 0,.int .u32 0,.slice none 0 0] 40);obtain⟨W0,hW0⟩:∃W0,w.alloc (.cells #[.string ⟨#[]⟩,.int .i64 0,.int .u32 0,.slice none 0 0] 40)=W0:=⟨_,rfl⟩;rw[hW0]at hR0 hbR0 hw1 ⊢;have hB1:=Blk.new W0 (ws.map Qf2).toArray 9;have hal1:Below W0.heap.size W0 (W0.alloc (.cells (ws.map Qf2).toArray 9)):=(Below.refl _ W0).alloc wz _;rw[←hw1]at hB1 hal1;have hR1:=hR0.next hal1;have hb1:Below w.heap.size w w1:=hbR0.trans (hal1.mono hbR0.size);have HRW2:=Qa (HRW.out w1 _ hb1 hB1);have HR1:=Qa hR1;have HB1:=Qa hb1;clear hR0 hbR0 hW0 hw1 hal1 HSP HRW hB1 hR1 hb1 hbR;go_wp2_with fail;refine HRW2.out.mono ?_;clear HRW2;intro e w2 hpost;cases OW with
 | none=>
  obtain⟨rfl,hb2⟩:=hpost;have HB2:=Qa (HB1.out.trans (hb2.mono HB1.out.size));have HR2:=Qa (HR1.out.next hb2);have hal2:=(Below.refl _ w2).alloc wz (.cells #[.string ⟨#[]⟩,.int .i64 0,.int .u32 0,.slice none 0 0] 40);have HB3:=Qa (HB2.out.trans (hal2.mono HB2.out.size));have HR3:=Qa (HR2.out.next hal2);have r0:=HR3.out.cell (i:=0) rfl;have r1:=HR3.out.cell (i:=1) rfl;have r2:=HR3.out.cell (i:=2) rfl;have r3:=HR3.out.cell (i:=3) rfl;have g0:=HR3.out.frozen 0;have g1:=HR3.out.frozen 1;have g2:=HR3.out.frozen 2;have g3:=HR3.out.frozen 3;have hlr:=HR3.out.lt;clear hb2 hal2;go_wp2_with fail;refine bodyPost_ret (v:=.tuple #[rcpV ⟨#[]⟩ 0 0 (.slice none 0 0),sentV a 0]) (by simp[results,Tryz.results270,go_sem,r0,r1,r2,r3]) rfl ⟨.slice none 0 0,sentV a 0,rfl,⟨none,0,rfl,fun i hi=>by simp at hi⟩,⟨_,_,rfl⟩,?_⟩;exact((((HB3.out.setCell (p:=⟨w.heap.size,0,none⟩) wz _).setCell (p:=⟨w.heap.size,1,none⟩) wz _).setCell (p:=⟨w.heap.size,2,none⟩) wz _).setCell (p:=⟨w.heap.size,3,none⟩) wz _)
 | some d=>
  obtain⟨v,rfl,hids,hb2⟩:=hpost;obtain⟨nm,n,p,ids⟩:=d;have HLL:=Qa (HWL.out _ rfl);have HNN:=Qa (HNF.out _ rfl);simp only at HLL HNN hids;obtain⟨NM,hNM⟩:∃NM:ByteArray,(⟨nm.toArray⟩:ByteArray)=NM:=⟨_,rfl⟩;have hNMd:NM.data.toList=nm:=by rw[←hNM]
  have hNMs:NM.size≤maxLen:=by have h1:NM.data.toList.length=NM.size:=Qh NM;have h2:=HLL.out.1;rw[hNMd]at h1;unfold maxLen;omega
  obtain⟨pv,cv,hvv,_⟩:=id hids;subst hvv;have HB2:=Qa (HB1.out.trans (hb2.mono HB1.out.size));have HR2:=Qa (HR1.out.next hb2);have hal2:=(Below.refl _ w2).alloc wz (.cells #[.string NM,.int .i64 n,.int .u32 (p:Nat),.slice pv ids.length cv] 40);have HB3:=Qa (HB2.out.trans (hal2.mono HB2.out.size));have HR3:=Qa (HR2.out.next hal2);have HCK:=Qa (Ua a NM hNMs n p (.slice pv ids.length cv) ids _ ((HEW.out _ HB3.out).on (by decide)) (hids.below hal2).at (by have:=HLL.out.2;unfold maxLen;omega));rw[hNMd]at HCK;simp only[qg];rw[hNM];clear hb2 hal2 hids hNMd hNMs hNM HWL HNF;go_wp2_with fail;refine HCK.out.mono ?_;rintro e w4 ⟨ev,rfl,hev,hb4⟩;have HEV:Hid (∃T A,ev=.iface T A):=by
   rcases recFault_code nm n ids with h|h
   ·exact absurd h HNN.out
   ·exact hev.not_nil h
  obtain⟨T,A,rfl⟩:=HEV.out;have HB4:=Qa (HB3.out.trans (hb4.mono HB3.out.size));have HR4:=Qa (HR3.out.next hb4);have r0:=HR4.out.cell (i:=0) rfl;have r1:=HR4.out.cell (i:=1) rfl;have r2:=HR4.out.cell (i:=2) rfl;have r3:=HR4.out.cell (i:=3) rfl;have g0:=HR4.out.frozen 0;have g1:=HR4.out.frozen 1;have g2:=HR4.out.frozen 2;have g3:=HR4.out.frozen 3;have hlr:=HR4.out.lt;clear hb4 hev;go_wp2_with fail;refine bodyPost_ret (v:=.tuple #[rcpV ⟨#[]⟩ 0 0 (.slice none 0 0),.iface T A]) (by simp[results,Tryz.results270,go_sem,r0,r1,r2,r3]) rfl ⟨.slice none 0 0,.iface T A,rfl,⟨none,0,rfl,fun i hi=>by simp at hi⟩,⟨_,_,rfl⟩,?_⟩;exact((((HB4.out.setCell (p:=⟨w.heap.size,0,none⟩) wz _).setCell (p:=⟨w.heap.size,1,none⟩) wz _).setCell (p:=⟨w.heap.size,2,none⟩) wz _).setCell (p:=⟨w.heap.size,3,none⟩) wz _)
open Go.RowKit Go.Maps
abbrev upF (B:Nat):Value:=.func (.func 265) #[] #[.pointer (some ⟨B,0,none⟩),.pointer (some ⟨B+2,0,none⟩)]
structure TkS (w W:World)(s:ByteArray)(ok:Bool):Prop where
 bl:Below w.heap.size w W
 bs:Blk W w.heap.size #[.string s] 9
 bk:Blk W (w.heap.size+2) #[.bool ok] 4
 bf:Blk W (w.heap.size+3) #[upF w.heap.size] 243
def tkF (w:World)(k:Nat):Prop:=k=w.heap.size∨k=w.heap.size+2
theorem TkS.next {w W W':World}{s:ByteArray}{ok:Bool}(h:TkS w W s ok)(hb:Below W.heap.size W W'):TkS w W' s ok where
 bl:=h.bl.trans (hb.mono h.bl.size)
 bs:=h.bs.next hb
 bk:=h.bk.next hb
 bf:=h.bf.next hb
theorem TkS.text {w W:World}{s:ByteArray}{ok:Bool}(h:TkS w W s ok)(t:ByteArray):TkS w (W.setCell ⟨w.heap.size,0,none⟩ (.string t)) t ok where
 bl:=h.bl.setCell (p:=⟨w.heap.size,0,none⟩) wz _
 bs:=h.bs.set 0 (.string t)
 bk:=h.bk.other (a:=⟨w.heap.size,0,none⟩) (show w.heap.size+2≠w.heap.size by omega) _
 bf:=h.bf.other (a:=⟨w.heap.size,0,none⟩) (show w.heap.size+3≠w.heap.size by omega) _
theorem TkS.mark {w W:World}{s:ByteArray}{ok:Bool}(h:TkS w W s ok)(b:Bool):TkS w (W.setCell ⟨w.heap.size+2,0,none⟩ (.bool b)) s b where
 bl:=h.bl.setCell (p:=⟨w.heap.size+2,0,none⟩) (Nat.le_add_right _ _) _
 bs:=h.bs.other (a:=⟨w.heap.size+2,0,none⟩) (show w.heap.size≠w.heap.size+2 by omega) _
 bk:=h.bk.set 0 (.bool b)
 bf:=h.bf.other (a:=⟨w.heap.size+2,0,none⟩) (show w.heap.size+3≠w.heap.size+2 by omega) _
theorem TkS.other {w W:World}{s:ByteArray}{ok:Bool}(h:TkS w W s ok){p:Addr}(hp:w.heap.size+3<p.block)(u:Value):TkS w (W.setCell p u) s ok where
 bl:=h.bl.setCell (by omega) _
 bs:=h.bs.other (by omega) _
 bk:=h.bk.other (by omega) _
 bf:=h.bf.other (by omega) _
theorem Qgq (c:UInt8)(s:ByteArray)(ok:Bool)(m:Int)(w W:World)(hs:s.size≤50000)(hm:w.cell? ⟨14,0,none⟩=some (.int .i64 m))(hT:TkS w W s ok) :
 Calls Tryz.prog 265 #[.string ⟨#[c]⟩,.pointer (some ⟨w.heap.size,0,none⟩),.pointer (some ⟨w.heap.size+2,0,none⟩)] W fun e w'=>e=.returned (.string ⟨(tUp c s.data.toList ok).1.toArray⟩)∧TkS w w' ⟨(tUp c s.data.toList ok).2.1.toArray⟩ (tUp c s.data.toList ok).2.2∧Off (tkF w) W w':=by
 have HC:=Qa (Tryz.strings_Cut s ⟨#[c]⟩ m W (by omega) ((hT.bl.cell (p:=⟨14,0,none⟩) (lt_of_cell hm)).trans hm));have ec:(⟨#[c]⟩:ByteArray).data.toList=[c]:=rfl;rw[ec]at HC;obtain⟨P,hP⟩:∃P:ByteArray,(⟨(tUp c s.data.toList ok).1.toArray⟩:ByteArray)=P:=⟨_,rfl⟩;obtain⟨R,hR⟩:∃R:ByteArray,(⟨(tUp c s.data.toList ok).2.1.toArray⟩:ByteArray)=R:=⟨_,rfl⟩;obtain⟨b,hb⟩:∃b,(Lib.cut s.data.toList [c]).2.2=b:=⟨_,rfl⟩;have hbb:(tUp c s.data.toList ok).2.2=(ok&&b):=by rw[←hb];rfl
 rw[hP,hR,hbb];unfold tUp at hP hR;simp only at hP hR;rw[hP,hR,hb]at HC;have HT:=Qa hT;have hlt:=hT.bk.lt;have s0:=hT.bs.cell (i:=0) rfl;have s2:=hT.bk.cell (i:=0) rfl;clear hP hR hb hbb ec hT hm hs;go_enter Tryz.func265,Tryz.ntmps265;go_wp2_with fail;refine HC.out.mono ?_;rintro e w1 ⟨rfl,n1,hw1⟩;have HB1:Hid (Below W.heap.size W w1):=by rw[hw1];exact below_drewN _ _
 have HT1:=Qa (HT.out.next HB1.out);clear hw1 s0 s2 hlt;have hlt:=HT1.out.bk.lt;have s0:=HT1.out.bs.cell (i:=0) rfl;have s2:=HT1.out.bk.cell (i:=0) rfl;have f0:=HT1.out.bs.frozen 0;have f2:=HT1.out.bk.frozen 0;have hne:¬w.heap.size+2=w.heap.size:=by omega
 have hne':¬w.heap.size=w.heap.size+2:=by omega
 have HT2:=Qa (HT1.out.text R);have t2:=HT2.out.bk.cell (i:=0) rfl;have u2:=HT2.out.bk.frozen 0;have hl2:=HT2.out.bk.lt;have HT3:=Qa (HT2.out.mark (ok&&b));have HO3:Hid (Off (tkF w) W ((w1.setCell ⟨w.heap.size,0,none⟩ (.string R)).setCell ⟨w.heap.size+2,0,none⟩ (.bool (ok&&b)))):=((Off.of_below HB1.out).setCell (p:=⟨w.heap.size,0,none⟩) (.inl (.inl rfl)) _).setCell (p:=⟨w.heap.size+2,0,none⟩) (.inl (.inr rfl)) _;cases ok
 ·go_wp2_with fail;go_ret;exact⟨rfl,HT3.out,HO3.out⟩
 ·go_wp2_with fail;go_ret;exact⟨rfl,HT3.out,HO3.out⟩
theorem Qf4 (c:UInt8)(s:ByteArray)(ok:Bool)(m:Int)(w W:World)(hs:s.size≤50000)(hm:w.cell? ⟨14,0,none⟩=some (.int .i64 m))(hT:TkS w W s ok) :
 Calls Tryz.prog 267 #[.string ⟨#[c]⟩,.pointer (some ⟨w.heap.size+3,0,none⟩),.pointer (some ⟨w.heap.size+2,0,none⟩)] W fun e w'=>e=.returned (.int .i64 ((Qey c s.data.toList ok).1:Nat))∧TkS w w' ⟨(Qey c s.data.toList ok).2.1.toArray⟩ (Qey c s.data.toList ok).2.2∧Off (tkF w) W w':=by
 have HU:=Qa (Qgq c s ok m W (w:=w) hs hm hT);have hl:=Qa2 c s.data.toList ok;have hn:(Qey c s.data.toList ok)=((numOf (tUp c s.data.toList ok).1 6).getD 0,(tUp c s.data.toList ok).2.1,(tUp c s.data.toList ok).2.2&&(numOf (tUp c s.data.toList ok).1 6).isSome):=rfl;rw[hn];obtain⟨x,hx⟩:∃x,tUp c s.data.toList ok=x:=⟨_,rfl⟩;rw[hx]at hl HU ⊢;clear hx;obtain⟨p,r,b⟩:=x;simp only at hl HU ⊢;obtain⟨P,hP⟩:∃P:ByteArray,(⟨p.toArray⟩:ByteArray)=P:=⟨_,rfl⟩;have hPd:P.data.toList=p:=by rw[←hP]
 have hPs:P.size≤maxLen:=by have h1:P.data.toList.length=P.size:=Qh P;have h2:s.data.toList.length=s.size:=Qh s;rw[hPd]at h1;unfold maxLen;omega
 obtain⟨R,hR⟩:∃R:ByteArray,(⟨r.toArray⟩:ByteArray)=R:=⟨_,rfl⟩;rw[hP,hR]at HU;rw[hR];have HD:=Qa (fun V=>Qaa P hPs V);rw[hPd]at HD;obtain⟨o,ho⟩:∃o,numOf p 6=o:=⟨_,rfl⟩;rw[ho]at HD ⊢;have f0:=hT.bf.cell (i:=0) rfl;have HT:=Qa hT;clear hl hP hPd hPs hR ho hn hT hm hs;go_enter Tryz.func267,Tryz.ntmps267;go_wp2_with fail;refine HU.out.mono ?_;rintro e w1 ⟨rfl,hT1,hO1⟩;have HT1:=Qa hT1;have HO1:=Qa hO1;clear hT1 hO1 f0;go_wp2_with fail;refine(HD.out _).mono ?_;rintro e w2 ⟨rfl,hw2⟩;subst hw2;have hlt:=HT1.out.bk.lt;have s2:=HT1.out.bk.cell (i:=0) rfl;have f2:=HT1.out.bk.frozen 0;cases o with
 | none=>
  unfold Yi;have HT3:=Qa (HT1.out.mark false);have HO3:Hid (Off (tkF w) W (w2.setCell ⟨w.heap.size+2,0,none⟩ (.bool false))):=HO1.out.setCell (p:=⟨w.heap.size+2,0,none⟩) (.inl (.inr rfl)) _;cases b
  all_goals go_wp2_with fail
  all_goals go_ret
  all_goals exact⟨rfl,by simpa using HT3.out,HO3.out⟩
 | some n=>
  unfold Yi;have HT3:=Qa (HT1.out.mark b);have HO3:Hid (Off (tkF w) W (w2.setCell ⟨w.heap.size+2,0,none⟩ (.bool b))):=HO1.out.setCell (p:=⟨w.heap.size+2,0,none⟩) (.inl (.inr rfl)) _;cases b
  all_goals go_wp2_with fail
  all_goals go_ret
  all_goals exact⟨rfl,by simpa using HT3.out,HO3.out⟩
theorem Qsb (a:Nat→Addr)(s:ByteArray)(ok:Bool)(m:Int)(w W:World)(hs:s.size≤40000)(hE:J6 w a)(hm:w.cell? ⟨14,0,none⟩=some (.int .i64 m))(hT:TkS w W s ok) :
 Calls Tryz.prog 269 #[.pointer (some ⟨w.heap.size+3,0,none⟩),.pointer (some ⟨w.heap.size+2,0,none⟩)] W fun e w'=>∃v,e=.returned (qg (Qs (tUp 10 s.data.toList ok).1).1 v)∧Zb W.heap.size w' v (Qs (tUp 10 s.data.toList ok).1).1.2.2.2∧TkS w w' ⟨(Gr s.data.toList ok).2.1.toArray⟩ (Gr s.data.toList ok).2.2∧Off (tkF w) W w':=by
 have hal:=(Below.refl _ W).alloc wz (.cells #[.string ⟨#[]⟩,.int .i64 0,.int .u32 0,.slice none 0 0] 40);have HRB:=Qa (Blk.new W #[.string ⟨#[]⟩,.int .i64 0,.int .u32 0,.slice none 0 0] 40);have HB0:=Qa hal;have HT0:=Qa (hT.next hal);have HU:=Qa (Qgq 10 s ok m w _ (by omega) hm (hT.next hal));have HWl:Hid (w.heap.size+3<W.heap.size):=hT.bf.lt;have hl:=Qa2 10 s.data.toList ok;have hf:(Gr s.data.toList ok)=(Quu (Qs (tUp 10 s.data.toList ok).1).1,(tUp 10 s.data.toList ok).2.1,(tUp 10 s.data.toList ok).2.2&&decide ((Qs (tUp 10 s.data.toList ok).1).2=(0,-1))):=rfl;rw[hf];obtain⟨x,hx⟩:∃x,tUp 10 s.data.toList ok=x:=⟨_,rfl⟩;rw[hx]at hl HU ⊢;clear hx hf;obtain⟨p,r,b⟩:=x;simp only at hl HU ⊢;obtain⟨P,hP⟩:∃P:ByteArray,(⟨p.toArray⟩:ByteArray)=P:=⟨_,rfl⟩;have hPd:P.data.toList=p:=by rw[←hP]
 have hPs:P.size≤40000:=by have h1:P.data.toList.length=P.size:=Qh P;have h2:s.data.toList.length=s.size:=Qh s;rw[hPd]at h1;omega
 obtain⟨R,hR⟩:∃R:ByteArray,(⟨r.toArray⟩:ByteArray)=R:=⟨_,rfl⟩;rw[hP,hR]at HU;rw[hR];have HRD:=Qa (fun V (hb:Below w.heap.size w V)=>Qrh a P hPs m V (hE.below hb wz) ((hb.cell (p:=⟨14,0,none⟩) (lt_of_cell hm)).trans hm));rw[hPd]at HRD;obtain⟨⟨d,f⟩,hdf⟩:∃o,Qs p=o:=⟨_,rfl⟩;rw[hdf]at HRD ⊢;simp only at HRD ⊢;obtain⟨dn,dl,dp,di⟩:=d;simp only[qg]at HRD ⊢;obtain⟨NM,hNM⟩:∃NM:ByteArray,(⟨dn.toArray⟩:ByteArray)=NM:=⟨_,rfl⟩;rw[hNM]at HRD ⊢;have f0:=(hT.next hal).bf.cell (i:=0) rfl;clear hl hP hPd hPs hR hdf hNM hT hm hs hal hE;go_enter Tryz.func269,Tryz.ntmps269;go_wp2_with fail;generalize W.alloc (.cells #[.string ⟨#[]⟩,.int .i64 0,.int .u32 0,.slice none 0 0] 40)=W0 at *;refine HU.out.mono ?_;rintro e w1 ⟨rfl,hT1,hO1⟩;have HT1:=Qa hT1;have HO1:Hid (Off (tkF w) W w1):=(Off.of_below HB0.out).trans hO1 (fun _ _ h=>h);have HRB1:Hid (Blk w1 W.heap.size #[.string ⟨#[]⟩,.int .i64 0,.int .u32 0,.slice none 0 0] 40):=hO1.blk HRB.out (by have:=HWl.out;rintro(h|h)<;>omega);have HS1:Hid (W.heap.size<w1.heap.size):=HRB1.out.lt;clear hT1 hO1 f0 HU;go_wp2_with fail;refine(HRD.out _ HT1.out.bl).mono ?_;rintro e w2 ⟨v,ev,rfl,hids,hev,hb2⟩;obtain⟨pv,cv,rfl,_⟩:=id hids;have hal2:=(Below.refl _ w2).alloc wz (.cells #[.string NM,.int .i64 dl,.int .u32 (dp:Nat),.slice pv di.length cv] 40);have HXB:=Qa (Blk.new w2 #[.string NM,.int .i64 dl,.int .u32 (dp:Nat),.slice pv di.length cv] 40);have HB2:Hid (Below w1.heap.size w1 (w2.alloc (.cells #[.string NM,.int .i64 dl,.int .u32 (dp:Nat),.slice pv di.length cv] 40))):=hb2.trans (hal2.mono hb2.size);have HS2:Hid (w1.heap.size≤w2.heap.size):=hb2.size;have HB2l:Hid (w.heap.size+2<w1.heap.size):=by show _<_;have:=HWl.out;have:=HS1.out;omega
 have HID:=Qa (hids.below hal2);have HT2:=Qa (HT1.out.next HB2.out);have HRB2:=Qa (HRB1.out.next HB2.out);have HO2:Hid (Off (tkF w) W (w2.alloc (.cells #[.string NM,.int .i64 dl,.int .u32 (dp:Nat),.slice pv di.length cv] 40))):=HO1.out.trans (Off.of_below HB2.out) (fun _ _ h=>h);have hlk:=HT2.out.bk.lt;have k0:=HT2.out.bk.cell (i:=0) rfl;have kf:=HT2.out.bk.frozen 0;have x0:=HXB.out.cell (i:=0) rfl;have x1:=HXB.out.cell (i:=1) rfl;have x2:=HXB.out.cell (i:=2) rfl;have x3:=HXB.out.cell (i:=3) rfl;have r0:=HRB2.out.cell (i:=0) rfl;have r1:=HRB2.out.cell (i:=1) rfl;have r2:=HRB2.out.cell (i:=2) rfl;have r3:=HRB2.out.cell (i:=3) rfl;have g0:=HRB2.out.frozen 0;have g1:=HRB2.out.frozen 1;have g2:=HRB2.out.frozen 2;have g3:=HRB2.out.frozen 3;have hlr:=HRB2.out.lt;have n1:¬w2.heap.size=w.heap.size+2:=by have:=HWl.out;have:=HS1.out;have:=HS2.out;omega
 have n2:¬W.heap.size=w.heap.size+2:=by have:=HWl.out;omega
 have n3:¬w2.heap.size=W.heap.size:=by have:=HS1.out;have:=HS2.out;omega
 have HDF:Hid ((decide (f=((0:Int),(-1:Int)))=true∧ev=.nilIface)∨(decide (f=((0:Int),(-1:Int)))=false∧∃T A,ev=.iface T A)):=by
  by_cases h:f=(0,-1)
  ·rw[if_pos h]at hev;exact .inl ⟨by simpa using h,hev⟩
  ·rw[if_neg h]at hev;exact .inr ⟨by simpa using h,hev⟩
 clear hids hev hb2 hal2;rcases HDF.out with⟨hd,rfl⟩|⟨hd,T,A,rfl⟩
 ·have HT3:=Qa (HT2.out.mark b);have HD:=Qa hd;clear hd;cases b
  all_goals
   go_wp2_with fail;refine bodyPost_ret (v:=rcpV NM dl (dp:Nat) (.slice pv di.length cv)) (by simp[results,Tryz.results269,go_sem,r0,r1,r2,r3]) rfl ⟨.slice pv di.length cv,rfl,?_,?_,?_⟩
   ·exact(((((HID.out.setCell (a:=⟨w.heap.size+2,0,none⟩) HB2l.out _).setCell (a:=⟨W.heap.size,0,none⟩) HS1.out _).setCell (a:=⟨W.heap.size,1,none⟩) HS1.out _).setCell (a:=⟨W.heap.size,2,none⟩) HS1.out _).setCell (a:=⟨W.heap.size,3,none⟩) HS1.out _).low (Nat.le_of_lt HS1.out)
   ·rw[HD.out,Bool.and_true];exact(((HT3.out.other (p:=⟨W.heap.size,0,none⟩) HWl.out _).other (p:=⟨W.heap.size,1,none⟩) HWl.out _).other (p:=⟨W.heap.size,2,none⟩) HWl.out _).other (p:=⟨W.heap.size,3,none⟩) HWl.out _
   ·exact((((HO2.out.setCell (p:=⟨w.heap.size+2,0,none⟩) (.inl (.inr rfl)) _).setCell (p:=⟨W.heap.size,0,none⟩) (.inr wz) _).setCell (p:=⟨W.heap.size,1,none⟩) (.inr wz) _).setCell (p:=⟨W.heap.size,2,none⟩) (.inr wz) _).setCell (p:=⟨W.heap.size,3,none⟩) (.inr wz) _
 ·have HT3:=Qa (HT2.out.mark false);have HD:=Qa hd;clear hd;cases b
  all_goals
   go_wp2_with fail;refine bodyPost_ret (v:=rcpV NM dl (dp:Nat) (.slice pv di.length cv)) (by simp[results,Tryz.results269,go_sem,r0,r1,r2,r3]) rfl ⟨.slice pv di.length cv,rfl,?_,?_,?_⟩
   ·exact(((((HID.out.setCell (a:=⟨w.heap.size+2,0,none⟩) HB2l.out _).setCell (a:=⟨W.heap.size,0,none⟩) HS1.out _).setCell (a:=⟨W.heap.size,1,none⟩) HS1.out _).setCell (a:=⟨W.heap.size,2,none⟩) HS1.out _).setCell (a:=⟨W.heap.size,3,none⟩) HS1.out _).low (Nat.le_of_lt HS1.out)
   ·rw[HD.out,Bool.and_false];exact(((HT3.out.other (p:=⟨W.heap.size,0,none⟩) HWl.out _).other (p:=⟨W.heap.size,1,none⟩) HWl.out _).other (p:=⟨W.heap.size,2,none⟩) HWl.out _).other (p:=⟨W.heap.size,3,none⟩) HWl.out _
   ·exact((((HO2.out.setCell (p:=⟨w.heap.size+2,0,none⟩) (.inl (.inr rfl)) _).setCell (p:=⟨W.heap.size,0,none⟩) (.inr wz) _).setCell (p:=⟨W.heap.size,1,none⟩) (.inr wz) _).setCell (p:=⟨W.heap.size,2,none⟩) (.inr wz) _).setCell (p:=⟨W.heap.size,3,none⟩) (.inr wz) _
def Qpg:Value→Option Int
 | .int .i64 n=>some n
 | _=>none
theorem Qga (v:Value)(c:Int)(h:Qpg v=some c):v=.int .i64 c:=by
 unfold Qpg at h;split at h
 ·cases h;rfl
 ·cases h
def Kh:Qf Tryz.prog 25 (Nat×Int) Int where
 mkK x:=idV (x.1:Nat) x.2
 wf:=Zv
 mkV c:=.int .i64 c
 unV:=Qpg
 K:=Qj6
 key:=Qsz
 inv:=Qsd
 inj:=idBins.inj
 un _:=rfl
 back:=Qga
theorem Qvx:(232:TypeId)<Tryz.prog.types.size:=of_decide_eq_true (by kernel_rfl)
theorem Qvb:(match Tryz.prog.underlying 232 with|some (.array _ _)|some (.struct _)=>true|_=>false)=true:=by rw[Tryz.underlying232]
theorem Qui:Tryz.prog.keyTypeAt 3 232=true:=by kernel_rfl
theorem Qwd:WideMaps.KeyLaw Tryz.prog 232:=deep_law_laid Tryz.laidOut (m:=3) (Nat.le_of_ble_eq_true rfl) Qvx Qui Qvb
theorem Qsn:Keyed Tryz.prog 232:=Keyed.of_law Qwd
theorem Qfk:Tryz.prog.cellsOf 232=4:=by kernel_rfl
theorem Qn2:Tryz.prog.keyType 232=true:=by kernel_rfl
theorem Qpq (a b c d:Value):(Value.agg #[a,b,c,d]).formed Tryz.prog 232=true:=by simp[Value.formed,Tryz.underlying232,Qfk]
theorem Qo0 (n:Nat)(a b c d:Value):Tryz.prog.keyLits (n+1) 232 [a,b,c,d]=(Tryz.prog.keyLits n 25 [a,b]).bind fun x=>(Tryz.prog.keyLits n 25 [c,d]).bind fun y=>some (x++y):=by
 conv=>lhs;unfold Program.keyLits
 rw[Tryz.underlying232];simp only[Qfk];cases h1:Tryz.prog.keyLits n 25 [a,b]<;>cases h2:Tryz.prog.keyLits n 25 [c,d]<;>simp[Qc1,h1,h2]
theorem Qis (v0 v1 v2 v3:Value):keyOf Tryz.prog 232 (.agg #[v0,v1,v2,v3])=(Tryz.prog.keyLits (454+1) 232 [v0,v1,v2,v3]).map fun ls=>.string (keyBytes ls):=by
 unfold keyOf;rw[Tryz.underlying232];simp only[Qn2,Qpq,Bool.and_true,if_true,Qip];rfl
abbrev Use:=(Nat×Int)×(Nat×Int)
abbrev Qv8 (u:Use):Value:=.agg #[.int .u32 (u.1.1:Nat),.int .i64 u.1.2,.int .u32 (u.2.1:Nat),.int .i64 u.2.2]
def Qti (u:Use):Prop:=Zv u.1∧Zv u.2
theorem Qpd:454 - 1=(454 - 2)+1:=rfl
theorem Qwb (u:Use)(h:Qti u):∃kl,keyOf Tryz.prog 232 (Qv8 u)=some kl:=by
 obtain⟨⟨h1,h2⟩,h3,h4⟩:=h;refine⟨.string (keyBytes [.int .u32 (u.1.1:Nat),.int .i64 u.1.2,.int .u32 (u.2.1:Nat),.int .i64 u.2.2]),?_⟩;rw[Qis,Qo0,Qj7,Qgd,Qgd,Qpd,Qb8 _ _ ((wf_u32 _).2 (by omega)),Qb4 _ _ ((wf_i64' _).2 h2),Qb8 _ _ ((wf_u32 _).2 (by omega)),Qb4 _ _ ((wf_i64' _).2 h4)];rfl
theorem Qwa (v:Value)(kl:Lit)(h:keyOf Tryz.prog 232 v=some kl):∃u:Use,Qti u∧v=Qv8 u:=by
 have hf:v.formed Tryz.prog 232=true:=by
  unfold keyOf at h;rw[Tryz.underlying232]at h;cases hv:v.formed Tryz.prog 232 with
  | true=>rfl
  | false=>simp[hv]at h
 obtain⟨cs,rfl,hs⟩:∃cs,v=.agg cs∧cs.size=4:=by cases v<;>simp[Value.formed,Tryz.underlying232,Qfk]at hf;exact⟨_,rfl,hf⟩
 obtain⟨v0,v1,v2,v3,rfl⟩:∃v0 v1 v2 v3,cs = #[v0,v1,v2,v3]:=by
  obtain⟨l⟩:=cs
  match l,hs with
  | [v0,v1,v2,v3],_=>exact⟨v0,v1,v2,v3,rfl⟩
 have hid:∀a b x,Tryz.prog.keyLits 454 25 [a,b]=some x→∃y:Nat×Int,Zv y∧a=.int .u32 (y.1:Nat)∧b=.int .i64 y.2:=fun a b x h=>by
  rw[Qj7,Qgd,Qpd]at h;cases h0:Tryz.prog.keyLits (454 - 2+1) 23 [a]with
  | none=>rw[h0]at h;cases h
  | some p=>
   cases h1:Tryz.prog.keyLits (454 - 2+1) 3 [b]with
   | none=>rw[h0,h1]at h;cases h
   | some q=>
    obtain⟨n,rfl,hn,_⟩:=Qoo _ _ _ h0;obtain⟨m,rfl,hm,_⟩:=Qpb _ _ _ h1;rw[wf_u32]at hn;rw[wf_i64']at hm;have e:((n.toNat:Nat):Int)=n:=(by omega);exact⟨(n.toNat,m),⟨by omega,hm⟩,by simp only[e],rfl⟩
 rw[Qis,Qo0]at h;cases h0:Tryz.prog.keyLits 454 25 [v0,v1]with
 | none=>rw[h0]at h;cases h
 | some p=>
  cases h1:Tryz.prog.keyLits 454 25 [v2,v3]with
  | none=>rw[h0,h1]at h;cases h
  | some q=>
   obtain⟨y,hy,rfl,rfl⟩:=hid _ _ _ h0;obtain⟨z,hz,rfl,rfl⟩:=hid _ _ _ h1;exact⟨(y,z),⟨hy,hz⟩,rfl⟩
def Jq:Qf Tryz.prog 232 Use Int where
 mkK:=Qv8
 wf:=Qti
 mkV c:=.int .i64 c
 unV:=Qpg
 K:=Qsn
 key:=Qwb
 inv:=Qwa
 inj x y e:=by have e1:=Array.mk.inj (Value.agg.inj e);simp at e1;exact Prod.ext (Prod.ext (by omega) e1.2.1) (Prod.ext (by omega) e1.2.2.2)
 un _:=rfl
 back:=Qga
theorem Gl (w:World):(zeroValue 3).run Tryz.prog w=.ok (.int .i64 0) w:=by kernel_rfl
section
variable {P:Program} {k:TypeId} {κ β:Type}
structure Qf.Fn (M:Qf P k κ β)(w:World)(b n:Nat)(f:κ→Option β):Prop where
 of:∃l,M.Of w b l∧l.length≤n∧∀x c,(x,c)∈l↔f x=some c
variable {M:Qf P k κ β} {w w':World} {b n:Nat} {f:κ→Option β}
theorem Qf.Fn.lt (h:M.Fn w b n f):b<w.heap.size:=by
 obtain⟨l,hl,_⟩:=h.of;exact hl.lt
theorem Qf.Fn.made (M:Qf P k κ β)(w:World):M.Fn (w.alloc (.map #[] 0)) w.heap.size 0 (fun _=>none):=
 ⟨⟨[],Qf.Of.made M w,wz,fun x c=>by simp⟩⟩
theorem Qf.Fn.moved (h:M.Fn w b n f)(e:w'.heap[b]? = w.heap[b]?):M.Fn w' b n f:=by
 obtain⟨l,hl,h1,h2⟩:=h.of;exact⟨⟨l,hl.moved e,h1,h2⟩⟩
theorem Qf.Fn.below (h:M.Fn w b n f)(hb:Below w.heap.size w w'):M.Fn w' b n f:=h.moved (hb.block b h.lt)
theorem Qf.Fn.off {F:Nat→Prop}(h:M.Fn w b n f)(ho:Off F w w')(hn:¬F b):M.Fn w' b n f:=h.moved (ho.block b h.lt hn)
theorem Qf.Fn.drew (h:M.Fn w b n f):M.Fn w.drew b n f:=h.below (Below.refl _ w).drew
theorem Qf.Fn.mono {m:Nat}(h:M.Fn w b n f)(hm:n≤m):M.Fn w b m f:=by
 obtain⟨l,hl,h1,h2⟩:=h.of;exact⟨⟨l,hl,Nat.le_trans h1 hm,h2⟩⟩
theorem Qf.Fn.look2 {t e:TypeId}{c0:β}(h:M.Fn w b n f)(ht:P.underlying t=some (.map k e))(hz:(zeroValue e).run P w=.ok (M.mkV c0) w){x:κ}(hx:M.wf x) :
 (Instr.lookup t (.map (some b)) (M.mkK x) true).run P w=.ok (.tuple #[M.mkV ((f x).getD c0),.bool (f x).isSome]) w:=by
 obtain⟨l,hl,_,h2⟩:=h.of;cases hf:f x with
 | none=>
  refine hl.look_none ht hz hx (fun y hy e => ?_);have:=(h2 y.1 y.2).1 hy;rw[e,hf]at this;cases this
 | some c=>exact hl.look_some ht hz ((h2 x c).2 hf)
theorem Qf.Fn.store [DecidableEq κ]{t e:TypeId}(h:M.Fn w b n f)(ht:P.underlying t=some (.map k e)){x:κ}(hx:M.wf x)(c:β)(hn:n<maxLen) :
 ∃w',(Instr.mapUpdate t (.map (some b)) (M.mkK x) (M.mkV c)).run P w=.ok () w'∧M.Fn w' b (n+1) (fun y=>if y=x then some c else f y)∧w.grownBy w' (some b):=by
 obtain⟨l,hl,h1,h2⟩:=h.of;obtain⟨w',hr,hO,hg⟩:=hl.store ht hx c (by omega);refine⟨w',hr,⟨⟨_,hO _ (List.Perm.refl _),?_,fun y d => ?_⟩⟩,hg⟩
 ·have:=List.length_filter_le (fun h:κ×β => !decide (h.1=x)) l;rw[List.length_cons];omega
 ·rw[List.mem_cons,List.mem_filter];by_cases e:y=x
  ·subst e;simp only[if_true];constructor
   ·rintro(h|⟨_,h⟩)
    ·rw[(Prod.mk.inj h).2]
    ·simp at h
   ·intro h;exact .inl (by rw[Option.some.inj h])
  ·simp only[if_neg e];rw[h2];constructor
   ·rintro(h|⟨h,_⟩)
    ·exact absurd (Prod.mk.inj h).1 e
    ·exact h
   ·exact fun h=>.inr ⟨h,by simp[e]⟩
theorem Qf.Fn.look1 {t e:TypeId}{c0:β}(h:M.Fn w b n f)(ht:P.underlying t=some (.map k e))(hz:(zeroValue e).run P w=.ok (M.mkV c0) w){x:κ}(hx:M.wf x) :
 (Instr.lookup t (.map (some b)) (M.mkK x) false).run P w=.ok (M.mkV ((f x).getD c0)) w:=by
 obtain⟨l,hl,_,h2⟩:=h.of;obtain⟨ds,ho,hp⟩:=hl.own;obtain⟨v,ps,hrun,hv⟩:=ho.lookup M.K ht hz (M.R_mk c0) (M.key_kl hx);cases hf:f x with
 | none=>
  have hno:∀p∈ds,p.1≠M.kl x:=fun p hm e=>by obtain⟨y,hy,rfl⟩:=List.mem_map.1 (hp.mem_iff.1 hm);have e1:y.1=x:=M.kl_inj (hl.wf y hy) hx e;have:=(h2 y.1 y.2).1 hy;rw[e1,hf]at this;cases this
  rw[WideAt.atKey_none _ hno]at hv;obtain⟨c,rfl,e⟩:=M.R_inv hv;have ev:M.mkV c0=M.mkV c:=DataW.held.inj (Prod.mk.inj e).1;rw[hrun,←ev];rfl
 | some c=>
  obtain⟨es,e,hap,_⟩:=ho.entries M.K;cases e;have hd:(M.kl x,DataW.held (M.mkV c))∈ds:=hp.mem_iff.2 (List.mem_map.2 ⟨_,(h2 x c).2 hf,rfl⟩);rw[WideAt.atKey_mem _ (M.isKey hx) hap hd]at hv;obtain⟨c',rfl,e⟩:=M.R_inv hv;have ev:M.mkV c=M.mkV c':=DataW.held.inj (Prod.mk.inj e).1;rw[hrun,←ev];rfl
theorem Qhw {w:World}{b:Nat}{o:Obj}(h:w.heap[b]? = some o):ChangeMaps.setBlock w b o=w:=by
 unfold ChangeMaps.setBlock;have:w.heap.setIfInBounds b o=w.heap:=by
  apply Array.ext_getElem?;intro i;by_cases e:b=i
  ·subst e;rw[Array.getElem?_setIfInBounds_self_of_lt (Array.getElem?_eq_some_iff.1 h).1,h]
  ·rw[Array.getElem?_setIfInBounds_ne e]
 rw[this]
open Go.WideElems Go.MapKept Go.ChangeMaps in
theorem Ql2 {H:Type}{t e:TypeId}{R:Value→Option (DataW H×List MemPlace)}{es:Array MapEntry}{clock:Nat}(K:Keyed P k)(ht:P.underlying t=some (.map k e))(hb:w.heap[b]? = some (.map es clock))(F:Fit P k R es clock)
 {key:Value}{kl:Lit}(hkey:keyOf P k key=some kl)(hex:∃e0∈es.toList,e0.key=key) :
 ∃(v0:Value) (st:Nat),(Instr.mapEntry t (.map (some b)) key).run P w=.ok (.tuple #[v0,goInt st]) w∧∀val,∃w',(Instr.entryStore t (.map (some b)) (goInt st) val).run P w=.ok () w'∧(Instr.mapUpdate t (.map (some b)) key val).run P w=.ok () w':=by
 obtain⟨s1,s2,_⟩:=F.stamped;have hks:∀x∈es.toList,∃l,keyOf P k x.key=some l:=fun x hx=>by obtain⟨y,hy⟩:=F.reads x hx;exact⟨_,rd_key hy⟩
 rcases K.find w hkey es.toList hks with⟨_,h2⟩|⟨j,e0,h1,h2,h3⟩
 ·obtain⟨e0,he,h3⟩:=hex;exact absurd h3 (h2 e0 he)
 ·have hj:es[j]? = some e0:=by simpa using h2
  have hsame:es.modify j (fun e=>{ e with key:=key })=es:=by apply Array.ext';rw[Array.toList_modify,modify_eq_set _ _ _ _ h2];have:({ e0 with key:=key }:MapEntry)=e0:=(by rw[←h3]);rw[this];exact set_self _ _ _ h2
  refine⟨e0.val,e0.born,?_,fun val=>⟨setBlock w b (.map (es.modify j (fun e'=>{ e' with key:=key,val:=val })) clock),?_,?_⟩⟩
  ·have h:(Instr.mapEntry t (.map (some b)) key).run P w=.ok (.tuple #[e0.val,goInt e0.born]) (setBlock w b (.map es clock)):=(by simp[Instr.mapEntry,run_underlying ht,MapKept.run_getObj_map hb,K.check w false hkey,h1,hj,h3,K.stays w hkey,hsame,MapKept.run_setObj_map _ hb,Result.andThen,setBlock]);rw[h,Qhw hb]
  ·have hidx:es.findIdx? (fun e=>((e.born:Nat):Int)==((e0.born:Nat):Int))=some j:=(by rw[findIdx_arr];exact findIdx_born s2 h2);have hmod:es.modify j (fun e=>{ e with val:=val })=es.modify j (fun e'=>{ e' with key:=key,val:=val }):=(by apply Array.ext';rw[Array.toList_modify,Array.toList_modify,modify_eq_set _ _ _ _ h2,modify_eq_set _ _ _ _ h2,←h3]);simp[Instr.entryStore,MapKept.run_getObj_map hb,asInt,asIntOf,goInt,hidx,hmod,MapKept.run_setObj_map _ hb,Result.andThen,setBlock]
  ·simp[Instr.mapUpdate,run_underlying ht,MapKept.run_getObj_map hb,K.check w false hkey,h1,hj,h3,K.stays w hkey,MapKept.run_setObj_map _ hb,Result.andThen,setBlock]
theorem Qf.Fn.more [DecidableEq κ]{t e:TypeId}(h:M.Fn w b n f)(ht:P.underlying t=some (.map k e)){x:κ}(hx:M.wf x){c0:β}(hc:f x=some c0)(c:β)(hn:n<maxLen) :
 ∃(v0:Value) (st:Nat) (w':World),(Instr.mapEntry t (.map (some b)) (M.mkK x)).run P w=.ok (.tuple #[v0,goInt st]) w∧(Instr.entryStore t (.map (some b)) (goInt st) (M.mkV c)).run P w=.ok () w'∧M.Fn w' b (n+1) (fun y=>if y=x then some c else f y)∧w.grownBy w' (some b):=by
 obtain⟨w',hr,hF,hg⟩:=h.store ht hx c hn;obtain⟨l,hl,h1,h2⟩:=h.of;obtain⟨ds,⟨es,clock,hb,F,hs,hD⟩,hp⟩:=hl.own;have hex:∃e0∈es.toList,e0.key=M.mkK x:=by have hd:(M.kl x,DataW.held (M.mkV c0))∈ds:=hp.mem_iff.2 (List.mem_map.2 ⟨_,(h2 x c0).2 hc,rfl⟩);have e:ds=(es.toList.map (WideElems.rg P k M.R)).foldr DataW.insert []:=DataW.map.inj hD;rw[e]at hd;obtain⟨y,hy,hye⟩:=List.mem_map.1 (mem_sorted.1 hd);obtain⟨z,hz⟩:=F.reads y hy;rw[WideElems.rg_of hz]at hye;have hk:=WideElems.rd_key hz;rw[hye]at hk;exact⟨y,hy,M.K.inj hk (M.key_kl hx)⟩
 obtain⟨v0,st,hent,hst⟩:=Ql2 M.K ht hb F (M.key_kl hx) hex;obtain⟨w'',h3,h4⟩:=hst (M.mkV c);have e:w''=w':=by rw[hr]at h4;injection h4 with _ h5;exact h5.symm
 exact⟨v0,st,w',hent,by rw[h3,e],hF,hg⟩
end
open Go.RowKit Go.Maps
structure Qjm (w:World)(b o:Nat)(v:Value)(x:Qr):Prop where
 lt:b<w.heap.size
 c0:w.cell? ⟨b,o,none⟩=some (.int .u32 (x.1.1:Nat))
 c1:w.cell? ⟨b,o+1,none⟩=some (.int .i64 x.1.2)
 c2:w.cell? ⟨b,o+2,none⟩=some v
 helds:Q4 w v x.2
theorem Qjm.below {w w':World}{b o:Nat}{v:Value}{x:Qr}(h:Qjm w b o v x)(hb:Below w.heap.size w w'):Qjm w' b o v x:=
 ⟨Nat.lt_of_lt_of_le h.lt hb.size,(hb.cell (p:=⟨b,o,none⟩) h.lt).trans h.c0,(hb.cell (p:=⟨b,o+1,none⟩) h.lt).trans h.c1,(hb.cell (p:=⟨b,o+2,none⟩) h.lt).trans h.c2,h.helds.below hb⟩
def Y3 (w:World)(v:Value)(bs:List Qr):Prop:=
 ∃(p:Option Addr) (c:Nat),v=.slice p bs.length c∧∀i (h:i<bs.length),∃b o vi,p=some ⟨b,o,none⟩∧Qjm w b (o+i*3) vi bs[i]
theorem Y3.below {w w':World}{v:Value}{bs:List Qr}(h:Y3 w v bs)(hb:Below w.heap.size w w'):Y3 w' v bs:=by
 obtain⟨p,c,rfl,h⟩:=h;refine⟨p,c,rfl,fun i hi => ?_⟩;obtain⟨b,o,vi,hp,hr⟩:=h i hi;exact⟨b,o,vi,hp,hr.below hb⟩
def Jk (bs:List Qr)(r:Nat×Int):Option Int:=if bs.any (fun b=>decide (b.1=r))=true then some 0 else none
def Jp (bs:List Qr)(u:Use):Option Int:=
 match Zi bs u.1 with
 | none=>none
 | some l=>if l.any (fun h=>decide (h.1=u.2))=true then some 0 else none
def bump {κ:Type}[DecidableEq κ](f:κ→Option Int)(x:κ):κ→Option Int:=fun y=>if y=x then (f x).map (· + 1) else f y
def Jd (f:Use→Option Int)(r:Nat×Int):List (Nat×Int)→Use→Option Int
 | []=>f
 | i::l=>Jd (bump f (r,i)) r l
def qb (a:Nat→Addr)(ev:Value)(c:Int):Prop:=(c=0∧ev=.nilIface)∨∃i:Nat,i<12∧c=(i:Int)+1∧ev=sentV a i
theorem qb.nil {a:Nat→Addr}{ev:Value}(h:qb a ev 0):ev=.nilIface:=by
 rcases h with h|⟨i,_,h,_⟩
 ·exact h.2
 ·omega
def Xc (F:Nat×Int→Option Int)(U:Use→Option Int)(r:Rcp):Int:=
 if (F (Qv r)).isSome=true∧r.2.2.2.all (fun i=>(U (Qv r,i)).isSome)=true then 0 else 5
theorem Qer (a b:List Qr)(x:Nat×Int):Zi (a++b) x=(Zi a x).or (Zi b x):=by
 induction a with
 | nil=>simp[Zi]
 | cons c r ih=>
  rw[List.cons_append,Zi,Zi];split
  ·rfl
  ·exact ih
theorem Qgb (bs:List Qr)(b:Qr):Jk (bs++[b])=fun y=>if y=b.1 then some 0 else Jk bs y:=by
 funext y
 unfold Jk;rw[List.any_append];by_cases e:y=b.1
 ·subst e;simp
 ·have e':¬b.1=y:=fun h=>e h.symm;rw[if_neg e];simp only[List.any_cons,List.any_nil,decide_eq_false e',Bool.or_false]
theorem Uy (bs:List Qr)(r:Nat×Int):(Jk bs r).isSome=(Zi bs r).isSome:=by
 induction bs with
 | nil=>rfl
 | cons c l ih=>
  rw[Zi];unfold Jk at *;rw[List.any_cons];by_cases e:c.1=r
  ·simp[e]
  ·simp only[e,decide_false,Bool.false_or,if_false];exact ih
theorem Qqk {bs:List Qr}{b:Qr}(h:(Jk bs b.1).isSome=true):Jk (bs++[b])=Jk bs:=by
 rw[Qgb]
 funext y
 split
 ·rename_i e
  subst e;unfold Jk at *;split at h
  ·rename_i h2
   rw[if_pos h2]
  ·cases h
 ·rfl
theorem Qp7 {bs:List Qr}{b:Qr}(h:(Jk bs b.1).isSome=true):Jp (bs++[b])=Jp bs:=by
 rw[Uy]at h
 funext u
 unfold Jp;rw[Qer];cases hn:Zi bs u.1 with
 | some l=>rfl
 | none=>
  have:¬b.1=u.1:=fun e=>by rw[e,hn]at h;cases h
  simp[Zi,this]
def qx (bs:List Qr)(r:Nat×Int)(l:List Hd)(u:Use):Option Int:=if u.1=r then (if l.any (fun h=>decide (h.1=u.2))=true then some 0 else none) else Jp bs u
theorem Qqn {bs:List Qr}{r:Nat×Int}(h:Jk bs r=none):qx bs r []=Jp bs:=by
 funext u
 unfold qx;split
 ·rename_i e
  have:Zi bs u.1=none:=by
   rw[e];have:=Uy bs r;rw[h]at this;cases hn:Zi bs r with
   | none=>rfl
   | some l=>rw[hn]at this;cases this
  unfold Jp;rw[this];rfl
 ·rfl
theorem Qmv (bs:List Qr)(r:Nat×Int)(l:List Hd)(h:Hd):qx bs r (l++[h])=fun u=>if u=(r,h.1) then some 0 else qx bs r l u:=by
 funext u
 unfold qx;rw[List.any_append];obtain⟨u1,u2⟩:=u;by_cases e:u1=r
 ·subst e;by_cases e2:u2=h.1
  ·subst e2;simp
  ·have e3:¬h.1=u2:=fun h=>e2 h.symm;have e4:¬(u1,u2)=(u1,h.1):=fun h=>e2 (Prod.mk.inj h).2;rw[if_neg e4];simp only[List.any_cons,List.any_nil,decide_eq_false e3,Bool.or_false]
 ·simp[e]
theorem Qrd {bs:List Qr}{b:Qr}(h:Jk bs b.1=none):qx bs b.1 b.2=Jp (bs++[b]):=by
 have hn:Zi bs b.1=none:=by
  have:=Uy bs b.1;rw[h]at this;cases hn:Zi bs b.1 with
  | none=>rfl
  | some l=>rw[hn]at this;cases this
 funext u
 unfold qx Jp;rw[Qer];by_cases e:u.1=b.1
 ·rw[if_pos e,e,hn];simp[Zi]
 ·have e':¬b.1=u.1:=fun h=>e h.symm;rw[if_neg e];cases hx:Zi bs u.1 with
  | some l=>rfl
  | none=>simp[Zi,e']
theorem Qqv (v:Value)(bs:List Qr)(w:World)(hv:Y3 w v bs)(hwf:∀b∈bs,Zv b.1∧∀h∈b.2,Zv h.1)(hn:bs.length≤100)(hm:∀b∈bs,b.2.length≤1000) :
 Calls Tryz.prog 82 #[v] w fun e w'=>∃mf mu,e=.returned (.agg #[.map (some mf),.map (some mu)])∧Kh.Fn w' mf 100 (Jk bs)∧Jq.Fn w' mu 100000 (Jp bs)∧(mf≠mu∧w.heap.size≤mf∧w.heap.size≤mu)∧Below w.heap.size w w':=by
 have HV:=Qa hv;have HWF:=Qa hwf;have HM:=Qa hm;obtain⟨pa,ca,rfl,_⟩:=hv;have hmm := @run_makeMap Tryz.prog;have hn':(bs.length:Int)≤100:=by omega
 clear hwf hm;have hb0:=(Below.refl _ w).alloc wz (.cells #[.map none,.map none] 138);have hR0:=Blk.new w #[.map none,.map none] 138;generalize hW0:w.alloc (.cells #[.map none,.map none] 138)=W0 at *;have hs0:W0.heap.size=w.heap.size+1:=by rw[←hW0];simp
 have hb1:=(Below.refl _ W0).alloc wz (.map #[] 0);have hM1:=Qf.Fn.made Kh W0;have hb2:=(Below.refl _ (W0.alloc (.map #[] 0))).alloc wz (.map #[] 0);have hM2:=Qf.Fn.made Jq (W0.alloc (.map #[] 0));have hb3:=(Below.refl _ ((W0.alloc (.map #[] 0)).alloc (.map #[] 0))).alloc wz (.cells #[.map (some (w.heap.size+1)),.map (some (w.heap.size+1+1))] 138);have hB:=Blk.new ((W0.alloc (.map #[] 0)).alloc (.map #[] 0)) #[.map (some (w.heap.size+1)),.map (some (w.heap.size+1+1))] 138;have hs1:(W0.alloc (.map #[] 0)).heap.size=w.heap.size+1+1:=by simp[hs0]
 have hs2:((W0.alloc (.map #[] 0)).alloc (.map #[] 0)).heap.size=w.heap.size+1+1+1:=by simp[hs0]
 rw[hs2]at hB;rw[hs1]at hM2;rw[hs0]at hM1;have HFa:=Qa ((hM1.below hb2).below hb3);have HUa:=Qa (hM2.below hb3);have HRa:=Qa ((((hR0.next hb1).next hb2).next hb3));have HCa:=Qa hB;have HBa:Hid (Below w.heap.size w _):=Qa (hb0.trans ((hb1.mono (by omega)).trans ((hb2.mono (by rw[hs1];omega)).trans (hb3.mono (by rw[hs2];omega)))));subst hW0;clear hb0 hR0 hs0 hb1 hM1 hb2 hM2 hb3 hB hs1 hs2;go_enter Tryz.func82,Tryz.ntmps82;go_wp2_with fail;generalize ((((w.alloc (.cells #[.map none,.map none] 138)).alloc (.map #[] 0)).alloc (.map #[] 0)).alloc (.cells #[.map (some (w.heap.size+1)),.map (some (w.heap.size+1+1))] 138))=Wa at *;have HNE:Hid (w.heap.size+1≠w.heap.size+1+1∧(w.heap.size+1≠w.heap.size∧w.heap.size+1+1≠w.heap.size)∧(w.heap.size+1+1+1≠w.heap.size+1∧w.heap.size+1+1+1≠w.heap.size+1+1)∧w.heap.size≤w.heap.size+1∧w.heap.size≤w.heap.size+1+1):=⟨by omega,⟨by omega,by omega⟩,⟨by omega,by omega⟩,by omega,by omega⟩;generalize w.heap.size+1+1+1=CB at *;generalize w.heap.size+1+1=mu at *;generalize w.heap.size+1=mf at *;obtain⟨R0,hR0⟩:∃R0,w.heap.size=R0:=⟨_,rfl⟩;have HR0:=Qa hR0;rw[hR0]at HRa HNE ⊢;clear hR0
 go_loopw [15] (fun iv wr=>∃(i n2:Nat),i≤bs.length∧iv=.int .i64 i∧Hid (Kh.Fn wr mf i (Jk (bs.take i)))∧Hid (Jq.Fn wr mu n2 (Jp (bs.take i)))∧Hid (n2≤1000*i)∧Hid (Blk wr CB #[.map (some mf),.map (some mu)] 138)∧Hid (Blk wr R0 #[.map none,.map none] 138)∧Hid (Below w.heap.size w wr)) (fun iv _=>bs.length - (intOf iv).toNat)
 case atStart=>exact⟨0,0,Nat.zero_le _,rfl,HFa.out,HUa.out,wz,HCa.out,HRa.out,HBa.out⟩
 case round=>
  clear HFa HUa HCa HRa HBa;obtain⟨i,n2,hi,rfl,HF,HU,HN2,HC,HR,HB⟩:=hrel;by_cases hlt:i<bs.length
  ·have hlt':(i:Int)<(bs.length:Int):=(by omega);have hi0:(0:Int)≤(i:Int):=(by omega);obtain⟨_,_,hve,hcell⟩:=HV.out;obtain⟨rfl,rfl⟩:pa=_∧ca=_:=(by simpa using hve);obtain⟨b,o,vi,rfl,hL0⟩:=hcell i hlt;have HTK:=Qa (List.take_succ_eq_append_getElem hlt);have HW:=Qa (HWF.out bs[i] (List.getElem_mem hlt));have HML:=Qa (HM.out bs[i] (List.getElem_mem hlt));obtain⟨⟨⟨rp,rl⟩,l⟩,hx⟩:∃x,bs[i]=x:=⟨_,rfl⟩;rw[hx]at hL0 HTK HW HML;obtain⟨ph,ch,hvh,_⟩:=hL0.helds;simp only at hvh HW HML;subst hvh;have HHD:Hid (∀W',Below w.heap.size w W'→Q4 W' (.slice ph l.length ch) l):=fun W' hb=>hL0.helds.below hb;have hL:=hL0.below HB.out;have c0:=hL.c0;have c1:=hL.c1;have c2:=hL.c2;simp only at c0 c1 c2;have hml':(l.length:Int)≤1000:=(by have:=HML.out;omega);clear hcell hve hx hL hL0;have hal:=(Below.refl _ wr).alloc wz (.cells #[.int .u32 (rp:Nat),.int .i64 rl,.slice ph l.length ch] 60);have HLB:=Qa (Blk.new wr #[.int .u32 (rp:Nat),.int .i64 rl,.slice ph l.length ch] 60);have HF1:=Qa (HF.out.below hal);have HU1:=Qa (HU.out.below hal);have HC1:=Qa (HC.out.next hal);have HR1:=Qa (HR.out.next hal);have HB1:Hid (Below w.heap.size w _):=Qa (HB.out.trans (hal.mono HB.out.size));have HSZ:Hid (mf<wr.heap.size∧mu<wr.heap.size∧CB<wr.heap.size∧R0<wr.heap.size∧w.heap.size≤wr.heap.size):=⟨HF.out.lt,HU.out.lt,HC.out.lt,HR.out.lt,HB.out.size⟩;have e0:=HC1.out.cell (i:=0) rfl;have e1:=HC1.out.cell (i:=1) rfl;have k0:=HLB.out.cell (i:=0) rfl;have k1:=HLB.out.cell (i:=1) rfl;have k2:=HLB.out.cell (i:=2) rfl;have l0:=HF1.out.look2 Tryz.underlying135 (Gl _) HW.out.1;change(Instr.lookup 135 (.map (some mf)) (idV (rp:Nat) rl) true).run Tryz.prog _=.ok (.tuple #[.int .i64 ((Jk (bs.take i) (rp,rl)).getD 0),.bool (Jk (bs.take i) (rp,rl)).isSome]) _ at l0;clear hal HF HU HC HR;cases hz:Jk (bs.take i) (rp,rl)with
   | some z0=>
    rw[hz]at l0;simp only[Option.getD_some,Option.isSome_some]at l0;have HOF:=Qa (Qqk (bs:=bs.take i) (b:=((rp,rl),l)) (by rw[hz];rfl));have HOU:=Qa (Qp7 (bs:=bs.take i) (b:=((rp,rl),l)) (by rw[hz];rfl));clear hz;go_wp2_with fail;go_roundw
    case rel=>exact⟨i+1,n2,hlt,by go_num,by show Kh.Fn _ _ _ _;rw[HTK.out,HOF.out];exact HF1.out.mono (by omega),by show Jq.Fn _ _ _ _;rw[HTK.out,HOU.out];exact HU1.out,by show _≤_;have:=HN2.out;omega,HC1.out,HR1.out,HB1.out⟩
    case measure=>simp[intOf];omega
   | none=>
    rw[hz]at l0;simp only[Option.getD_none,Option.isSome_none]at l0;have HZ:=Qa hz;obtain⟨w2,hst,hF2,hg2⟩:=HF1.out.store Tryz.underlying135 HW.out.1 0 (by unfold maxLen;omega);change(Instr.mapUpdate 135 (.map (some mf)) (idV (rp:Nat) rl) (.int .i64 0)).run Tryz.prog _=_ at hst;have ho2:Off (fun k=>k=mf) _ w2:=Q7 hg2 rfl;have hne:=HNE.out;have hsz:=HSZ.out;have HF2:Hid (Kh.Fn w2 mf (i+1) (Jk (bs.take (i+1)))):=by show Kh.Fn _ _ _ _;rw[HTK.out,Qgb];exact hF2
    have HU2:Hid (Jq.Fn w2 mu n2 (qx (bs.take i) (rp,rl) [])):=(by show Jq.Fn _ _ _ _;rw[Qqn HZ.out];exact HU1.out.off ho2 (fun e=>hne.1 e.symm));have HC2:=Qa (ho2.blk HC1.out (fun e=>hne.2.2.1.1 e));have HR2:=Qa (ho2.blk HR1.out (fun e=>hne.2.1.1 e.symm));have HL2:=Qa (ho2.blk HLB.out (fun e=>by omega));have HB2:Hid (Below w.heap.size w w2):=HB1.out.trans (ho2.below HB1.out.size (fun k hk e=>by have:=HR0.out;omega));have HSZ2:Hid (wr.heap.size<w2.heap.size):=HL2.out.lt;have k2':=HL2.out.cell (i:=2) rfl;clear hF2 hg2 ho2 hne hsz;go_wp2_with fail;clear c0 c1 c2 e0 e1 k0 k1 k2 k2' l0 hst HF1 HU1 HC1 HR1 HLB HB1;obtain⟨LB,hLB⟩:∃LB,wr.heap.size=LB:=⟨_,rfl⟩;rw[hLB]at HL2 HSZ HSZ2 ⊢;clear hLB
    go_loopw [35] (fun jv wr2=>∃(j n3:Nat),j≤l.length∧jv=.int .i64 j∧Hid (Kh.Fn wr2 mf (i+1) (Jk (bs.take (i+1))))∧Hid (Jq.Fn wr2 mu n3 (qx (bs.take i) (rp,rl) (l.take j)))∧Hid (n3≤1000*i+j)∧Hid (Blk wr2 CB #[.map (some mf),.map (some mu)] 138)∧Hid (Blk wr2 R0 #[.map none,.map none] 138)∧Hid (Blk wr2 LB #[.int .u32 (rp:Nat),.int .i64 rl,.slice ph l.length ch] 60)∧Hid (Below w.heap.size w wr2)) (fun jv _=>l.length - (intOf jv).toNat)
    case atStart=>exact⟨0,n2,Nat.zero_le _,rfl,HF2.out,HU2.out,HN2.out,HC2.out,HR2.out,HL2.out,HB2.out⟩
    case round=>
     clear HF2 HU2 HC2 HR2 HL2 HB2;obtain⟨j,n3,hj,rfl,HF3,HU3,HN3,HC3,HR3,HL3,HB3⟩:=hrel;by_cases hjl:j<l.length
     ·have hjl':(j:Int)<(l.length:Int):=(by omega);have hj0:(0:Int)≤(j:Int):=(by omega);obtain⟨_,_,hve,hcell⟩:=HHD.out wr HB3.out;obtain⟨rfl,rfl⟩:ph=_∧ch=_:=(by simpa using hve);obtain⟨b2,o2,rfl,_,d0,d1,d2,d3⟩:=hcell j hjl;have HTJ:=Qa (List.take_succ_eq_append_getElem hjl);have HWJ:=Qa (HW.out.2 l[j] (List.getElem_mem hjl));obtain⟨⟨⟨hp,hl⟩,hu,ht⟩,hx⟩:∃x,l[j]=x:=⟨_,rfl⟩;rw[hx]at d0 d1 d2 d3 HTJ HWJ;simp only at d0 d1 d2 d3 HWJ;clear hcell hve hx;have hal:=(Below.refl _ wr).alloc wz (.cells #[.int .u32 (hp:Nat),.int .i64 hl,.int .i64 hu,.string ⟨ht.toArray⟩] 78);have HHB:=Qa (Blk.new wr #[.int .u32 (hp:Nat),.int .i64 hl,.int .i64 hu,.string ⟨ht.toArray⟩] 78);have HF4:=Qa (HF3.out.below hal);have hU4:=HU3.out.below hal;have HC4:=Qa (HC3.out.next hal);have HR4:=Qa (HR3.out.next hal);have HL4:=Qa (HL3.out.next hal);have HB4:Hid (Below w.heap.size w _):=Qa (HB3.out.trans (hal.mono HB3.out.size));have e1:=HC4.out.cell (i:=1) rfl;have k0:=HL4.out.cell (i:=0) rfl;have k1:=HL4.out.cell (i:=1) rfl;have m0:=HHB.out.cell (i:=0) rfl;have m1:=HHB.out.cell (i:=1) rfl;obtain⟨w5,hst,hU5,hg5⟩:=hU4.store Tryz.underlying136 (x:=((rp,rl),(hp,hl))) ⟨HW.out.1,HWJ.out⟩ 0 (by unfold maxLen;have:=HN3.out;omega);change(Instr.mapUpdate 136 (.map (some mu)) (.agg #[.int .u32 (rp:Nat),.int .i64 rl,.int .u32 (hp:Nat),.int .i64 hl]) (.int .i64 0)).run Tryz.prog _=_ at hst;have ho5:Off (fun k=>k=mu) _ w5:=Q7 hg5 rfl;have hne:=HNE.out;have hsz:=HSZ.out;have HF5:=Qa (HF4.out.off ho5 (fun e=>hne.1 e));have HU5:Hid (Jq.Fn w5 mu (n3+1) (qx (bs.take i) (rp,rl) (l.take (j+1)))):=(by show Jq.Fn _ _ _ _;rw[HTJ.out,Qmv];exact hU5);have HC5:=Qa (ho5.blk HC4.out (fun e=>hne.2.2.1.2 e));have HR5:=Qa (ho5.blk HR4.out (fun e=>hne.2.1.2 e.symm));have HL5:=Qa (ho5.blk HL4.out (fun e=>by omega));have HB5:Hid (Below w.heap.size w w5):=HB4.out.trans (ho5.below HB4.out.size (fun k hk e=>by have:=HR0.out;omega));clear hal hU4 hU5 hg5 ho5 hne hsz;go_wp2_with fail;go_roundw
      case rel=>exact⟨j+1,n3+1,hjl,by go_num,HF5.out,HU5.out,by show _≤_;have:=HN3.out;omega,HC5.out,HR5.out,HL5.out,HB5.out⟩
      case measure=>simp[intOf];omega
     ·have hge:(l.length:Int)≤(j:Int):=(by omega);have hua:qx (bs.take i) (rp,rl) l=Jp (bs.take i++[((rp,rl),l)]):=Qrd (bs:=bs.take i) (b:=((rp,rl),l)) HZ.out;rw[show l.take j=l from List.take_of_length_le (by omega),hua,←HTK.out]at HU3;clear hua;go_wp2_with fail;go_roundw
      case rel=>exact⟨i+1,n3,hlt,by go_num,HF3.out,HU3.out,by show _≤_;have:=HN3.out;omega,HC3.out,HR3.out,HB3.out⟩
      case measure=>simp[intOf];omega
  ·have hge:(bs.length:Int)≤(i:Int):=(by omega);rw[List.take_of_length_le (by omega)]at HF HU;have e0:=HC.out.cell (i:=0) rfl;have e1:=HC.out.cell (i:=1) rfl;have f0:=HR.out.frozen 0;have f1:=HR.out.frozen 1;have g0:=HR.out.cell (i:=0) rfl;have g1:=HR.out.cell (i:=1) rfl;have hne:=HNE.out;have hRs:=(HR.out.set 0 (.map (some mf))).set 1 (.map (some mu));have s0:=hRs.cell (i:=0) rfl;have s1:=hRs.cell (i:=1) rfl;have hO:=((Off.of_below (F:=fun k=>k=R0) (Below.refl wr.heap.size wr)).setCell (p:=⟨R0,0,none⟩) (.inl rfl) (.map (some mf))).setCell (p:=⟨R0,1,none⟩) (.inl rfl) (.map (some mu));have hFz:=(HF.out.off hO (fun e=>hne.2.1.1 e)).mono (m:=100) (by omega);have hUz:=(HU.out.off hO (fun e=>hne.2.1.2 e)).mono (m:=100000) (by have:=HN2.out;omega);have hBz:=HB.out.trans (hO.below HB.out.size (fun k hk e=>by have:=HR0.out;omega));have HZZ:=Qa (And.intro hFz (And.intro hUz hBz));have HSS:=Qa (And.intro s0 s1);clear hRs s0 s1 hO hFz hUz hBz hne;go_wp2_with fail;obtain⟨s0,s1⟩:=HSS.out;obtain⟨z1,z2,z3⟩:=HZZ.out;exact bodyPost_ret (v:=.agg #[.map (some mf),.map (some mu)]) (by simp[results,Tryz.results82,go_sem,s0,s1]) rfl ⟨mf,mu,rfl,z1,z2,⟨HNE.out.1,by have:=HR0.out;have:=HNE.out;omega,by have:=HR0.out;have:=HNE.out;omega⟩,z3⟩
theorem Qh8 {κ:Type}[DecidableEq κ](f:κ→Option Int)(x y:κ):(bump f x y).isSome=(f y).isSome:=by
 unfold bump;split
 ·rename_i e
  subst e;cases f y<;>rfl
 ·rfl
theorem Qo7 {κ:Type}[DecidableEq κ]{f:κ→Option Int}{x:κ}{B:Int}(h:∀y c,f y=some c→0≤c∧c≤B):∀y c,bump f x y=some c→0≤c∧c≤B+1:=fun y c hy=>by
 unfold bump at hy;split at hy
 ·cases hf:f x with
  | none=>rw[hf]at hy;cases hy
  | some d=>
   rw[hf]at hy;have:=h x d hf;simp only[Option.map_some,Option.some.injEq]at hy;omega
 ·have:=h y c hy;omega
theorem Qo3 {κ:Type}[DecidableEq κ]{f:κ→Option Int}{x:κ}{c:Int}(h:f x=some c):(fun y=>if y=x then some (c+1) else f y)=bump f x:=by
 funext y
 unfold bump;rw[h];rfl
theorem Qmo {F:Nat×Int→Option Int}{U:Use→Option Int}{r:Rcp}(h:F (Qv r)=none):Xc F U r=5:=by
 unfold Xc;rw[if_neg];rintro⟨h1,_⟩;rw[h]at h1;cases h1
theorem Qc5 (r:Nat×Int)(x:Nat×Int):∀(l:List (Nat×Int)) (f:Use→Option Int),Jd f r (l++[x])=bump (Jd f r l) (r,x)
 | [],_=>rfl
 | y::l,f=>by rw[List.cons_append,Jd,Jd];exact Qc5 r x l (bump f (r,y))
theorem Vf (r:Nat×Int):∀(l:List (Nat×Int)) (f:Use→Option Int) (y:Use),(Jd f r l y).isSome=(f y).isSome
 | [],_,_=>rfl
 | x::l,f,y=>by rw[Jd,Vf r l,Qh8]
theorem Qcf (r:Nat×Int):∀(l:List (Nat×Int)) {f:Use→Option Int} {B:Int},(∀y c,f y=some c→0≤c∧c≤B)→∀y c,Jd f r l y=some c→0≤c∧c≤B+l.length
 | [],f,B,h,y,c,hy=>by have:=h y c hy;simp only[List.length_nil];omega
 | x::l,f,B,h,y,c,hy=>by have:=Qcf r l (Qo7 (x:=(r,x)) h) y c hy;simp only[List.length_cons];omega
theorem Qnx {F:Nat×Int→Option Int}{U:Use→Option Int}{r:Rcp}{i:Nat×Int}(hm:i∈r.2.2.2)(h:U (Qv r,i)=none):Xc F U r=5:=by
 unfold Xc;rw[if_neg];rintro⟨_,h2⟩;have:=List.all_eq_true.1 h2 i hm;rw[h]at this;cases this
theorem Qiz {F:Nat×Int→Option Int}{U:Use→Option Int}{r:Rcp}(h1:(F (Qv r)).isSome=true)(h2:∀i∈r.2.2.2,(U (Qv r,i)).isSome=true):Xc F U r=0:=by
 unfold Xc;rw[if_pos ⟨h1,List.all_eq_true.2 h2⟩]
def Qcp (a:Nat→Addr)(w:World)(mf mu nF nU:Nat)(F:Nat×Int→Option Int)(U:Use→Option Int)(r:Rcp)(e:Ending)(w':World):Prop:=
 ∃ev,e=.returned ev∧qb a ev (Xc F U r)∧Off (fun k=>k=mf∨k=mu) w w'∧(Xc F U r=0→Kh.Fn w' mf (nF+1) (bump F (Qv r))∧Jq.Fn w' mu (nU+r.2.2.2.length) (Jd U (Qv r) r.2.2.2))
theorem Qo9 (a:Nat→Addr)(nm:ByteArray)(len p:Int)(v:Value)(ids:List (Nat×Int))(mf mu nF nU:Nat)(F:Nat×Int→Option Int)(U:Use→Option Int)(B:Int)(w:World)(hlen:ids.length≤250)(hwf:∀i∈ids,Zv i)(hwr:Zv (Zq ids))(hE:Je [4] w a)(hids:Q3 w v ids)(hrow:ids≠[]→∀k,v.ownBlock=some k→k≠mf∧k≠mu)(hne:mf≠mu)
 (hG:Xn 4≠mf∧Xn 4≠mu)(hnF:nF≤100000)(hnU:nU≤200000)(hB:0≤B∧B≤1000000)(hFB:∀y c,F y=some c→0≤c∧c≤B)(hUB:∀y c,U y=some c→0≤c∧c≤B)(hF:Kh.Fn w mf nF F)(hU:Jq.Fn w mu nU U) :
 Calls Tryz.prog 167 #[.agg #[.map (some mf),.map (some mu)],rcpV nm len p v] w (Qcp a w mf mu nF nU F U (nm.data.toList,len,p,ids)):=by
 have HI:=Qa hids;obtain⟨pv,cv,hv,_⟩:=hids;subst hv;have HEO:Hid (∀W,Off (fun k=>k=mf∨k=mu) w W→Je [4] W a):=fun W ho=>hE.off ho (fun i hi=>by
  obtain rfl:i=4:=by simpa using hi
  rintro(e|e)
  ·exact hG.1 e
  ·exact hG.2 e)
 have HF:=Qa hF;have HU:=Qa hU;have HWF:=Qa hwf;have HWR:=Qa hwr;have HFB:=Qa hFB;have HUB':=Qa hUB;have hmfl:=hF.lt;have hmul:=hU.lt;have HROW:=Qa hrow;have HREP:=Qa (fun W (hv:Q3 W (.slice pv ids.length cv) ids)=>Ga nm len p (.slice pv ids.length cv) ids W hv (by unfold maxLen;omega));obtain⟨⟨rp,rl⟩,hrep⟩:∃r,Zq ids=r:=⟨_,rfl⟩;have HRP:=Qa hrep;rw[hrep]at HREP HWR;simp only at HREP;obtain⟨idl,hidl⟩:∃idl,ids.length=idl:=⟨_,rfl⟩;have HID:=Qa hidl;rw[hidl]at HI HREP HROW hlen;have hidl':(idl:Int)≤250:=by omega
 have hal1:=(Below.refl _ w).alloc wz (.cells #[.map (some mf),.map (some mu)] 138);have hbc:=Blk.new w #[.map (some mf),.map (some mu)] 138;have hal2:=(Below.refl (w.alloc (.cells #[.map (some mf),.map (some mu)] 138)).heap.size (w.alloc (.cells #[.map (some mf),.map (some mu)] 138))).alloc wz (.cells #[.string nm,.int .i64 len,.int .u32 p,.slice pv idl cv] 40);have hbr:=Blk.new (w.alloc (.cells #[.map (some mf),.map (some mu)] 138)) #[.string nm,.int .i64 len,.int .u32 p,.slice pv idl cv] 40;have hbc2:=hbc.next hal2;have hB2:Below w.heap.size w _:=hal1.trans (hal2.mono hal1.size);have hs1:(w.alloc (.cells #[.map (some mf),.map (some mu)] 138)).heap.size=w.heap.size+1:=by simp
 rw[hs1]at hbr;have HBC:=Qa hbc2;have HBR:=Qa hbr;have HB2:=Qa hB2;have r0:=hbr.cell (i:=0) rfl;have r1:=hbr.cell (i:=1) rfl;have r2:=hbr.cell (i:=2) rfl;have r3:=hbr.cell (i:=3) rfl;clear hF hU hwf hwr hFB hUB hrow hE hG hrep hidl hal1 hal2 hbc hbr hbc2 hB2 hs1;rw[HID.out];go_enter Tryz.func167,Tryz.ntmps167;go_wp2_with fail;generalize (w.alloc (.cells #[.map (some mf),.map (some mu)] 138)).alloc (.cells #[.string nm,.int .i64 len,.int .u32 p,.slice pv idl cv] 40)=W2 at *;refine(HREP.out W2 (HI.out.below HB2.out)).mono ?_;rintro e w3 ⟨rfl,hb3⟩;have hal3:=(Below.refl _ w3).alloc wz (.cells #[.int .u32 (rp:Nat),.int .i64 rl] 25);have HBI:=Qa (Blk.new w3 #[.int .u32 (rp:Nat),.int .i64 rl] 25);have HB4:Hid (Below w.heap.size w _):=Qa ((HB2.out.trans (hb3.mono HB2.out.size)).trans (hal3.mono (Nat.le_trans HB2.out.size hb3.size)));have HBC4:=Qa ((HBC.out.next hb3).next hal3);have HBR4:=Qa ((HBR.out.next hb3).next hal3);have HSZ3:Hid (w.heap.size+1<w3.heap.size):=Nat.lt_of_lt_of_le HBR.out.lt hb3.size;have i0:=HBI.out.cell (i:=0) rfl;have i1:=HBI.out.cell (i:=1) rfl;have c0:=HBC4.out.cell (i:=0) rfl;have c1:=HBC4.out.cell (i:=1) rfl;have l0:=(HF.out.below HB4.out).look2 Tryz.underlying135 (Gl _) HWR.out;change(Instr.lookup 135 (.map (some mf)) (idV (rp:Nat) rl) true).run Tryz.prog _=.ok (.tuple #[.int .i64 ((F (rp,rl)).getD 0),.bool (F (rp,rl)).isSome]) _ at l0;have g4:=(HEO.out _ (Off.of_below HB4.out)).glob 4 rfl;change World.cell? _ ⟨0,0,none⟩=_ at g4;have HRQ:Hid (Qv (nm.data.toList,len,p,ids)=(rp,rl)):=HRP.out;clear r0 r1 r2 r3 hal3 hb3 HBC HBR HREP;cases hf:F (rp,rl)with
 | none=>
  rw[hf]at l0;have HR:Hid (Xc F U (nm.data.toList,len,p,ids)=5):=Qmo (by rw[HRQ.out];exact hf);clear hf;go_wp2_with fail;go_ret;refine⟨_,rfl,?_,Off.of_below HB4.out,fun h => ?_⟩
  ·rw[HR.out];exact .inr ⟨4,by decide,rfl,rfl⟩
  ·rw[HR.out]at h;cases h
 | some n0=>
  rw[hf]at l0;simp only[Option.getD_some,Option.isSome_some]at l0;obtain⟨b1,b2⟩:=HFB.out _ _ hf;have hw1:IntKind.i64.wrap (n0+1)=n0+1:=by rw[IntKind.wrap_i64];omega
  go_wp2_with fail;generalize w3.alloc (.cells #[.int .u32 (rp:Nat),.int .i64 rl] 25)=W4 at *;generalize w3.heap.size=IB at *;have hFd:=(HF.out.below HB4.out).drew;have l1:=hFd.look1 Tryz.underlying135 (Gl _) HWR.out;rw[hf]at l1;change(Instr.lookup 135 (.map (some mf)) (idV (rp:Nat) rl) false).run Tryz.prog _=.ok (.int .i64 n0) _ at l1;obtain⟨v0,st,w5,hen,hst,hF5,hg5⟩:=hFd.more Tryz.underlying135 HWR.out hf (n0+1) (by unfold maxLen;omega);rw[Qo3 hf]at hF5;change(Instr.mapEntry 135 (.map (some mf)) (idV (rp:Nat) rl)).run Tryz.prog _=.ok (.tuple #[v0,.int .i64 (st:Nat)]) _ at hen;change(Instr.entryStore 135 (.map (some mf)) (.int .i64 (st:Nat)) (.int .i64 (n0+1))).run Tryz.prog _=.ok () _ at hst;have ho5:Off (fun k=>k=mf) W4 w5:=Q7 (Xv hg5) rfl;have HF5:=Qa hF5;have HU5:=Qa ((HU.out.below HB4.out).off ho5 (fun e=>hne e.symm));have HBC5:=Qa (ho5.blk HBC4.out (fun e=>by omega));have hib:=HSZ3.out;have HBR5:=Qa (ho5.blk HBR4.out (fun e=>by omega));have HBI5:=Qa (ho5.blk HBI.out (fun e=>by omega));have HI5:=Qa ((HI.out.below HB4.out).off ho5 (fun hn k hk e=>(HROW.out hn k hk).1 e));have HO5:Hid (Off (fun k=>k=mf∨k=mu) w w5):=(Off.of_below HB4.out).trans ho5 (fun k _ e=>.inl e);clear hFd hF5 hg5 ho5 hib;go_region
  all_goals
   have b3:=HBR5.out.cell (i:=3) rfl;have HFS:Hid ((F (rp,rl)).isSome=true):=(by show _=_;rw[hf];rfl);clear l0 l1 hen hst i0 i1 c0 c1 g4 hw1 b1 b2 HBC4 HBR4 HBI HF HU HB2 HB4;go_wp2_with fail;clear b3
   go_loopw [35] (fun iv wr=>∃(k:Nat),k≤idl∧iv=.int .i64 k∧Hid (∀i∈ids.take k,(U ((rp,rl),i)).isSome=true)∧Hid (Jq.Fn wr mu (nU+k) (Jd U (rp,rl) (ids.take k)))∧Hid (Off (fun j=>j=mu) w5 wr)) (fun iv _=>idl - (intOf iv).toNat)
   case atStart=>exact⟨0,Nat.zero_le _,rfl,fun i hi=>by simp at hi,HU5.out,Off.refl _ _⟩
   case round=>
    clear HU5;obtain⟨k,hk,rfl,HIN,HUK,HO⟩:=hrel;have HOW:Hid (Off (fun j=>j=mf∨j=mu) w wr):=HO5.out.trans HO.out (fun j _ e=>.inr e);have hib:=HSZ3.out;by_cases hlt:k<idl
    ·have hlt':(k:Int)<(idl:Int):=(by omega);have hk0:(0:Int)≤(k:Int):=(by omega);have hIr:=HI5.out.off HO.out (fun hn j hj e=>(HROW.out hn j hj).2 e);obtain⟨pq,cq,hve,hcell⟩:=hIr;have hkl:k<ids.length:=(by rw[HID.out];exact hlt);obtain⟨b,o,hpq,_,d0,d1⟩:=hcell k hkl;obtain⟨rfl,rfl⟩:pv=pq∧cv=cq:=(by have:=hve;simp at this;exact⟨this.1,this.2.2⟩);subst hpq;have HTK:=Qa (List.take_succ_eq_append_getElem hkl);have HWX:=Qa (HWF.out ids[k] (List.getElem_mem hkl));have HMX:=Qa (List.getElem_mem hkl);obtain⟨⟨xp,xl⟩,hx⟩:∃x,ids[k]=x:=⟨_,rfl⟩;rw[hx]at d0 d1 HTK HWX HMX;simp only at d0 d1;clear hcell hve hx hkl;have hal1:=(Below.refl _ wr).alloc wz (.cells #[.int .u32 (xp:Nat),.int .i64 xl] 25);have HJ1:=Qa (Blk.new wr #[.int .u32 (xp:Nat),.int .i64 xl] 25);have HBI6:=Qa ((HO.out.blk HBI5.out (fun e=>by omega)).next hal1);have HBC6:=Qa ((HO.out.blk HBC5.out (fun e=>by omega)).next hal1);have HBR6:=Qa ((HO.out.blk HBR5.out (fun e=>by omega)).next hal1);have HU6:=Qa (HUK.out.below hal1);have HO6:Hid (Off (fun j=>j=mu) w5 _):=Qa (HO.out.trans (Off.of_below (F:=fun _=>False) hal1) (fun _ _ h=>h.elim));have HSW:Hid (IB<wr.heap.size):=(by have:=(HO.out.blk HBI5.out (fun e=>by omega)).lt;exact this);have j0:=HJ1.out.cell (i:=0) rfl;have j1:=HJ1.out.cell (i:=1) rfl;have i0:=HBI6.out.cell (i:=0) rfl;have i1:=HBI6.out.cell (i:=1) rfl;obtain⟨W1,hW1⟩:∃W1,wr.alloc (.cells #[.int .u32 (xp:Nat),.int .i64 xl] 25)=W1:=⟨_,rfl⟩;have HW1:=Qa hW1;rw[hW1]at HJ1 HBI6 HBC6 HBR6 HU6 HO6;have hs1:W1.heap.size=wr.heap.size+1:=(by rw[←hW1];simp);have hal2:=(Below.refl _ W1).alloc wz (.cells #[.int .u32 (rp:Nat),.int .i64 rl,.int .u32 (xp:Nat),.int .i64 xl] 232);have HUB:=Qa (Blk.new W1 #[.int .u32 (rp:Nat),.int .i64 rl,.int .u32 (xp:Nat),.int .i64 xl] 232);rw[hs1]at HUB;have HBC7:=Qa (HBC6.out.next hal2);have HBR7:=Qa (HBR6.out.next hal2);have HBI7:=Qa (HBI6.out.next hal2);have HU7:=Qa (HU6.out.below hal2);have HO7:Hid (Off (fun j=>j=mu) w5 _):=Qa (HO6.out.trans (Off.of_below (F:=fun _=>False) hal2) (fun _ _ h=>h.elim));have c1:=HBC7.out.cell (i:=1) rfl;have u0:=HUB.out.cell (i:=0) rfl;have u1:=HUB.out.cell (i:=1) rfl;have u2:=HUB.out.cell (i:=2) rfl;have u3:=HUB.out.cell (i:=3) rfl;have l0:=HU7.out.look2 Tryz.underlying136 (Gl _) (x:=((rp,rl),(xp,xl))) ⟨HWR.out,HWX.out⟩;change(Instr.lookup 136 (.map (some mu)) (.agg #[.int .u32 (rp:Nat),.int .i64 rl,.int .u32 (xp:Nat),.int .i64 xl]) true).run Tryz.prog _=.ok (.tuple #[.int .i64 ((Jd U (rp,rl) (ids.take k) ((rp,rl),(xp,xl))).getD 0),.bool (Jd U (rp,rl) (ids.take k) ((rp,rl),(xp,xl))).isSome]) _ at l0;have g4:=(HEO.out _ (HO5.out.trans HO7.out (fun j _ e=>.inr e))).glob 4 rfl;change World.cell? _ ⟨0,0,none⟩=_ at g4;rw[←hW1]at c1 u0 u1 u2 u3 l0 g4;rw[←hW1]at HUB HBC7 HBR7 HBI7 HU7 HO7;clear hs1 hal1 hal2 hW1 HW1 HJ1 HBI6 HBC6 HBR6 HU6 HO6;cases hu:Jd U (rp,rl) (ids.take k) ((rp,rl),(xp,xl))with
     | none=>
      rw[hu]at l0;simp only[Option.getD_none,Option.isSome_none]at l0;have HR:Hid (Xc F U (nm.data.toList,len,p,ids)=5):=Qnx (i:=(xp,xl)) HMX.out (by
       rw[HRQ.out];have:=Vf (rp,rl) (ids.take k) U ((rp,rl),(xp,xl));rw[hu]at this;cases hq:U ((rp,rl),(xp,xl))with
       | none=>rfl
       | some z=>rw[hq]at this;cases this)
      clear hu;go_wp2_with fail;go_ret;refine⟨_,rfl,?_,HO5.out.trans HO7.out (fun j _ e=>.inr e),fun h => ?_⟩
      ·rw[HR.out];exact .inr ⟨4,by decide,rfl,rfl⟩
      ·rw[HR.out]at h;cases h
     | some n1=>
      rw[hu]at l0;simp only[Option.getD_some,Option.isSome_some]at l0;obtain⟨b1,b2⟩:=Qcf (rp,rl) (ids.take k) HUB'.out _ _ hu;have hw1:IntKind.i64.wrap (n1+1)=n1+1:=by rw[List.length_take]at b2;rw[IntKind.wrap_i64];omega
      have HHU:=Qa hu;go_wp2_with fail;generalize ((wr.alloc (.cells #[.int .u32 (xp:Nat),.int .i64 xl] 25)).alloc (.cells #[.int .u32 (rp:Nat),.int .i64 rl,.int .u32 (xp:Nat),.int .i64 xl] 232))=W2 at *;have hUd:=HU7.out.drew;have l1:=hUd.look1 Tryz.underlying136 (Gl _) (x:=((rp,rl),(xp,xl))) ⟨HWR.out,HWX.out⟩;rw[hu]at l1;change(Instr.lookup 136 (.map (some mu)) (.agg #[.int .u32 (rp:Nat),.int .i64 rl,.int .u32 (xp:Nat),.int .i64 xl]) false).run Tryz.prog _=.ok (.int .i64 n1) _ at l1;obtain⟨v1,st1,w8,hen,hst,hU8,hg8⟩:=hUd.more Tryz.underlying136 (x:=((rp,rl),(xp,xl))) ⟨HWR.out,HWX.out⟩ hu (n1+1) (by unfold maxLen;omega);rw[Qo3 hu,←Qc5,←HTK.out]at hU8;change(Instr.mapEntry 136 (.map (some mu)) (.agg #[.int .u32 (rp:Nat),.int .i64 rl,.int .u32 (xp:Nat),.int .i64 xl])).run Tryz.prog _=.ok (.tuple #[v1,.int .i64 (st1:Nat)]) _ at hen;change(Instr.entryStore 136 (.map (some mu)) (.int .i64 (st1:Nat)) (.int .i64 (n1+1))).run Tryz.prog _=.ok () _ at hst;have ho8:Off (fun k=>k=mu) W2 w8:=Q7 (Xv hg8) rfl;have HU8:Hid (Jq.Fn w8 mu (nU+(k+1)) (Jd U (rp,rl) (ids.take (k+1)))):=hU8.mono (by omega);have HO8:Hid (Off (fun j=>j=mu) w5 w8):=HO7.out.trans ho8 (fun _ _ e=>e);have HIN8:Hid (∀i∈ids.take (k+1),(U ((rp,rl),i)).isSome=true):=fun i hi=>by
       rw[HTK.out]at hi;rcases List.mem_append.1 hi with hi|hi
       ·exact HIN.out i hi
       ·rw[List.mem_singleton.1 hi,←Vf (rp,rl) (ids.take k) U,HHU.out];rfl
      clear hUd hU8 hg8 ho8 hu b1 b2;go_region
      all_goals
       go_wp2_with fail;go_roundw
       case rel=>exact⟨k+1,hlt,by go_num,HIN8.out,HU8.out,HO8.out⟩
       case measure=>simp[intOf];omega
    ·have hge:(idl:Int)≤(k:Int):=(by omega);rw[List.take_of_length_le (by rw[HID.out];omega)]at HIN HUK;go_wp2_with fail;go_ret;have h0:Xc F U (nm.data.toList,len,p,ids)=0:=Qiz (by rw[HRQ.out];exact HFS.out) (fun i hi=>by rw[HRQ.out];exact HIN.out i hi);refine⟨_,rfl,?_,HOW.out,fun _=>⟨?_,?_⟩⟩
     ·rw[h0];exact .inl ⟨rfl,rfl⟩
     ·rw[HRQ.out];exact HF5.out.off HO.out (fun e=>hne e)
     ·rw[HRQ.out];have hkk:k=ids.length:=(by rw[HID.out];omega);rw[hkk]at HUK;exact HUK.out
end Go.Proofs.YtjngnnbondejaabGreatDoor
