/- A part. -/
import Derived.Test.YtjngnnbondejaabGreatDoorM16
import Derived.Laws.EntriesVeiled
set_option maxHeartbeats 8000000
set_option maxRecDepth 100000
namespace Go.Proofs.YtjngnnbondejaabGreatDoor
open Go.RowKit Go.Maps
theorem TkS.start (w:World)(s:ByteArray)(r:Array Value)(t:TypeId):TkS w ((((w.alloc (.cells #[.string s] 9)).alloc (.cells r t)).alloc (.cells #[.bool true] 4)).alloc (.cells #[upF w.heap.size] 243)) s true:=by
 have b1:=Blk.new w #[.string s] 9;have l1:=(Below.refl _ w).alloc wz (.cells #[.string s] 9);generalize hw1:w.alloc (.cells #[.string s] 9)=w1 at *;have s1:w1.heap.size=w.heap.size+1:=by rw[←hw1];simp
 have a2:=(Below.refl _ w1).alloc wz (.cells r t);generalize hw2:w1.alloc (.cells r t)=w2 at *;have s2:w2.heap.size=w.heap.size+2:=by rw[←hw2];simp[s1]
 have b3:=Blk.new w2 #[.bool true] 4;have a3:=(Below.refl _ w2).alloc wz (.cells #[.bool true] 4);generalize hw3:w2.alloc (.cells #[.bool true] 4)=w3 at *;have s3:w3.heap.size=w.heap.size+3:=by rw[←hw3];simp[s2]
 have b4:=Blk.new w3 #[upF w.heap.size] 243;have a4:=(Below.refl _ w3).alloc wz (.cells #[upF w.heap.size] 243);rw[s2]at b3;rw[s3]at b4;exact⟨((l1.trans (a2.mono (by omega))).trans (a3.mono (by omega))).trans (a4.mono (by omega)),((b1.next a2).next a3).next a4,b3.next a4,b4⟩
theorem TkS.turn {w W W':World}{F:Nat→Prop}{s:ByteArray}{ok:Bool}(h:TkS w W s ok)(ho:Off F W W')(hF:∀k,k<w.heap.size+4→¬F k):TkS w W' s ok where
 bl:=h.bl.trans (ho.below h.bl.size (fun k hk=>hF k (by omega)))
 bs:=ho.blk h.bs (hF _ (by omega))
 bk:=ho.blk h.bk (hF _ (by omega))
 bf:=ho.blk h.bf (hF _ (by omega))
structure TkL (w:World)(Ba:Nat)(W:World)(s:ByteArray)(ok:Bool)(v:Value)(ps:List RV):Prop where
 lo:w.heap.size+4≤Ba
 tk:TkS w W s ok
 rb:Blk W (w.heap.size+1) #[.slice none 0 0,.slice none 0 0] 176
 ab:Blk W Ba #[v,.slice none 0 0] 176
 rl:Y1 (Ba+1) W v ps
theorem TkL.next {w W W':World}{Ba:Nat}{s:ByteArray}{ok:Bool}{v:Value}{ps:List RV}(h:TkL w Ba W s ok v ps)(hb:Below W.heap.size W W'):TkL w Ba W' s ok v ps:=⟨h.lo,h.tk.next hb,h.rb.next hb,h.ab.next hb,h.rl.next hb⟩
theorem TkL.took {w W W':World}{Ba:Nat}{s s':ByteArray}{ok ok':Bool}{v:Value}{ps:List RV}(h:TkL w Ba W s ok v ps)(ht:TkS w W' s' ok')(ho:Off (tkF w) W W'):TkL w Ba W' s' ok' v ps:=
 ⟨h.lo,ht,ho.blk h.rb (by rintro(e|e)<;>omega),ho.blk h.ab (by have:=h.lo;rintro(e|e)<;>omega),h.rl.turn ho (fun k hk=>by have:=h.lo;rintro(e|e)<;>omega)⟩
theorem TkL.app {w W W':World}{Ba:Nat}{s:ByteArray}{ok:Bool}{v v':Value}{ps:List RV}{q:RV}(h:TkL w Ba W s ok v ps)(hq:Zb (Ba+1) W q.2 q.1.2.2.2)(hn:q.1.2.2.2≠[]→∀j,q.2.ownBlock=some j→v.ownBlock≠some j)(hg:W.grownBy W' v.ownBlock)(hr:W'.ownsRow (Ba+1) 40 4 v' (ps.length+1) (rvCells (ps++[q])))(hv:v'.ownBlock=v.ownBlock∨v'.ownBlock=some W.heap.size):TkL w Ba (W'.setCell ⟨Ba,0,none⟩ v') s ok v' (ps++[q]):=by
 have hlo:=h.lo;have ho:=Zd hg;have hF:∀k,k<Ba+1→¬(v.ownBlock=some k):=fun k hk e=>by have:=Kc h.rl.row e;omega
 have t1:=h.tk.turn ho (fun k hk=>hF k (by omega));have r1:=ho.blk h.rb (hF _ (by omega));have a1:=ho.blk h.ab (hF _ (by omega));have l1:=h.rl.app hq hn hg hr hv;have o2:Off (fun k=>k=Ba) W' (W'.setCell ⟨Ba,0,none⟩ v'):=(Off.refl (fun k=>k=Ba) W').setCell (p:=⟨Ba,0,none⟩) (.inl rfl) _;exact⟨hlo,t1.turn o2 (fun k hk e=>by omega),o2.blk r1 (by omega),a1.set 0 v',l1.turn o2 (fun k hk e=>by omega)⟩
theorem Qht (a:Nat→Addr)(s:ByteArray)(m:Int)(w:World)(hs:s.size≤40000)(hE:J6 w a)(hm:w.cell? ⟨14,0,none⟩=some (.int .i64 m)) :
 Calls Tryz.prog 197 #[.string s] w fun e w'=>∃vf vp,e=.returned (.tuple #[.agg #[vf,vp],.bool (tOk s.data.toList)])∧Yw w.heap.size w' vf (Gy s.data.toList).1∧w'.ownsRow w.heap.size 78 4 vp (readsOf (Gy s.data.toList).2.1).1.length (heldCells (readsOf (Gy s.data.toList).2.1).1)∧Below w.heap.size w w':=by
 have HM:=Qa hm;have HE:=Qa hE;have HT4:=Qa (TkS.start w s #[.slice none 0 0,.slice none 0 0] 176);have HRB4:Hid (Blk ((((w.alloc (.cells #[.string s] 9)).alloc (.cells #[.slice none 0 0,.slice none 0 0] 176)).alloc (.cells #[.bool true] 4)).alloc (.cells #[upF w.heap.size] 243)) (w.heap.size+1) #[.slice none 0 0,.slice none 0 0] 176):=by have b1:=Blk.new (w.alloc (.cells #[.string s] 9)) #[.slice none 0 0,.slice none 0 0] 176;rw[World.size_alloc]at b1;exact(b1.next ((Below.refl _ _).alloc wz _)).next ((Below.refl _ _).alloc wz _)
 have f3:=HT4.out.bf.cell (i:=0) rfl;have HU:=Qa (Qgq 32 s true m w _ (by omega) hm HT4.out);have hsl:s.data.toList.length=s.size:=Qh s;obtain⟨WD,hWD⟩:∃x,Qg0 s.data.toList=x:=⟨_,rfl⟩;obtain⟨MN,hMN⟩:∃x,Qgg s.data.toList=x:=⟨_,rfl⟩;obtain⟨SZ,hSZ⟩:∃x,Qfe s.data.toList=x:=⟨_,rfl⟩;obtain⟨FL,hFL⟩:∃x,Gy s.data.toList=x:=⟨_,rfl⟩;have hMN2:=hMN;unfold Qgg at hMN2;rw[hWD]at hMN2;have hSZ2:=hSZ;unfold Qfe at hSZ2;rw[hMN]at hSZ2;have hFL2:=hFL;unfold Gy at hFL2;rw[hMN,hSZ]at hFL2;have hOK:tOk s.data.toList=(FL.2.2&&decide ((readsOf FL.2.1).2.1=0)&&decide (FL.2.1.length=SZ.1)):=by unfold tOk;rw[hFL,hSZ]
 have hl1:=Qa2 32 s.data.toList true;have hWDl:WD.1.length≤40000:=by rw[←hWD];unfold Qg0;simp only;omega
 have hMNl:MN.2.1.length≤40000:=by rw[←hMN2];unfold Qey;simp only;have:=(Qa2 32 WD.1 WD.2).2;omega
 have hSZl:SZ.2.1.length≤40000:=by rw[←hSZ2];unfold Qey;simp only;have:=(Qa2 10 MN.2.1 MN.2.2).2;omega
 have hMNb:MN.1<1000000:=by
  rw[←hMN2];unfold Qey;simp only;cases h:numOf (tUp 32 WD.1 WD.2).1 6 with
  | none=>decide
  | some n=>exact Qaq h
 have hSZb:SZ.1<1000000:=by
  rw[←hSZ2];unfold Qey;simp only;cases h:numOf (tUp 10 MN.2.1 MN.2.2).1 6 with
  | none=>decide
  | some n=>exact Qaq h
 rw[hOK,hFL];have hWD2:=hWD;unfold Qg0 at hWD2;obtain⟨x,hx⟩:∃x,tUp 32 s.data.toList true=x:=⟨_,rfl⟩;rw[hx]at HU hWD2;obtain⟨p,r,b⟩:=x;simp only at HU hWD2;obtain⟨P,hP⟩:∃P:ByteArray,(⟨p.toArray⟩:ByteArray)=P:=⟨_,rfl⟩;obtain⟨R,hR⟩:∃R:ByteArray,(⟨r.toArray⟩:ByteArray)=R:=⟨_,rfl⟩;rw[hP,hR]at HU;obtain⟨WD1,WD2⟩:=WD;obtain⟨hr1,hb1⟩:r=WD1∧(b&&decide (p=[108,111,97,100]))=WD2:=by simpa using hWD2
 subst hr1;obtain⟨mN,mS,mO⟩:=MN;obtain⟨zN,zS,zO⟩:=SZ;simp only at hMN2 hSZ2 hFL2 hMNl hSZl hMNb hSZb hWDl hb1 ⊢;have hRd:R.data.toList=r:=by rw[←hR]
 have hRs:R.size≤50000:=by have h1:R.data.toList.length=R.size:=Qh R;rw[hRd]at h1;omega
 obtain⟨MS,hMS⟩:∃X:ByteArray,(⟨mS.toArray⟩:ByteArray)=X:=⟨_,rfl⟩;have hMSd:MS.data.toList=mS:=by rw[←hMS]
 have hMSs:MS.size≤50000:=by have h1:MS.data.toList.length=MS.size:=Qh MS;rw[hMSd]at h1;omega
 obtain⟨ZS,hZS⟩:∃X:ByteArray,(⟨zS.toArray⟩:ByteArray)=X:=⟨_,rfl⟩;have hZSd:ZS.data.toList=zS:=by rw[←hZS]
 have hZSs:ZS.size≤40000:=by have h1:ZS.data.toList.length=ZS.size:=Qh ZS;rw[hZSd]at h1;omega
 have HN1:=Qa (fun W (hT:TkS w W R WD2)=>Qf4 32 R WD2 m w W hRs hm hT);rw[hRd,hMN2]at HN1;have HN2:=Qa (fun W (hT:TkS w W MS mO)=>Qf4 10 MS mO m w W hMSs hm hT);rw[hMSd,hSZ2]at HN2;simp only at HN1 HN2;rw[hMS]at HN1;rw[hZS]at HN2;rw[←hZSd]at hFL2;have HFL:=Qa hFL2;have HPN:Hid ((P=⟨#[108,111,97,100]⟩∧WD2=b)∨(P≠⟨#[108,111,97,100]⟩∧WD2=false)):=by
  by_cases h:p=[108,111,97,100]
  ·exact .inl ⟨by rw[←hP,h],by rw[←hb1,h];simp⟩
  ·exact .inr ⟨fun e=>h (by have:=congrArg (fun x:ByteArray=>x.data.toList) e;rw[←hP]at this;simpa using this),by rw[←hb1];simp[h]⟩
 have HZS:=Qa hZSs;clear hm hE hsl hWD hMN hSZ hFL hMN2 hSZ2 hFL2 hOK hl1 hWDl hMNl hSZl hWD2 hx hP hR hb1 hRd hRs hMSd hMSs hMS hZS hZSd hZSs;obtain⟨iR,hiR,zR0,zR1,zR2⟩:=info_parts Qja;go_enter Tryz.func197,Tryz.ntmps197;go_wp2_with fail;rw[show w.heap.size+1+1+1=w.heap.size+3 from rfl,show w.heap.size+1+1=w.heap.size+2 from rfl];generalize (((w.alloc (.cells #[.string s] 9)).alloc (.cells #[.slice none 0 0,.slice none 0 0] 176)).alloc (.cells #[.bool true] 4)).alloc (.cells #[upF w.heap.size] 243)=W4 at *;refine HU.out.mono ?_;rintro e w5 ⟨rfl,hT5,hO5⟩;have HT5:=Qa hT5;have HRB5:Hid (Blk w5 (w.heap.size+1) #[.slice none 0 0,.slice none 0 0] 176):=hO5.blk HRB4.out (by rintro(e|e)<;>omega);clear hT5 hO5 f3 HU HT4 HRB4;have k0:=HT5.out.bk.cell (i:=0) rfl;have kf:=HT5.out.bk.frozen 0;have hkl:=HT5.out.bk.lt;by_cases hq:P=⟨#[108,111,97,100]⟩
 case' pos=>
  obtain rfl:WD2=b:=by
   rcases HPN.out with h|h
   ·exact h.2
   ·exact absurd hq h.1
  subst hq;clear HPN;have HT6:=HT5;have HRB6:=HRB5;clear HT5 HRB5 k0 kf hkl;go_wp2_with fail;generalize w5=W6 at *
 case' neg=>
  obtain rfl:WD2=false:=by
   rcases HPN.out with h|h
   ·exact absurd h.1 hq
   ·exact h.2
  have n1:(P.toList==[108,111,97,100])=false:=by rw[ByteArray.toList_eq,beq_eq_false_iff_ne];exact fun e=>hq (WideShapes.bytes_inj (by rw[e]))
  have HT6:=Qa (HT5.out.mark false);have HRB6:=Qa (HRB5.out.other (a:=⟨w.heap.size+2,0,none⟩) (show w.heap.size+1≠w.heap.size+2 by omega) (.bool false));clear HPN hq HT5 HRB5;go_wp2_with fail;generalize w5.setCell ⟨w.heap.size+2,0,none⟩ (.bool false)=W6 at *
 all_goals
  refine(HN1.out W6 HT6.out).mono ?_;rintro e w7 ⟨rfl,hT7,hO7⟩;have HT7:=Qa hT7;have HRB7:Hid (Blk w7 (w.heap.size+1) #[.slice none 0 0,.slice none 0 0] 176):=hO7.blk HRB6.out (by rintro(e|e)<;>omega);clear hT7 hO7 HT6 HRB6;go_wp2_with fail;refine(HN2.out w7 HT7.out).mono ?_;rintro e w8 ⟨rfl,hT8,hO8⟩;have hal8:=(Below.refl _ w8).alloc wz (.cells #[.slice none 0 0,.slice none 0 0] 176);have HL0:Hid (TkL w w8.heap.size (w8.alloc (.cells #[.slice none 0 0,.slice none 0 0] 176)) ZS zO (.slice none 0 0) []):=
   ⟨hT8.bf.lt,hT8.next hal8,(hO8.blk HRB7.out (by rintro(e|e)<;>omega)).next hal8,Blk.new w8 _ _,Y1.nil _ _⟩
  clear hT8 hO8 hal8 HT7 HRB7 HN1 HN2;go_wp2_with fail;generalize w8.alloc (.cells #[.slice none 0 0,.slice none 0 0] 176)=W9 at *;generalize w8.heap.size=Ba at *
  go_loopw [11] (fun i wr=>∃(k:Nat) (S:ByteArray) (ok:Bool) (v:Value) (ps:List RV),k≤mN∧ps.length≤k∧i=.int .i64 k∧S.size≤40000∧Hid (V5 (mN - k) (ps.map (·.1)) S.data.toList ok=FL)∧Hid (TkL w Ba wr S ok v ps)) (fun i _=>mN - (intOf i).toNat)
  case atStart=>exact⟨0,ZS,zO,.slice none 0 0,[],Nat.zero_le _,wz,rfl,HZS.out,HFL.out,HL0.out⟩
  case round=>
   clear HL0 HFL;obtain⟨k,S,ok,v,ps,hk,hpl,rfl,hS,HF,HL⟩:=hrel;have k0:=HL.out.tk.bk.cell (i:=0) rfl;have a0:=HL.out.ab.cell (i:=0) rfl;have af:=HL.out.ab.frozen 0;obtain⟨pv,cv,rfl⟩:=Qby HL.out.rl.row;by_cases hgo:ok=true∧k<mN
   ·obtain⟨rfl,hlt⟩:=hgo;have hlt':(k:Int)<(mN:Int):=(by omega);have HFI:=Qa (fun W1 (hT:TkS w W1 S true)=>Qsb a S true m w W1 hS HE.out HM.out hT);have hSd:S.data.toList.length=S.size:=Qh S;have hS3:(Gr S.data.toList true).2.1.length≤40000:=(by have:=(Qa2 10 S.data.toList true).2;show(tUp 10 S.data.toList true).2.1.length≤40000;omega);have hT31:(Gr S.data.toList true).1=Quu (Qs (tUp 10 S.data.toList true).1).1:=rfl;have hnx:=Qei (mN - (k+1)) (ps.map (·.1)) S.data.toList;obtain⟨T3,hT3⟩:∃x,Gr S.data.toList true=x:=⟨_,rfl⟩;obtain⟨RD,hRD⟩:∃x,(Qs (tUp 10 S.data.toList true).1).1=x:=⟨_,rfl⟩;rw[hT3,hRD]at hT31 HFI;rw[hT3]at hS3 hnx;rw[show mN - (k+1)+1=mN - k by omega,HF.out,hT31]at hnx;obtain⟨dn,dl,dp,di⟩:=RD;simp only[qg]at HFI;obtain⟨NM,hNM⟩:∃NM:ByteArray,(⟨dn.toArray⟩:ByteArray)=NM:=⟨_,rfl⟩;obtain⟨S3,hS3e⟩:∃X:ByteArray,(⟨T3.2.1.toArray⟩:ByteArray)=X:=⟨_,rfl⟩;have hS3d:S3.data.toList=T3.2.1:=(by rw[←hS3e]);have hS3s:S3.size≤40000:=(by have h1:S3.data.toList.length=S3.size:=Qh S3;rw[hS3d]at h1;omega);rw[hNM,hS3e]at HFI;have HNM:Hid ((⟨dn.toArray⟩:ByteArray)=NM):=hNM;have HNX:Hid (∀vq:Value,V5 (mN - (k+1)) ((ps++[((dn,dl,(dp:Int),di),vq)]).map (·.1)) S3.data.toList T3.2.2=FL):=fun vq=>by rw[List.map_append,hS3d];exact hnx.symm
    clear hT31 hnx hS3 hT3 hRD hNM hS3e hS3d hSd HF hS;have HS3:=Qa hS3s;have HPL:Hid (ps.length≤1000000):=(by show _≤_;omega);have HBL:=Qa HL.out.ab.lt;have HVL:Hid (∀j,(Value.slice pv ps.length cv).ownBlock=some j→j<wr.heap.size):=fun j hj=>(HL.out.rl.row.lt j hj).2;clear hS3s;go_wp2_with fail
    go_region_law (first|(refine step_append_lies _ rfl _ _ 31 rfl (Ba+1) 40 iR (rcpV ⟨#[]⟩ 0 0 (.slice none 0 0)) 4 56 Tryz.underlying31 hiR zR0 zR1 zR2 rfl (by decide) _ _ _ rfl (HL9.out.next ((Below.refl _ w9).alloc wz (.cells #[.string NM,.int .i64 dl,.int .u32 (dp:Nat),.slice pv9 di.length cv9] 40))).rl.row ⟨w9.heap.size,0,none⟩ 1 1 [.string NM,.int .i64 dl,.int .u32 (dp:Nat),.slice pv9 di.length cv9] rfl rfl (fun j u hj=>by rw[add_plain];exact Zh _ #[.string NM,.int .i64 dl,.int .u32 (dp:Nat),.slice pv9 di.length cv9] _ (by rw[←hj];simp) rfl) (fun u hu=>by simp at hu;rcases hu with rfl|rfl|rfl|rfl<;>rfl) (by decide) (by have:=HPL.out;unfold maxLen;omega) (by have:=HPL.out;omega) (by have:=HBL.out;have:=HG9.out;simp;omega) _ rfl ?_;intro g10 cap10 w10 hown10 hg10 hat10 hlt10;have HL9a:=Qa (HL9.out.next ((Below.refl _ w9).alloc wz (.cells #[.string NM,.int .i64 dl,.int .u32 (dp:Nat),.slice pv9 di.length cv9] 40)));have HOW10:=Qa hown10;have HGR10:=Qa hg10;have HAT10:=Qa hat10;have HB10:=Qa ((Zd hg10).blk HL9a.out.ab (fun e=>by have:=Kc HL9a.out.rl.row e;omega));have b0:=HB10.out.cell (i:=0) rfl;have bf:=HB10.out.frozen 0;have bl:=HB10.out.lt;clear hown10 hg10 hat10)|(go_simp;go_at_call 269;refine(HFI.out _ (HL.out.tk.next (Below.refl _ wr).drew)).mono ?_;rintro e w9 ⟨v9,rfl,hid9,hT9,hO9⟩;obtain⟨pv9,cv9,rfl,_⟩:=id hid9;have HL9:=Qa ((HL.out.next (Below.refl _ wr).drew).took hT9 hO9);have HID9:Hid (Zb wr.heap.size w9 (.slice pv9 di.length cv9) di):=hid9;have HG9:Hid (wr.heap.size≤w9.heap.size):=hO9.size;have z0:=HL9.out.ab.cell (i:=0) rfl;have zl:=HL9.out.ab.lt;clear hid9 hT9 hO9))
    all_goals
     have HL10:=Qa (HL9a.out.app (v':=.slice (some ⟨g10,0,none⟩) (ps.length+1) cap10) (q:=((dn,dl,(dp:Int),di),.slice pv9 di.length cv9)) ((HID9.out.below ((Below.refl _ w9).alloc wz _)).low HBL.out) (fun hne j hj e=>by
      have h1:=(HID9.out.own hne hj).1;have h2:=HVL.out j e;omega) HGR10.out (by
      rw[Qai];have:rvCells [((dn,dl,(dp:Int),di),Value.slice pv9 di.length cv9)]=[.string NM,.int .i64 dl,.int .u32 (dp:Nat),.slice pv9 di.length cv9]:=(by rw[rvCells,rvCells];simp only;rw[HNM.out]);rw[this];exact HOW10.out) (by
      rcases HAT10.out with h|h
      ·exact .inl h.symm
      ·exact .inr (by rw[h];rfl)))
     go_wp2_with fail;go_roundw
     case rel=>exact⟨k+1,S3,T3.2.2,_,ps++[((dn,dl,(dp:Int),di),.slice pv9 di.length cv9)],hlt,by rw[List.length_append];simp;omega,by go_num,HS3.out,HNX.out _,HL10⟩
     case measure=>simp[intOf];omega
   ·have HEX:Hid (FL=(ps.map (·.1),S.data.toList,ok)):=by
     show _=_;rw[←HF.out];cases ok with
     | false=>exact Qjp _ _ _
     | true=>
      have:mN - k=0:=(by have:¬k<mN:=fun h=>hgo ⟨rfl,h⟩;omega);rw[this];rfl
    have HGE:Hid (ok=true→(mN:Int)≤(k:Int)):=fun h=>by have:¬k<mN:=fun h2=>hgo ⟨h,h2⟩;omega
    have HRS:=Qa (fun W (hb:Below w.heap.size w W)=>Qq8 a S m W (by omega) (HE.out.below hb wz).some ((hb.cell (p:=⟨14,0,none⟩) (lt_of_cell HM.out)).trans HM.out));have s0:=HL.out.tk.bs.cell (i:=0) rfl;have hSS:(S.size:Int)≤40000:=(by omega);have HSD:=Qa (Qh S);obtain⟨RO,hRO⟩:∃x,readsOf S.data.toList=x:=⟨_,rfl⟩;rw[hRO]at HRS;have HRO:=Qa hRO;obtain⟨hl,hc,ha⟩:=RO;simp only at HRS;have hge:ok=true→(mN:Int)≤(k:Int):=HGE.out;clear hgo HF hRO;cases ok
    all_goals
     first|(have hge':(mN:Int)≤(k:Int):=hge rfl)|skip
     clear hge;go_wp2_with fail;refine(HRS.out wr HL.out.tk.bl).mono ?_;rintro e w2 ⟨vr,ev,rfl,hvr,hev,hb2⟩;obtain⟨pr,cr,rfl⟩:=Qby hvr;have HL2:=Qa (HL.out.next hb2);have o2:Off (fun k=>k=Ba) w2 (w2.setCell ⟨Ba,1,none⟩ (.slice pr hl.length cr)):=(Off.refl (fun k=>k=Ba) w2).setCell (p:=⟨Ba,1,none⟩) (.inl rfl) _;have HLO:=Qa HL.out.lo;have HBA:=Qa HL.out.ab.lt;have HTK3:=Qa (HL2.out.tk.turn o2 (fun k hk e=>by have:=HLO.out;omega));have HRB3:=Qa (o2.blk HL2.out.rb (by have:=HLO.out;omega));have HAB3:=Qa (HL2.out.ab.set 1 (.slice pr hl.length cr));have HRL3:=Qa (HL2.out.rl.turn o2 (fun k hk e=>by omega));have HV3:=Qa (o2.row hvr (fun k hk e=>by have:=Kc hvr hk;have:=HBA.out;omega));have HEV:Hid ((decide (hc=0)=true∧ev=.nilIface)∨(decide (hc=0)=false∧∃T A,ev=.iface T A)):=by
      by_cases h:hc=0
      ·subst h;exact .inl ⟨rfl,hev.nil⟩
      ·refine .inr ⟨by simpa using h,?_⟩;rcases hev with⟨_,hf⟩|⟨q,_,hv,_⟩|⟨q,pb,po,at0,_,_,hv,_⟩
       ·exact absurd (Prod.mk.inj hf).1 h
       ·exact⟨_,_,hv⟩
       ·exact⟨_,_,hv⟩
     have x1:=HL2.out.ab.cell (i:=1) rfl;have xf:=HL2.out.ab.frozen 1;have xl:=HL2.out.ab.lt;clear hvr hev hb2 o2 s0 k0 a0 af;go_wp2_with fail;obtain⟨W3,hW3⟩:∃W3,w2.setCell ⟨Ba,1,none⟩ (.slice pr hl.length cr)=W3:=⟨_,rfl⟩;rw[hW3]at HTK3 HRB3 HAB3 HRL3 HV3 ⊢;clear x1 xf xl hW3;have c0:=HAB3.out.cell (i:=0) rfl;have c1:=HAB3.out.cell (i:=1) rfl;have s0:=HTK3.out.bs.cell (i:=0) rfl;have k0:=HTK3.out.bk.cell (i:=0) rfl;have r0:=HRB3.out.cell (i:=0) rfl;have r1:=HRB3.out.cell (i:=1) rfl;have q0:=HRB3.out.frozen 0;have q1:=HRB3.out.frozen 1;have hrl:=HRB3.out.lt;have n1:¬Ba=w.heap.size+1:=(by have:=HLO.out;omega);have n2:¬w.heap.size+2=w.heap.size+1:=(by omega);have n3:¬w.heap.size=w.heap.size+1:=(by omega);have HOF:Hid (∀u v:Value,Off (fun k=>k=w.heap.size+1) W3 ((W3.setCell ⟨w.heap.size+1,0,none⟩ u).setCell ⟨w.heap.size+1,1,none⟩ v).drew):=fun u v=>by have o:=((Off.refl (fun k=>k=w.heap.size+1) W3).setCell (p:=⟨w.heap.size+1,0,none⟩) (.inl rfl) u).setCell (p:=⟨w.heap.size+1,1,none⟩) (.inl rfl) v;exact⟨o.os,o.tape,o.output,o.size,o.block⟩
     have HSQ:Hid (((S.size:Int)==(zN:Int))=decide (S.size=zN)):=by
      show _=_;by_cases h:S.size=zN
      ·rw[h];simp
      ·rw[decide_eq_false h,beq_eq_false_iff_ne];omega
     have wr_ge:w.heap.size+1<wr.heap.size:=HL.out.rb.lt;rcases HEV.out with⟨hd,rfl⟩|⟨hd,T,A,rfl⟩
     ·have HD:=Qa hd;clear hd;go_region
      all_goals
       go_wp2_with fail;refine bodyPost_ret (v:=.tuple #[.agg #[.slice pv ps.length cv,.slice pr hl.length cr],.bool (FL.2.2&&decide (hc=0)&&decide (S.data.toList.length=zN))]) (by simp[results,Tryz.results197,go_sem,r0,r1,HEX.out,HD.out,HSD.out,HSQ.out]) rfl ⟨.slice pv ps.length cv,.slice pr hl.length cr,?_,?_,?_,?_⟩
       ·rw[HEX.out];simp only[HRO.out]
       ·rw[HEX.out];exact⟨ps,rfl,(HRL3.out.turn (HOF.out _ _) (fun j hj e=>by have:=HLO.out;omega)).low (by have:=HLO.out;omega)⟩
       ·rw[HEX.out];simp only[HRO.out];exact Ui ((HOF.out _ _).row HV3.out (fun j hj e=>by have:=(HV3.out.lt j hj).1;have:=wr_ge;omega)) (by have:=wr_ge;omega)
       ·exact((HTK3.out.bl.setCell (p:=⟨w.heap.size+1,0,none⟩) (Nat.le_succ _) _).setCell (p:=⟨w.heap.size+1,1,none⟩) (Nat.le_succ _) _).drew
     ·have HD:=Qa hd;clear hd;go_region
      all_goals
       go_wp2_with fail;refine bodyPost_ret (v:=.tuple #[.agg #[.slice pv ps.length cv,.slice pr hl.length cr],.bool (FL.2.2&&decide (hc=0)&&decide (S.data.toList.length=zN))]) (by simp[results,Tryz.results197,go_sem,r0,r1,HEX.out,HD.out,HSD.out]) rfl ⟨.slice pv ps.length cv,.slice pr hl.length cr,?_,?_,?_,?_⟩
       ·rw[HEX.out];simp only[HRO.out]
       ·rw[HEX.out];exact⟨ps,rfl,(HRL3.out.turn (HOF.out _ _) (fun j hj e=>by have:=HLO.out;omega)).low (by have:=HLO.out;omega)⟩
       ·rw[HEX.out];simp only[HRO.out];exact Ui ((HOF.out _ _).row HV3.out (fun j hj e=>by have:=(HV3.out.lt j hj).1;have:=wr_ge;omega)) (by have:=wr_ge;omega)
       ·exact((HTK3.out.bl.setCell (p:=⟨w.heap.size+1,0,none⟩) (Nat.le_succ _) _).setCell (p:=⟨w.heap.size+1,1,none⟩) (Nat.le_succ _) _).drew
def Qty (a:Nat→Addr)(w:World)(s:ByteArray)(e:Ending)(w':World):Prop:=
 ∃vf vp ev,e=.returned (.tuple #[.agg #[vf,vp],ev])∧Below w.heap.size w w' ∧
  (if Ye s.data.toList=0 then ev=.nilIface∧Yw w.heap.size w' vf (Gy (s.data.toList.take (s.size - 8))).1∧w'.ownsRow w.heap.size 78 4 vp (readsOf (Gy (s.data.toList.take (s.size - 8))).2.1).1.length (heldCells (readsOf (Gy (s.data.toList.take (s.size - 8))).2.1).1) else ev=sentV a (Ye s.data.toList - 1)∧vf=.slice none 0 0∧vp=.slice none 0 0)
theorem Qcl (a:Nat→Addr)(s:ByteArray)(m:Int)(w:World)(hs:s.size≤50000)(hE:J6 w a)(hm:w.cell? ⟨14,0,none⟩=some (.int .i64 m)) :
 Calls Tryz.prog 115 #[.string s] w fun e w'=>Qty a w s e w':=by
 have hal:=(Below.refl _ w).alloc wz (.cells #[.slice none 0 0,.slice none 0 0] 176);have HB0:=Qa hal;have HR0:=Qa (Blk.new w #[.slice none 0 0,.slice none 0 0] 176);have hg1:5<w.heap.size:=lt_of_cell (hE.glob 1 (by decide));have hg0:4<w.heap.size:=lt_of_cell (hE.glob 0 (by decide));have hg8:8<w.heap.size:=lt_of_cell (hE.glob 8 (by decide));have HE:=Qa (fun W (hb:Below w.heap.size w W)=>hE.below hb wz);have HM:=Qa (fun W (hb:Below w.heap.size w W)=>(hb.cell (p:=⟨14,0,none⟩) (lt_of_cell hm)).trans hm);have g1:(w.alloc (.cells #[.slice none 0 0,.slice none 0 0] 176)).cell? ⟨5,0,none⟩=some (sentV a 1):=(HE.out _ hal).glob 1 (by decide);have g0:(w.alloc (.cells #[.slice none 0 0,.slice none 0 0] 176)).cell? ⟨4,0,none⟩=some (sentV a 0):=(HE.out _ hal).glob 0 (by decide);have r0:=HR0.out.cell (i:=0) rfl;have r1:=HR0.out.cell (i:=1) rfl;have f0:=HR0.out.frozen 0;have f1:=HR0.out.frozen 1;have hrl:=HR0.out.lt;have hsl:s.data.toList.length=s.size:=Qh s;have hs2:(s.size:Int)≤50000:=by omega
 clear hE hm hal;by_cases hbig:40000<s.size
 ·have hb2:(40000:Int)<(s.size:Int):=by omega
  have HTR:Hid (Ye s.data.toList=2):=by show _=_;unfold Ye;rw[if_pos (by omega)]
  go_enter Tryz.func115,Tryz.ntmps115;go_wp2_with fail;generalize w.alloc (.cells #[.slice none 0 0,.slice none 0 0] 176)=W0 at *;go_region
  all_goals go_wp2_with fail
  all_goals refine bodyPost_ret (v:=.tuple #[.agg #[.slice none 0 0,.slice none 0 0],sentV a 1]) (by simp[results,Tryz.results115,go_sem,r0,r1]) rfl ⟨_,_,_,rfl,((HB0.out.setCell (p:=⟨w.heap.size,0,none⟩) wz _).setCell (p:=⟨w.heap.size,1,none⟩) wz _).drew,?_⟩
  all_goals rw[HTR.out,if_neg (by decide)]
  all_goals exact⟨rfl,rfl,rfl⟩
 have hb2:¬(40000:Int)<(s.size:Int):=by omega
 by_cases hsm:s.size<8
 ·have hs8:(s.size:Int)<8:=by omega
  have HTR:Hid (Ye s.data.toList=1):=by show _=_;unfold Ye;rw[if_neg (by omega),if_pos (by omega)]
  go_enter Tryz.func115,Tryz.ntmps115;go_wp2_with fail;generalize w.alloc (.cells #[.slice none 0 0,.slice none 0 0] 176)=W0 at *;go_region
  all_goals go_wp2_with fail
  all_goals refine bodyPost_ret (v:=.tuple #[.agg #[.slice none 0 0,.slice none 0 0],sentV a 0]) (by simp[results,Tryz.results115,go_sem,r0,r1]) rfl ⟨_,_,_,rfl,((HB0.out.setCell (p:=⟨w.heap.size,0,none⟩) wz _).setCell (p:=⟨w.heap.size,1,none⟩) wz _).drew,?_⟩
  all_goals rw[HTR.out,if_neg (by decide)]
  all_goals exact⟨rfl,rfl,rfl⟩
 have hs8:¬(s.size:Int)<8:=by omega
 obtain⟨BD,hBD⟩:∃X,s.extract 0 (s.size - 8)=X:=⟨_,rfl⟩;obtain⟨LS,hLS⟩:∃X,s.extract (s.size - 8) s.size=X:=⟨_,rfl⟩;have hBDd:BD.data.toList=s.data.toList.take (s.size - 8):=by rw[←hBD];rw[Lib.extract_data];simp
 have hLSd:LS.data.toList=s.data.toList.drop (s.size - 8):=by rw[←hLS];rw[Lib.extract_data,List.take_of_length_le (by simp)]
 have hBDs:BD.size≤40000:=by have h1:BD.data.toList.length=BD.size:=Qh BD;rw[hBDd,List.length_take]at h1;omega
 have HTR:Hid (Ye s.data.toList=match unhex8 LS.data.toList with
  | none=>1
  | some n=>if tOk BD.data.toList=false then 1 else if pmore 2166136261 BD.data.toList=n then 0 else 9):=by show _=_;unfold Ye;rw[if_neg (by omega),if_neg (by omega),hBDd,hLSd,hsl];rfl
 have HHX:=Qa (fun W=>Km LS W);have HTA:=Qa (fun W (hb:Below w.heap.size w W)=>Qht a BD m W hBDs (HE.out _ hb) (HM.out _ hb));have HOF:=Qa (fun W=>Qdn BD W (by unfold maxLen;omega));obtain⟨OH,hOH⟩:∃o,unhex8 LS.data.toList=o:=⟨_,rfl⟩;obtain⟨OKB,hOKB⟩:∃o,tOk BD.data.toList=o:=⟨_,rfl⟩;obtain⟨PB,hPB⟩:∃o,pmore 2166136261 BD.data.toList=o:=⟨_,rfl⟩;obtain⟨FS,hFS⟩:∃o,Gy BD.data.toList=o:=⟨_,rfl⟩;rw[hOH,hOKB,hPB]at HTR;rw[hOH]at HHX;rw[hOKB,hFS]at HTA;rw[hPB]at HOF;have HFS:Hid (Gy (s.data.toList.take (s.size - 8))=FS):=by show _=_;rw[←hBDd];exact hFS
 have HGB:Hid (∀W,Below w.heap.size w W→W.cell? ⟨4,0,none⟩=some (sentV a 0)∧W.cell? ⟨8,0,none⟩=some (sentV a 8)):=fun W hb=>⟨(HE.out _ hb).glob 0 (by decide),(HE.out _ hb).glob 8 (by decide)⟩;clear hBDd hLSd hBDs hOH hOKB hPB hFS g0 g1 hsl;go_enter Tryz.func115,Tryz.ntmps115;go_wp2_with fail;go_region;rw[hBD,hLS];have HB1:=Qa (HB0.out.drew);have HR1:Hid (Blk (w.alloc (.cells #[.slice none 0 0,.slice none 0 0] 176)).drew w.heap.size #[.slice none 0 0,.slice none 0 0] 176):=HR0.out;clear hBD hLS r0 r1 f0 f1 hrl HB0 HR0;generalize (w.alloc (.cells #[.slice none 0 0,.slice none 0 0] 176)).drew=W0 at *;have HS0:Hid (w.heap.size<W0.heap.size):=HR1.out.lt;go_wp2_with fail;refine(HHX.out _).mono ?_;rintro e w1 ⟨rfl,rfl⟩;have HXR:Hid (∃n b,U1 OH=.tuple #[.int .u32 (n:Nat),.bool b]∧(b=false→OH=none)∧(b=true→OH=some n)):=by
  cases OH with
  | none=>exact⟨0,false,rfl,fun _=>rfl,fun h=>by cases h⟩
  | some n=>exact⟨n,true,rfl,fun h=>by (cases h),fun _=>rfl⟩
 obtain⟨hn,hb,hre,hno,hso⟩:=HXR.out;rw[hre];have HNO:=Qa hno;have HSO:=Qa hso;clear hre hno hso HXR;go_wp2_with fail;refine(HTA.out _ HB1.out).mono ?_;rintro e w2 ⟨vf,vp,rfl,hvf,hvp,hb2⟩;obtain⟨pf,cf,nf,rfl⟩:∃pf cf nf,vf=.slice pf nf cf:=by obtain⟨p',c',h1⟩:=hvf.shape;exact⟨p',c',_,h1⟩
 obtain⟨pv,cv,nv,rfl⟩:∃pv cv nv,vp=.slice pv nv cv:=by obtain⟨p',c',h1⟩:=Jv hvp;exact⟨p',c',_,h1⟩
 have hal2:=(Below.refl _ w2).alloc wz (.cells #[.slice pf nf cf,.slice pv nv cv] 176);have HB2:=Qa (HB1.out.trans (hb2.mono HB1.out.size));have HB3:=Qa (HB2.out.trans (hal2.mono HB2.out.size));have HR3:=Qa ((HR1.out.next hb2).next hal2);have HXB:=Qa (Blk.new w2 #[.slice pf nf cf,.slice pv nv cv] 176);have HVF:=Qa (hvf.turn (Off.of_below (F:=fun _=>False) hal2) (fun _ _ h=>h));have HVP:=Qa (Qi hvp hal2);have HS2:Hid (w.heap.size<w2.heap.size):=(HR1.out.next hb2).lt;have r0:=HR3.out.cell (i:=0) rfl;have r1:=HR3.out.cell (i:=1) rfl;have f0:=HR3.out.frozen 0;have f1:=HR3.out.frozen 1;have hrl:=HR3.out.lt;have x0:=HXB.out.cell (i:=0) rfl;have x1:=HXB.out.cell (i:=1) rfl;obtain⟨g0,g8⟩:=HGB.out _ HB3.out;clear hvf hvp hb2 hal2 HB1 HR1 HTA HHX HGB;by_cases hbad:hb=false∨OKB=false
 ·have HT1:Hid (Ye s.data.toList=1):=by
   show _=_;rw[HTR.out];rcases hbad with h|h
   ·rw[HNO.out h]
   ·cases OH with
    | none=>rfl
    | some n=>simp only[h,if_true]
  have hbb:(hb=false)∨(hb=true∧OKB=false):=by
   cases hb with
   | false=>exact .inl rfl
   | true=>
    rcases hbad with h|h
    ·cases h
    ·exact .inr ⟨rfl,h⟩
  clear hbad;rcases hbb with rfl|⟨rfl,rfl⟩
  ·cases OKB
   all_goals go_wp2_with fail
   all_goals go_region
   all_goals go_wp2_with fail
   all_goals refine bodyPost_ret (v:=.tuple #[.agg #[.slice none 0 0,.slice none 0 0],sentV a 0]) (by simp[results,Tryz.results115,go_sem,r0,r1]) rfl ⟨_,_,_,rfl,((HB3.out.setCell (p:=⟨w.heap.size,0,none⟩) wz _).setCell (p:=⟨w.heap.size,1,none⟩) wz _).drew,?_⟩
   all_goals rw[HT1.out,if_neg (by decide)]
   all_goals exact⟨rfl,rfl,rfl⟩
  ·go_wp2_with fail;go_region
   all_goals go_wp2_with fail
   all_goals refine bodyPost_ret (v:=.tuple #[.agg #[.slice none 0 0,.slice none 0 0],sentV a 0]) (by simp[results,Tryz.results115,go_sem,r0,r1]) rfl ⟨_,_,_,rfl,((HB3.out.setCell (p:=⟨w.heap.size,0,none⟩) wz _).setCell (p:=⟨w.heap.size,1,none⟩) wz _).drew,?_⟩
   all_goals rw[HT1.out,if_neg (by decide)]
   all_goals exact⟨rfl,rfl,rfl⟩
 obtain⟨rfl,rfl⟩:hb=true∧OKB=true:=by cases hb<;>cases OKB<;>simp at hbad ⊢
 have HO:=Qa (HSO.out rfl);clear hbad HNO HSO;go_wp2_with fail;refine(HOF.out _).mono ?_;rintro e w4 ⟨rfl,hw4⟩;subst hw4;by_cases hpn:PB=hn
 ·subst hpn;have HT0:Hid (Ye s.data.toList=0):=by show _=_;rw[HTR.out,HO.out];simp
  go_wp2_with fail;refine bodyPost_ret (v:=.tuple #[.agg #[.slice pf nf cf,.slice pv nv cv],.nilIface]) (by simp[results,Tryz.results115,go_sem,r0,r1]) rfl ⟨_,_,_,rfl,((HB3.out.setCell (p:=⟨w.heap.size,0,none⟩) wz _).setCell (p:=⟨w.heap.size,1,none⟩) wz _),?_⟩;rw[HT0.out,if_pos rfl,HFS.out];have o4:∀u v:Value,Off (fun k=>k=w.heap.size) (w2.alloc (.cells #[.slice pf nf cf,.slice pv nv cv] 176)) (((w2.alloc (.cells #[.slice pf nf cf,.slice pv nv cv] 176)).setCell ⟨w.heap.size,0,none⟩ u).setCell ⟨w.heap.size,1,none⟩ v):=fun u v=>((Off.refl (fun k=>k=w.heap.size) _).setCell (p:=⟨w.heap.size,0,none⟩) (.inl rfl) u).setCell (p:=⟨w.heap.size,1,none⟩) (.inl rfl) v;exact⟨rfl,(HVF.out.turn (o4 _ _) (fun k hk e=>by have:=HS0.out;omega)).low (Nat.le_of_lt HS0.out),Ui ((o4 _ _).row HVP.out (fun k hk e=>by have:=(HVP.out.lt k hk).1;have:=HS0.out;omega)) (Nat.le_of_lt HS0.out)⟩
 ·have HT9:Hid (Ye s.data.toList=9):=by show _=_;rw[HTR.out,HO.out];simp[hpn]
  have hpn':((PB:Int)==(hn:Int))=false:=by rw[beq_eq_false_iff_ne];omega
  go_wp2_with fail;go_region
  all_goals go_wp2_with fail
  all_goals refine bodyPost_ret (v:=.tuple #[.agg #[.slice none 0 0,.slice none 0 0],sentV a 8]) (by simp[results,Tryz.results115,go_sem,r0,r1]) rfl ⟨_,_,_,rfl,((HB3.out.setCell (p:=⟨w.heap.size,0,none⟩) wz _).setCell (p:=⟨w.heap.size,1,none⟩) wz _).drew,?_⟩
  all_goals rw[HT9.out,if_neg (by decide)]
  all_goals exact⟨rfl,rfl,rfl⟩
def K6 (K:Int×Int)(fs:List Rcp):Int×Int:=
 match fs with
 | []=>(3,-1)
 | r::q=>if (r::q).any (fun y => !decide (Qv y=Qv r))=true then (3,-1) else K
def Qcx (a:Nat→Addr)(w:World)(fs:List Rcp)(l:List Hd)(K:Int×Int):Prop:=
 ∀(vf vb:Value) (x:Nat×Int) (W:World),Below w.heap.size w W→Zv x→Jo W vf fs→Y3 W vb [(x,l)]→(∀r∈fs,Qv r=x) →
  Calls Tryz.prog 27 #[vf,vb] W fun e w'=>∃ev,e=.returned ev∧Qp W.heap.size w' a ev K∧Below W.heap.size W w'
def Qia (a:Nat→Addr)(w:World)(fs:List Rcp)(K:Int×Int)(e:Ending)(w':World):Prop:=
 ∃(xp:Nat) (xl:Int) (ev:Value),e=.returned (.tuple #[idV (xp:Nat) xl,ev])∧Qp w.heap.size w' a ev (K6 K fs)∧((K6 K fs).1=0→∀r q,fs=r::q→(xp,xl)=Qv r)∧Below w.heap.size w w'
theorem Qhp (a:Nat→Addr)(vf vp:Value)(fs:List Rcp)(l:List Hd)(K:Int×Int)(w:World)(hsc:Qcx a w fs l K)(hfm:fs.length≤10000)(hids:∀r∈fs,r.2.2.2.length≤1000)(hwf:∀r∈fs,Zv (Qv r))(hf:Jo w vf fs)(hp:Q4 w vp l)(hE:J6 w a) :
 Calls Tryz.prog 116 #[.agg #[vf,vp]] w (Qia a w fs K):=by
 have HF:=Qa (fun W (hb:Below w.heap.size w W)=>hf.below hb);have HP:=Qa (fun W (hb:Below w.heap.size w W)=>hp.below hb);have HE:=Qa (fun W (hb:Below w.heap.size w W)=>hE.below hb wz);have hg2:2<w.heap.size:=lt_of_cell (hE.glob 2 (by decide));obtain⟨pf,cf,rfl,hcell⟩:=hf;obtain⟨pp,cp,rfl,_⟩:=hp;have HC:Hid (∀W',Below w.heap.size w W'→∀i (h:i<fs.length),∃b o vi,pf=some ⟨b,o,none⟩∧qi W' b (o+i*4) vi fs[i]):=fun W' hb i hi=>by obtain⟨b,o,vi,hp,hr⟩:=hcell i hi;exact⟨b,o,vi,hp,hr.below hb⟩
 have hal1:=(Below.refl _ w).alloc wz (.cells #[.slice pf fs.length cf,.slice pp l.length cp] 176);have HBX1:=Qa (Blk.new w #[.slice pf fs.length cf,.slice pp l.length cp] 176);have hal2:=(Below.refl (w.alloc (.cells #[.slice pf fs.length cf,.slice pp l.length cp] 176)).heap.size (w.alloc (.cells #[.slice pf fs.length cf,.slice pp l.length cp] 176))).alloc wz (.cells #[.int .u32 0,.int .i64 0] 25);have HRB:=Qa (Blk.new (w.alloc (.cells #[.slice pf fs.length cf,.slice pp l.length cp] 176)) #[.int .u32 0,.int .i64 0] 25);rw[World.size_alloc]at HRB;have HB:=Qa (hal1.trans (hal2.mono (by simp)));have HBX:=Qa (HBX1.out.next hal2);have HCO:=Qa (And.intro hids hwf);have HSC:=Qa hsc;have hfm':(fs.length:Int)≤10000:=by omega
 have b0:=HBX.out.cell (i:=0) rfl;have r0:=HRB.out.cell (i:=0) rfl;have r1:=HRB.out.cell (i:=1) rfl;have f0:=HRB.out.frozen 0;have f1:=HRB.out.frozen 1;have hrl:=HRB.out.lt;have g2:=(HE.out _ HB.out).glob 2 (by decide);change World.cell? _ ⟨2,0,none⟩=_ at g2;clear hfm hids hwf hsc hE hcell hal1 hal2 HBX1;by_cases hz:fs=[]
 ·subst hz;go_enter Tryz.func116,Tryz.ntmps116;go_wp2_with fail;generalize (w.alloc (.cells #[.slice pf ([]:List Rcp).length cf,.slice pp l.length cp] 176)).alloc (.cells #[.int .u32 0,.int .i64 0] 25)=W at *;go_region
  all_goals go_wp2_with fail
  all_goals refine bodyPost_ret (v:=.tuple #[idV 0 0,sentV a 2]) (by simp[results,Tryz.results116,go_sem,r0,r1]) rfl ⟨0,0,sentV a 2,rfl,.inr (.inl ⟨2,by decide,rfl,rfl⟩),(fun h=>by cases h),?_⟩
  all_goals exact((HB.out.setCell (p:=⟨w.heap.size+1,0,none⟩) (Nat.le_succ _) _).setCell (p:=⟨w.heap.size+1,1,none⟩) (Nat.le_succ _) _).drew
 ·obtain⟨q,qs,hFS⟩:=List.exists_cons_of_ne_nil hz;have HFS:=Qa hFS;have hpos:0<fs.length:=by rw[hFS];simp
  have hpos':(0:Int)<(fs.length:Int):=by omega
  have hq0:fs[0]'hpos=q:=by subst hFS;rfl
  have HCC:Hid (K6 K fs=if fs.any (fun y => !decide (Qv y=Qv q))=true then (3,-1) else K):=by show _=_;rw[hFS];rfl
  have hqq:∀r s,fs=r::s→r=q:=fun r s h=>by rw[hFS]at h;exact(List.cons.inj h).1.symm
  have HQQ:=Qa hqq;clear hqq hz;obtain⟨b,o,vi,hp,hr⟩:=HC.out _ HB.out 0 hpos;rw[hq0]at hr;have HQI:Hid (q.2.2.2.length≤1000):=HCO.out.1 q (by rw[HFS.out];exact List.mem_cons_self ..);have HQW:Hid (Zv (Qv q)):=HCO.out.2 q (by rw[HFS.out];exact List.mem_cons_self ..);obtain⟨⟨xp,xl⟩,hrep⟩:∃x,Qv q=x:=⟨_,rfl⟩;rw[hrep]at HCC HQW;have HREP:=Qa hrep;obtain⟨nm,L,P,ids⟩:=q;have c0:=hr.c0;have c1:=hr.c1;have c2:=hr.c2;have c3:=hr.c3;have HI:=Qa hr.ids;obtain⟨pi,ci,hvi,_⟩:=hr.ids;simp only[Nat.zero_mul,Nat.add_zero]at c0 c1 c2 c3 hvi HI HQI;subst hvi;subst hp;obtain⟨X,hX⟩:∃X:ByteArray,(⟨nm.toArray⟩:ByteArray)=X:=⟨_,rfl⟩;rw[hX]at c0;have HR:=Qa (fun W (hv:Q3 W (.slice pi ids.length ci) ids)=>Ga X L P (.slice pi ids.length ci) ids W hv (by have:=HQI.out;unfold maxLen;omega));change Hid (∀W,_→Calls _ _ _ W fun e w'=>e=.returned (idV ((Qv (nm,L,P,ids)).1:Nat) (Qv (nm,L,P,ids)).2)∧_)at HR;rw[hrep]at HR;simp only at HR;obtain⟨idl,hidl⟩:∃idl,ids.length=idl:=⟨_,rfl⟩;rw[hidl]at c3 HI HR;clear hr hX hrep hidl hFS hq0;go_enter Tryz.func116,Tryz.ntmps116;go_wp2_with fail;generalize (w.alloc (.cells #[.slice (some ⟨b,o,none⟩) fs.length cf,.slice pp l.length cp] 176)).alloc (.cells #[.int .u32 0,.int .i64 0] 25)=W at *;refine(HR.out W HI.out).mono ?_;rintro e w2 ⟨rfl,hb2⟩;have HRB2:=Qa (HRB.out.next hb2);have hal3:=(Below.refl _ w2).alloc wz (.cells #[.int .u32 (xp:Nat),.int .i64 xl] 25);have HB3:=Qa ((HB.out.trans (hb2.mono HB.out.size)).trans (hal3.mono (Nat.le_trans HB.out.size hb2.size)));have HBX3:=Qa ((HBX.out.next hb2).next hal3);have HRB3:=Qa ((HRB.out.next hb2).next hal3);have HPB3:=Qa (Blk.new w2 #[.int .u32 (xp:Nat),.int .i64 xl] 25);clear hb2 hal3 b0 r0 r1 f0 f1 hrl g2 c0 c1 c2 c3 HI HR HBX HRB HB HQI;have b0:=HBX3.out.cell (i:=0) rfl;go_wp2_with fail;generalize w2.alloc (.cells #[.int .u32 (xp:Nat),.int .i64 xl] 25)=W3 at *;have HPNE:Hid (¬w2.heap.size=w.heap.size+1):=by show ¬_;have:=HRB2.out.lt;omega
  generalize w2.heap.size=PB at *
  go_loopw [21] (fun i wr=>∃k:Nat,k≤fs.length∧i=.int .i64 k∧Hid (∀j (hj:j<fs.length),j<k→Qv (fs[j]'hj)=(xp,xl))∧Hid (Below W3.heap.size W3 wr)) (fun i _=>fs.length - (intOf i).toNat)
  case atStart=>exact⟨0,Nat.zero_le _,rfl,fun j hj h=>by omega,Below.refl _ _⟩
  case round=>
   obtain⟨k,hk,rfl,HNO,HBW⟩:=hrel;have HBr:=Qa (HB3.out.trans (HBW.out.mono HB3.out.size));have HBXr:=Qa (HBX3.out.next HBW.out);have HRBr:=Qa (HRB3.out.next HBW.out);have HPBr:=Qa (HPB3.out.next HBW.out);clear b0;by_cases hlt:k<fs.length
   ·have hlt':(k:Int)<(fs.length:Int):=(by omega);have hk0:(0:Int)≤(k:Int):=(by omega);obtain⟨b2,o2,vi2,hp2,hr2⟩:=HC.out _ HBr.out k hlt;obtain⟨rfl,rfl⟩:b=b2∧o=o2:=(by simpa using hp2);have hmem:=List.getElem_mem hlt;have hi2:=HCO.out.1 _ hmem;have hw2:=HCO.out.2 _ hmem;obtain⟨⟨yp,yl⟩,hy⟩:∃y,Qv (fs[k]'hlt)=y:=⟨_,rfl⟩;have HY:=Qa hy;obtain⟨x,hx⟩:∃x,fs[k]'hlt=x:=⟨_,rfl⟩;have HMX:Hid (x∈fs):=(by show _∈_;rw[←hx];exact hmem);rw[hx]at hr2 hi2 hw2 hy;obtain⟨nm2,L2,P2,ids2⟩:=x;have c0:=hr2.c0;have c1:=hr2.c1;have c2:=hr2.c2;have c3:=hr2.c3;obtain⟨pi2,ci2,hvi2,_⟩:=id hr2.ids;have hii:=hr2.ids;simp only at c0 c1 c2 c3 hvi2 hii hi2;subst hvi2;obtain⟨X2,hX2⟩:∃X:ByteArray,(⟨nm2.toArray⟩:ByteArray)=X:=⟨_,rfl⟩;rw[hX2]at c0;have HREP2:=Qa (fun W (hv:Q3 W (.slice pi2 ids2.length ci2) ids2)=>Ga X2 L2 P2 (.slice pi2 ids2.length ci2) ids2 W hv (by unfold maxLen;omega));change Hid (∀W,_→Calls _ _ _ W fun e w'=>e=.returned (idV ((Qv (nm2,L2,P2,ids2)).1:Nat) (Qv (nm2,L2,P2,ids2)).2)∧_)at HREP2;rw[hy]at HREP2 hw2;simp only at HREP2;obtain⟨idl2,hidl2⟩:∃idl,ids2.length=idl:=⟨_,rfl⟩;rw[hidl2]at c3 hii HREP2;have HMX2:Hid (Qv (nm2,L2,P2,ids2)=(yp,yl)):=hy;have hal:=(Below.refl _ wr).alloc wz (.cells #[.string X2,.int .i64 L2,.int .u32 P2,.slice pi2 idl2 ci2] 40);have HBR:=Qa (Blk.new wr #[.string X2,.int .i64 L2,.int .u32 P2,.slice pi2 idl2 ci2] 40);have HI2:=Qa (hii.below hal);have HB4:=Qa (HBr.out.trans (hal.mono HBr.out.size));have HBW4:=Qa (HBW.out.trans (hal.mono HBW.out.size));have HRB4:=Qa (HRBr.out.next hal);have HPB4:=Qa (HPBr.out.next hal);have hc:(yp=xp∧yl=xl)∨((yp:Int)==(xp:Int))=false∨(((yp:Int)==(xp:Int))=true∧(yl==xl)=false):=by
     by_cases h:yp=xp
     ·by_cases h2:yl=xl
      ·exact .inl ⟨h,h2⟩
      ·exact .inr (.inr ⟨by rw[beq_iff_eq];omega,by rw[beq_eq_false_iff_ne];exact h2⟩)
     ·exact .inr (.inl (by rw[beq_eq_false_iff_ne];omega))
    have HNX:Hid ((yp=xp∧yl=xl)→∀j (hj:j<fs.length),j<k+1→Qv (fs[j]'hj)=(xp,xl)):=fun h j hj hjk=>by
     rcases Nat.lt_succ_iff_lt_or_eq.1 hjk with h'|h'
     ·exact HNO.out j hj h'
     ·subst h';rw[HY.out,h.1,h.2]
    have HNE:Hid (¬(yp=xp∧yl=xl)→K6 K fs=(3,-1)):=fun h=>by rw[HCC.out,if_pos];refine List.any_eq_true.2 ⟨_,HMX.out,?_⟩;rw[HMX2.out];have:¬((yp,yl)=(xp,xl)):=fun e=>h (by simpa using e);simp[this]
    have HCE:Hid (∀W',Blk W' wr.heap.size #[.string X2,.int .i64 L2,.int .u32 P2,.slice pi2 idl2 ci2] 40→Blk W' PB #[.int .u32 (xp:Nat),.int .i64 xl] 25→W'.cell? ⟨wr.heap.size,0,none⟩=some (.string X2)∧W'.cell? ⟨wr.heap.size,1,none⟩=some (.int .i64 L2)∧W'.cell? ⟨wr.heap.size,2,none⟩=some (.int .u32 P2)∧W'.cell? ⟨wr.heap.size,3,none⟩=some (.slice pi2 idl2 ci2)∧W'.cell? ⟨PB,0,none⟩=some (.int .u32 (xp:Nat))∧W'.cell? ⟨PB,1,none⟩=some (.int .i64 xl)):=fun W' h1 h2=>⟨h1.cell (i:=0) rfl,h1.cell (i:=1) rfl,h1.cell (i:=2) rfl,h1.cell (i:=3) rfl,h2.cell (i:=0) rfl,h2.cell (i:=1) rfl⟩;clear hr2 hii hi2 hw2 hy hx hX2 hidl2 hal hp2 hmem;go_wp2_with fail;generalize wr.alloc (.cells #[.string X2,.int .i64 L2,.int .u32 P2,.slice pi2 idl2 ci2] 40)=W5 at *;generalize wr.heap.size=RB at *;obtain⟨z0,z1,z2,z3,z4,z5⟩:=HCE.out _ HBR.out HPB4.out;rcases hc with hcc|hc|⟨hc,hd⟩
    ·obtain⟨rfl,rfl⟩:=hcc
     go_region_held3 (fun w'=>w'.cell? ⟨RB,0,none⟩=some (.string X2)∧w'.cell? ⟨RB,1,none⟩=some (.int .i64 L2)∧w'.cell? ⟨RB,2,none⟩=some (.int .u32 P2)∧w'.cell? ⟨RB,3,none⟩=some (.slice pi2 idl2 ci2)∧w'.cell? ⟨PB,0,none⟩=some (.int .u32 (yp:Nat))∧w'.cell? ⟨PB,1,none⟩=some (.int .i64 yl)) (first|exact HCE.out _ HBR3.out HPB5.out|go_keep) (first
      | (go_at_call 96;refine(HREP2.out _ (HI2.out.below (Below.refl _ W5).drew)).mono ?_;rintro e w3 ⟨rfl,hb3⟩;have hB3:Below W5.heap.size W5 w3:=(Below.refl _ W5).drew.trans hb3;have HBR3:=Qa (HBR.out.next hB3);have HPB5:=Qa (HPB4.out.next hB3);have HBW5:Hid (Below W3.heap.size W3 w3):=HBW4.out.trans (hB3.mono HBW4.out.size);clear hb3 hB3))
     go_wp2_with fail;go_roundw
     case rel=>exact⟨k+1,hlt,by go_num,HNX.out (by simp),HBW5.out⟩
     case measure=>simp[intOf];omega
    all_goals
     have HR9:Hid (K6 K fs=(3,-1)):=HNE.out (fun h=>by obtain⟨rfl,rfl⟩:=h;simp at *)
     go_region_held3 (fun w'=>w'.cell? ⟨RB,0,none⟩=some (.string X2)∧w'.cell? ⟨RB,1,none⟩=some (.int .i64 L2)∧w'.cell? ⟨RB,2,none⟩=some (.int .u32 P2)∧w'.cell? ⟨RB,3,none⟩=some (.slice pi2 idl2 ci2)∧w'.cell? ⟨PB,0,none⟩=some (.int .u32 (xp:Nat))∧w'.cell? ⟨PB,1,none⟩=some (.int .i64 xl)) (first|exact HCE.out _ HBR3.out HPB5.out|go_keep) (first
      | (go_at_call 96;refine(HREP2.out _ (HI2.out.below (Below.refl _ W5).drew)).mono ?_;rintro e w3 ⟨rfl,hb3⟩;have hB3:Below W5.heap.size W5 w3:=(Below.refl _ W5).drew.trans hb3;have HBR3:=Qa (HBR.out.next hB3);have HPB5:=Qa (HPB4.out.next hB3);have HB5:Hid (Below w.heap.size w w3):=HB4.out.trans (hB3.mono HB4.out.size);have HRB5:=Qa (HRB4.out.next hB3);clear hb3 hB3))
     have r0:=HRB5.out.cell (i:=0) rfl;have r1:=HRB5.out.cell (i:=1) rfl;have f0:=HRB5.out.frozen 0;have f1:=HRB5.out.frozen 1;have hrl:=HRB5.out.lt;have g2:=(HE.out _ HB5.out).glob 2 (by decide);change World.cell? _ ⟨2,0,none⟩=_ at g2;go_wp2_with fail;go_region
     all_goals go_wp2_with fail
     all_goals refine bodyPost_ret (v:=.tuple #[idV 0 0,sentV a 2]) (by simp[results,Tryz.results116,go_sem,r0,r1]) rfl ⟨0,0,sentV a 2,rfl,by rw[HR9.out];exact .inr (.inl ⟨2,by decide,rfl,rfl⟩),(fun h=>by rw[HR9.out]at h;cases h),?_⟩
     all_goals exact((HB5.out.setCell (p:=⟨w.heap.size+1,0,none⟩) (Nat.le_succ _) _).setCell (p:=⟨w.heap.size+1,1,none⟩) (Nat.le_succ _) _).drew
   ·have hge:(fs.length:Int)≤(k:Int):=(by omega);have HR9:Hid (K6 K fs=K):=(by show _=_;rw[HCC.out,if_neg];intro h;obtain⟨y,hy,hy2⟩:=List.any_eq_true.1 h;obtain⟨j,hj,rfl⟩:=List.mem_iff_getElem.1 hy;rw[HNO.out j hj (by omega)]at hy2;simp at hy2);have hV:=((Below.refl _ wr).alloc wz (.cells #[.int .u32 (xp:Nat),.int .i64 xl,.slice pp l.length cp] 60)).drew;have hLB:Blk (wr.alloc (.cells #[.int .u32 (xp:Nat),.int .i64 xl,.slice pp l.length cp] 60)).drew wr.heap.size #[.int .u32 (xp:Nat),.int .i64 xl,.slice pp l.length cp] 60:=Blk.new wr _ _;have HBV:=Qa (HBr.out.trans (hV.mono HBr.out.size));have HLD:Hid (Y3 (wr.alloc (.cells #[.int .u32 (xp:Nat),.int .i64 xl,.slice pp l.length cp] 60)).drew (.slice (some ⟨wr.heap.size,0,none⟩) 1 1) [((xp,xl),l)]):=⟨some ⟨wr.heap.size,0,none⟩,1,rfl,fun i hi=>by have h0:i=0:=(by simp at hi;exact hi);subst h0;exact⟨wr.heap.size,0,.slice pp l.length cp,rfl,⟨hLB.lt,hLB.cell (i:=0) rfl,hLB.cell (i:=1) rfl,hLB.cell (i:=2) rfl,HP.out _ HBV.out⟩⟩⟩;have HSC2:=Qa (HSC.out (.slice (some ⟨b,o,none⟩) fs.length cf) (.slice (some ⟨wr.heap.size,0,none⟩) 1 1) (xp,xl) _ HBV.out HQW.out (HF.out _ HBV.out) HLD.out (fun r hr=>by obtain⟨j,hj,rfl⟩:=List.mem_iff_getElem.1 hr;exact HNO.out j hj (by omega)));rw[←HR9.out]at HSC2;have HBXV:=Qa (HBXr.out.next hV);have HRBV:=Qa (HRBr.out.next hV);have HPBV:=Qa (HPBr.out.next hV);have HCE:Hid (∀W',Blk W' PB #[.int .u32 (xp:Nat),.int .i64 xl] 25→Blk W' w.heap.size #[.slice (some ⟨b,o,none⟩) fs.length cf,.slice pp l.length cp] 176→W'.cell? ⟨PB,0,none⟩=some (.int .u32 (xp:Nat))∧W'.cell? ⟨PB,1,none⟩=some (.int .i64 xl)∧W'.cell? ⟨w.heap.size,0,none⟩=some (.slice (some ⟨b,o,none⟩) fs.length cf)∧W'.cell? ⟨w.heap.size,1,none⟩=some (.slice pp l.length cp)):=fun W' h1 h2=>⟨h1.cell (i:=0) rfl,h1.cell (i:=1) rfl,h2.cell (i:=0) rfl,h2.cell (i:=1) rfl⟩;obtain⟨z0,z1,z2,z3⟩:=HCE.out _ HPBr.out HBXr.out;have hpl:=HPBr.out.lt;have hxl:=HBXr.out.lt;have HNP:=HPNE;have n1:=HNP.out;have n3:¬w.heap.size+1=PB:=fun e=>HNP.out e.symm;have n4:¬w.heap.size+1=w.heap.size:=(by omega);have HLT:=Qa HRBV.out.lt;have n2:¬w.heap.size=w.heap.size+1:=(by omega);have HFS1:Hid (∀r q,fs=r::q→(xp,xl)=Qv r):=fun r q h=>by rw[HQQ.out r q h];exact HREP.out.symm
    clear hV hLB;go_wp2_with fail
    go_region_held3 (fun w'=>w'.cell? ⟨PB,0,none⟩=some (.int .u32 (xp:Nat))∧w'.cell? ⟨PB,1,none⟩=some (.int .i64 xl)∧w'.cell? ⟨w.heap.size,0,none⟩=some (.slice (some ⟨b,o,none⟩) fs.length cf)∧w'.cell? ⟨w.heap.size,1,none⟩=some (.slice pp l.length cp)) (first|exact HCE.out _ HPB6.out HBX6.out|go_keep) (first
     | (go_at_call 27;refine HSC2.out.mono ?_;rintro e w6 ⟨ev,rfl,hev,hb6⟩;have HPB6:=Qa (HPBV.out.next hb6);have HBX6:=Qa (HBXV.out.next hb6);have HRB6:=Qa (HRBV.out.next hb6);have HB6:=Qa (HBV.out.trans (hb6.mono HBV.out.size));have HEV:=Qa hev;have r0:=HRB6.out.cell (i:=0) rfl;have r1:=HRB6.out.cell (i:=1) rfl;have f0:=HRB6.out.frozen 0;have f1:=HRB6.out.frozen 1;have hrl:=HRB6.out.lt;obtain⟨y0,y1,y2,y3⟩:=HCE.out _ HPB6.out HBX6.out;clear hb6 hev))
    go_wp2_with fail;refine bodyPost_ret (v:=.tuple #[idV (xp:Nat) xl,ev]) (by simp[results,Tryz.results116,go_sem,r0,r1]) rfl ⟨xp,xl,ev,rfl,?_,(fun _=>HFS1.out),?_⟩
    ·exact((HEV.out.setCell (x:=⟨w.heap.size+1,0,none⟩) HLT.out _).setCell (x:=⟨w.heap.size+1,1,none⟩) HLT.out _).low HBV.out.size
    ·exact(HB6.out.setCell (p:=⟨w.heap.size+1,0,none⟩) (Nat.le_succ _) _).setCell (p:=⟨w.heap.size+1,1,none⟩) (Nat.le_succ _) _
theorem Js.drew {w:World}{N mf mb:Nat}{vi:List UInt8→Value}{pi:Nat×Int→Addr}{Fi:Nat×Int→Nat→Prop}{fs:List Rcp}{bs:List Qr}(h:Js w N mf mb vi pi Fi fs bs):Js w.drew N mf mb vi pi Fi fs bs:=h.below (Below.refl _ w).drew
theorem Js.look {w:World}{N mf mb:Nat}{vi:List UInt8→Value}{pi:Nat×Int→Addr}{Fi:Nat×Int→Nat→Prop}{fs:List Rcp}{bs:List Qr}(h:Js w N mf mb vi pi Fi fs bs)(nm:List UInt8)(hnm:nm.length≤50000) :
 ∃(A:ByteArray) (L P:Int) (p:Option Addr) (n c:Nat),∀W,Js W N mf mb vi pi Fi fs bs→(Instr.lookup 118 (.map (some mf)) (.string ⟨nm.toArray⟩) true).run Tryz.prog W=.ok (.tuple #[.agg #[.string A,.int .i64 L,.int .u32 P,.slice p n c],.bool (fs.any fun r=>decide (r.1=nm))]) W:=by
 have hnw:Qfr nm:=by show nm.length≤maxLen;unfold maxLen;omega
 by_cases hr:∃r∈fs,r.1=nm
 ·obtain⟨r,hm,rfl⟩:=hr;obtain⟨p,c,hv,_⟩:=h.ids r hm;refine⟨⟨r.1.toArray⟩,r.2.1,r.2.2.1,p,r.2.2.2.length,c,fun W hW => ?_⟩;have:=hW.files.look_some Tryz.underlying118 (Y5 _) (List.mem_map.2 ⟨_,hm,rfl⟩);have e:(fs.any fun q=>decide (q.1=r.1))=true:=List.any_eq_true.2 ⟨r,hm,by simp⟩;rw[e];change(Instr.lookup _ _ (.string ⟨r.1.toArray⟩) true).run _ _=.ok (.tuple #[rcpV ⟨r.1.toArray⟩ r.2.1 r.2.2.1 (vi r.1),.bool true]) _ at this;rw[hv]at this;exact this
 ·refine⟨⟨#[]⟩,0,0,none,0,0,fun W hW => ?_⟩;have:=hW.files.look_none Tryz.underlying118 (Y5 _) hnw (fun y hy=>by obtain⟨f,hfm,rfl⟩:=List.mem_map.1 hy;exact fun e=>hr ⟨f,hfm,e⟩);have e:(fs.any fun q=>decide (q.1=nm))=false:=by rw[List.any_eq_false];intro q hq;simp only[decide_eq_true_eq];exact fun e=>hr ⟨q,hq,e⟩
  rw[e];exact this
theorem Qoj (X:ByteArray)(L P:Int)(pv:Option Addr)(nv cv:Nat)(Bn N mf mb:Nat)(vi:List UInt8→Value)(pi:Nat×Int→Addr)(Fi:Nat×Int→Nat→Prop)(fs:List Rcp)(bs:List Qr)(W:World)(hX:X.size≤50000)(hn:W.cell? ⟨Bn,0,none⟩=some (.pointer (some ⟨N,0,none⟩)))(h:Js W N mf mb vi pi Fi fs bs) :
 Calls Tryz.prog 273 #[rcpV X L P (.slice pv nv cv),.pointer (some ⟨Bn,0,none⟩)] W fun e w'=>e=.returned (.bool (fs.any fun r=>decide (r.1=X.data.toList)))∧Below W.heap.size W w':=by
 obtain⟨A0,L0,P0,p0,n0,c0,hl⟩:=h.look X.data.toList (by rw[Array.length_toList];exact hX);have hXe:(⟨X.data.toList.toArray⟩:ByteArray)=X:=by simp
 rw[hXe]at hl;obtain⟨b,hb⟩:∃b,(fs.any fun r=>decide (r.1=X.data.toList))=b:=⟨_,rfl⟩;rw[hb]at hl ⊢;have hal:=(Below.refl _ W).alloc wz (.cells #[.string X,.int .i64 L,.int .u32 P,.slice pv nv cv] 40);have HB:=Qa hal;have HXB:=Qa (Blk.new W #[.string X,.int .i64 L,.int .u32 P,.slice pv nv cv] 40);have h1:=h.below hal;have n1:=(hal.cell (p:=⟨Bn,0,none⟩) (lt_of_cell hn)).trans hn;have q0:=h1.blk.cell (i:=0) rfl;have l0:=hl _ h1;have l2:=hl _ h1.drew;have l1:=hl _ (h1.below ((Below.refl _ _).alloc wz (.cells #[.string ⟨#[]⟩,.int .i64 0,.int .u32 0,.slice none 0 0] 40))).drew;clear hl h h1 hal hb hXe hX hn;go_enter Tryz.func273,Tryz.ntmps273;go_wp2_with fail;obtain⟨W1,hW1⟩:∃W1,W.alloc (.cells #[.string X,.int .i64 L,.int .u32 P,.slice pv nv cv] 40)=W1:=⟨_,rfl⟩;obtain⟨XB,hXB⟩:∃XB,W.heap.size=XB:=⟨_,rfl⟩;rw[hW1]at HXB HB n1 q0 l0 l1 l2 ⊢;rw[hXB]at HXB ⊢;have x0:=HXB.out.cell (i:=0) rfl;have hXl:=HXB.out.lt;have hnl:=lt_of_cell n1;have hql:=lt_of_cell q0;clear hW1;go_region
 all_goals go_wp2_with fail
 all_goals go_ret
 all_goals refine⟨rfl,?_⟩
 all_goals exact HB.out.drew.alloc HB.out.size _
theorem Qkp (vl:Value)(fl:List Rcp)(Bn N mf mb:Nat)(vi:List UInt8→Value)(pi:Nat×Int→Addr)(Fi:Nat×Int→Nat→Prop)(fs:List Rcp)(bs:List Qr)(w:World)(hlen:fl.length≤100000)(hnm:∀r∈fl,r.1.length≤50000)(hv:Jo w vl fl)(hn:w.cell? ⟨Bn,0,none⟩=some (.pointer (some ⟨N,0,none⟩)))(h:Js w N mf mb vi pi Fi fs bs) :
 Calls Tryz.prog 312 #[vl,.func (.func 273) #[] #[.pointer (some ⟨Bn,0,none⟩)]] w fun e w'=>∃r:Int,e=.returned (.int .i64 r)∧(decide (0≤r)=fl.any fun q=>fs.any fun r=>decide (r.1=q.1))∧Below w.heap.size w w':=by
 have HCL:=Qa (fun (X:ByteArray) (L P:Int) (pv:Option Addr) (nv cv:Nat) (W:World) (hX:X.size≤50000) (hb:Below w.heap.size w W)=>Qoj X L P pv nv cv Bn N mf mb vi pi Fi fs bs W hX ((hb.cell (p:=⟨Bn,0,none⟩) (lt_of_cell hn)).trans hn) (h.below hb));have HNM:=Qa hnm;obtain⟨pa,ca,rfl,hcell⟩:=hv;have HC:Hid (∀W',Below w.heap.size w W'→∀i (h:i<fl.length),∃b o vi,pa=some ⟨b,o,none⟩∧qi W' b (o+i*4) vi fl[i]):=fun W' hb i hi=>by obtain⟨b,o,vi,hp,hr⟩:=hcell i hi;exact⟨b,o,vi,hp,hr.below hb⟩
 have hlen':(fl.length:Int)≤100000:=by omega
 obtain⟨ANS,hANS⟩:∃A,(fl.any fun q=>fs.any fun r=>decide (r.1=q.1))=A:=⟨_,rfl⟩;have HAN:=Qa hANS;rw[hANS];clear hcell hnm hn h hANS;go_enter Tryz.func312,Tryz.ntmps312;go_wp2_with fail
 go_loopw [8] (fun i wr=>∃k:Nat,k≤fl.length∧i=.int .i64 k∧Hid (∀j (hj:j<fl.length),j<k→(fs.any fun r=>decide (r.1=(fl[j]'hj).1))=false)∧Hid (Below w.heap.size w wr)) (fun i _=>fl.length - (intOf i).toNat)
 case atStart=>exact⟨0,Nat.zero_le _,rfl,fun j hj h=>by omega,Below.refl _ _⟩
 case round=>
  obtain⟨k,hk,rfl,HNO,HB⟩:=hrel;by_cases hlt:k<fl.length
  ·have hlt':(k:Int)<(fl.length:Int):=(by omega);have hk0:(0:Int)≤(k:Int):=(by omega);obtain⟨b,o,vi,hp,hr⟩:=HC.out _ HB.out k hlt;have hX5:(⟨(fl[k]'hlt).1.toArray⟩:ByteArray).size≤50000:=HNM.out _ (List.getElem_mem hlt);have HEQ:=Qa (Eq.refl (fs.any fun r=>decide (r.1=(fl[k]'hlt).1)));obtain⟨⟨nm,L,P,ids⟩,hx⟩:∃x,fl[k]'hlt=x:=⟨_,rfl⟩;have HX:=Qa hx;rw[hx]at hr hX5 HEQ;have c0:=hr.c0;have c1:=hr.c1;have c2:=hr.c2;have c3:=hr.c3;obtain⟨pi,ci,hvi,_⟩:=hr.ids;simp only at c0 c1 c2 c3 hvi hX5 HEQ;subst hvi;subst hp;obtain⟨X,hXe⟩:∃X:ByteArray,(⟨nm.toArray⟩:ByteArray)=X:=⟨_,rfl⟩;have hXd:X.data.toList=nm:=(by rw[←hXe]);rw[hXe]at c0 hX5;obtain⟨idl,hidl⟩:∃idl,ids.length=idl:=⟨_,rfl⟩;rw[hidl]at c3;have HC1:=Qa (HCL.out X L P pi idl ci wr hX5 HB.out);rw[hXd]at HC1;obtain⟨bb,hbb⟩:∃bb,(fs.any fun r=>decide (r.1=nm))=bb:=⟨_,rfl⟩;have HBB:=Qa hbb;rw[hbb]at HC1;clear hr hx hXe hXd hidl hX5 hbb HEQ;cases bb with
   | true=>
    go_wp2_with fail;refine HC1.out.mono ?_;rintro e w2 ⟨rfl,hb2⟩;have HB2:=Qa (HB.out.trans (hb2.mono HB.out.size));clear hb2 c0 c1 c2 c3;go_wp2_with fail;go_ret;refine⟨(k:Int),rfl,?_,HB2.out⟩;rw[←HAN.out,decide_eq_true (show(0:Int)≤(k:Int) by omega)];refine(List.any_eq_true.2 ⟨_,List.getElem_mem hlt,?_⟩).symm;rw[HX.out];exact HBB.out
   | false=>
    go_wp2_with fail;refine HC1.out.mono ?_;rintro e w2 ⟨rfl,hb2⟩;have HB2:=Qa (HB.out.trans (hb2.mono HB.out.size));clear hb2 c0 c1 c2 c3;go_wp2_with fail;go_roundw
    case rel=>exact⟨k+1,hlt,by go_num,fun j hj h=>by
     rcases Nat.lt_succ_iff_lt_or_eq.1 h with h|h
     ·exact HNO.out j hj h
     ·subst h;rw[HX.out];exact HBB.out,HB2.out⟩
    case measure=>simp[intOf];omega
  ·have hge:(fl.length:Int)≤(k:Int):=(by omega);have HF:Hid (ANS=false):=(by show _=_;rw[←HAN.out,List.any_eq_false];intro q hq;obtain⟨j,hj,rfl⟩:=List.mem_iff_getElem.1 hq;rw[HNO.out j hj (by omega)];decide);go_wp2_with fail;go_ret;exact⟨-1,rfl,by rw[HF.out];rfl,HB.out⟩
theorem Qg4 (vl:Value)(fl:List Rcp)(Bn N mf mb:Nat)(vi:List UInt8→Value)(pi:Nat×Int→Addr)(Fi:Nat×Int→Nat→Prop)(fs:List Rcp)(bs:List Qr)(w:World)(hlen:fl.length≤100000)(hnm:∀r∈fl,r.1.length≤50000)(hv:Jo w vl fl)(hn:w.cell? ⟨Bn,0,none⟩=some (.pointer (some ⟨N,0,none⟩)))(h:Js w N mf mb vi pi Fi fs bs) :
 Calls Tryz.prog 272 #[vl,.func (.func 273) #[] #[.pointer (some ⟨Bn,0,none⟩)]] w fun e w'=>e=.returned (.bool (fl.any fun q=>fs.any fun r=>decide (r.1=q.1)))∧Below w.heap.size w w':=by
 have HI:=Qa (Qkp vl fl Bn N mf mb vi pi Fi fs bs w hlen hnm hv hn h);obtain⟨ANS,hANS⟩:∃A,(fl.any fun q=>fs.any fun r=>decide (r.1=q.1))=A:=⟨_,rfl⟩;rw[hANS]at HI ⊢;obtain⟨pa,ca,rfl,_⟩:=hv;clear hnm hn h hANS hlen;go_enter Tryz.func272,Tryz.ntmps272;go_wp2_with fail;refine HI.out.mono ?_;rintro e w2 ⟨r,rfl,hr,hb2⟩;have HB2:=Qa hb2;clear hb2;cases ANS with
 | true=>
  have h0:(0:Int)≤r:=by simpa using hr
  clear hr;go_wp2_with fail;go_ret;exact⟨by simp,HB2.out⟩
 | false=>
  have h0:¬(0:Int)≤r:=by simpa using hr
  clear hr;go_wp2_with fail;go_ret;exact⟨by simp[h0],HB2.out⟩
open Go.RowKit
def Qw0 (h:Hd):Prop:=h.2.2.length<1∨64<h.2.2.length∨h.2.1<0
def J7 (l:List Hd)(i:Nat):Int:=
 match l[i]? with
 | none=>0
 | some h=>if h.2.2.length<1∨64<h.2.2.length∨h.2.1<0 then 2 else Z6 l i
def Ko (l:List Hd):Nat→Nat→Int×Int
 | _,0=>(0,-1)
 | i,n+1=>if 0<J7 l i then (J7 l i,(i:Int)) else Ko l (i+1) n
def Y2 (l:List Hd):Int×Int:=if 250<l.length then (7,-1) else Ko l 0 l.length
theorem markE_cases (l:List Hd)(i:Nat):Z6 l i=0∨Z6 l i=8∨Z6 l i=9:=by
 unfold Z6;split
 ·exact .inl rfl
 ·split
  ·exact .inr (.inr rfl)
  ·split
   ·exact .inl rfl
   ·split
    ·exact .inl rfl
    ·split
     ·exact .inl rfl
     ·exact .inr (.inl rfl)
theorem Qd9 (l:List Hd):∀(n i k:Nat),k<n→(∀j,i≤j→j<i+k→¬0<J7 l j)→0<J7 l (i+k)→Ko l i n=(J7 l (i+k),((i+k:Nat):Int))
 | 0,_,_,h,_,_=>by omega
 | n+1,i,0,_,_,h=>by have h':0<J7 l i:=h;rw[Ko,if_pos h'];rfl
 | n+1,i,k+1,h,ha,he=>by rw[Ko,if_neg (ha i wz (by omega)),Qd9 l n (i+1) k (by omega) (fun j h1 h2=>ha j (by omega) (by omega)) (by rw[show i+1+k=i+(k+1) by omega];exact he),show i+1+k=i+(k+1) by omega]
theorem Gz (l:List Hd):∀(n i:Nat),(∀j,i≤j→j<i+n→¬0<J7 l j)→Ko l i n=(0,-1)
 | 0,_,_=>rfl
 | n+1,i,ha=>by rw[Ko,if_neg (ha i wz (by omega)),Gz l n (i+1) (fun j h1 h2=>ha j (by omega) (by omega))]
theorem qh {q:Prop}(h:q):Hid q:=h
def Ql0 (a:Nat→Addr)(w:World)(p:Addr)(F:Nat→Prop)(old l:List Hd)(e:Ending)(w':World):Prop:=
 ∃ev,e=.returned ev∧Qp w.heap.size w' a ev (Y2 l)∧((Y2 l).1=0→∃F',Q0 w' p F' l∧∀k,F' k→F k∨w.heap.size≤k)∧((Y2 l).1≠0→Q0 w' p F old)∧Off F w w'
theorem Qsq {l:List Hd}{k:Nat}(hk:k<l.length)(h:¬0<J7 l k):(1≤l[k].2.2.length∧l[k].2.2.length≤64∧0≤l[k].2.1)∧Z6 l k=0:=by
 have e:J7 l k=if l[k].2.2.length<1∨64<l[k].2.2.length∨l[k].2.1<0 then 2 else Z6 l k:=by unfold J7;rw[List.getElem?_eq_getElem hk]
 by_cases ho:l[k].2.2.length<1∨64<l[k].2.2.length∨l[k].2.1<0
 ·rw[e,if_pos ho]at h;exact absurd (by decide) h
 ·rw[e,if_neg ho]at h;refine⟨by omega,?_⟩;rcases markE_cases l k with hm|hm|hm
  ·exact hm
  ·rw[hm]at h;exact absurd (by decide) h
  ·rw[hm]at h;exact absurd (by decide) h
theorem Qsc {l:List Hd}{k:Nat}(hk:k<l.length)(h:Z6 l k=0):l[k].1=Qc l[k].2.2∧∀h0:0<k,Qo (l[k - 1]'(by omega)).1 l[k].1=true:=by
 unfold Z6 at h;rw[List.getElem?_eq_getElem hk]at h;simp only at h;split at h
 ·cases h
 ·rename_i hid
  refine⟨(Decidable.not_not.1 hid).symm,fun h0 => ?_⟩;rw[if_neg (by omega),List.getElem?_eq_getElem (show k - 1<l.length by omega)]at h;simp only at h;split at h
  ·assumption
  ·cases h
theorem Qh7 (l:List Hd):∀n,n≤l.length→(∀j,j<n→¬0<J7 l j)→Y7 (l.take n)
 | 0,_,_=>by rw[List.take_zero];exact List.Pairwise.nil
 | n+1,hn,h=>by
  have ih:=Qh7 l n (by omega) (fun j hj=>h j (by omega));have hk:n<l.length:=by omega
  obtain⟨_,hm⟩:=Qsq hk (h n (by omega));obtain⟨_,hl⟩:=Qsc hk hm;unfold Y7 at ih ⊢;rw[List.take_succ_eq_append_getElem hk,List.pairwise_append];refine⟨ih,List.pairwise_singleton _ _,fun x hx y hy => ?_⟩;rw[List.mem_singleton.1 hy];cases n with
  | zero=>simp at hx
  | succ m=>
   have hlm:Qo l[m].1 l[m+1].1=true:=hl (by omega);rw[List.take_succ_eq_append_getElem (show m<l.length by omega),List.pairwise_append]at ih;rw[List.take_succ_eq_append_getElem (show m<l.length by omega)]at hx;rcases List.mem_append.1 hx with hx|hx
   ·exact K3 (ih.2.2 x hx l[m] (List.mem_singleton.2 rfl)) hlm
   ·rw[List.mem_singleton.1 hx];exact hlm
theorem Qqp {l:List Hd}{k:Nat}(hk:k<l.length)(h:∀j,j<k+1→¬0<J7 l j):((l[k].1,l[k].2)::(l.take k).filter (fun h => !decide (h.1=l[k].1))).Perm (l.take (k+1)):=by
 have hr:=Qh7 l (k+1) (by omega) h;unfold Y7 at hr;rw[List.take_succ_eq_append_getElem hk,List.pairwise_append]at hr;have e:(l.take k).filter (fun h => !decide (h.1=l[k].1))=l.take k:=List.filter_eq_self.2 (fun x hx=>by have:=Kr (hr.2.2 x hx l[k] (List.mem_singleton.2 rfl));simp[this]);rw[e,List.take_succ_eq_append_getElem hk];exact(List.perm_append_singleton _ _).symm
theorem Qp6 (a:Nat→Addr)(v:Value)(l:List Hd)(p:Addr)(F:Nat→Prop)(old:List Hd)(w:World)(hE:Qpw w a)(hP:Q0 w p F old)(hv:Q4 w v l)(hlen:l.length≤50000)(ht:∀h∈l,h.2.2.length≤50000)(hwf:∀h∈l,Zv h.1) :
 Calls Tryz.prog 199 #[.pointer (some p),v] w (Ql0 a w p F old l):=by
 have HV:Hid (Q4 w v l):=hv;have HP:Hid (Q0 w p F old):=hP;obtain⟨pa,ca,rfl,_⟩:=hv;have HT:Hid (∀h∈l,h.2.2.length≤50000):=ht;have HWF:Hid (∀h∈l,Zv h.1):=hwf;have HG:Hid (∀W,Below w.heap.size w W→Qpw W a):=fun W hb=>hE.below hb wz;have hlen':(l.length:Int)≤50000:=by omega
 clear ht hwf;by_cases hbig:250<l.length
 ·have hb2:(250:Int)<(l.length:Int):=by omega
  have HR:Hid (Y2 l=(7,-1)):=by show _=_;unfold Y2;rw[if_pos hbig]
  have g6:w.cell? ⟨1,0,none⟩=some (sentV a 6):=hE.glob 6 rfl;clear hP hE;go_enter Tryz.func199,Tryz.ntmps199;go_wp2_with fail;go_ret;exact⟨_,rfl,by rw[HR.out];exact .inr (.inl ⟨6,by decide,rfl,rfl⟩),(fun e=>by rw[HR.out]at e;cases e),fun _=>HP.out,Off.of_below (Below.refl _ _)⟩
 have hb2:¬(250:Int)<(l.length:Int):=by omega
 have HF:Hid (Y2 l=Ko l 0 l.length):=by show _=_;unfold Y2;rw[if_neg hbig]
 have hl2:l.length≤250:=by omega
 clear hbig hP hE;have hmm := @run_makeMap Tryz.prog;have hb1:=(Below.refl _ w).alloc wz (.map #[] 0);have hM:=Qf.Of.made idPieces w;go_enter Tryz.func199,Tryz.ntmps199;go_wp2_with fail
 go_loopw [16] (fun iv wr=>∃k:Nat,k≤l.length∧iv=.int .i64 k∧Hid (∀j,j<k→¬0<J7 l j)∧Hid (idPieces.Of wr w.heap.size (l.take k))∧Hid (Below w.heap.size w wr)) (fun iv _=>l.length - (intOf iv).toNat)
 case atStart=>exact⟨0,Nat.zero_le _,rfl,fun j hj=>by omega,by rw[List.take_zero];exact hM,hb1⟩
 case round=>
  clear hmm hb1 hM;obtain⟨k,hk,rfl,HNO,HOF,HB⟩:=hrel;by_cases hlt:k<l.length
  ·have hlt':(k:Int)<(l.length:Int):=(by omega);have hk0:(0:Int)≤(k:Int):=(by omega);obtain⟨_,_,hve,hcell⟩:=HV.out.below HB.out;obtain⟨rfl,rfl⟩:pa=_∧ca=_:=(by simpa using hve);obtain⟨b,o,rfl,hbl,c0,c1,c2,c3⟩:=hcell k hlt;have HHIT:Hid (0<J7 l k→Y2 l=(J7 l k,(k:Int))):=fun h=>by have:=Qd9 l l.length 0 k hlt (fun j _ hj=>HNO.out j (by omega)) (by rw[Nat.zero_add];exact h);rw[HF.out,this,Nat.zero_add]
   have HMISS:Hid (¬0<J7 l k→∀j,j<k+1→¬0<J7 l j):=fun h j hj=>by
    rcases Nat.lt_or_ge j k with h'|h'
    ·exact HNO.out j h'
    ·obtain rfl:j=k:=(by omega);exact h
   have HPERM:Hid (¬0<J7 l k→((l[k].1,l[k].2)::(l.take k).filter (fun h => !decide (h.1=l[k].1))).Perm (l.take (k+1))):=fun h=>Qqp hlt (HMISS.out h);have HFE:Hid (J7 l k=if l[k].2.2.length<1∨64<l[k].2.2.length∨l[k].2.1<0 then 2 else Z6 l k):=(by show _=_;unfold J7;rw[List.getElem?_eq_getElem hlt])
   have HTK:=qh (HT.out l[k] (List.getElem_mem hlt));have HWK:=qh (HWF.out l[k] (List.getElem_mem hlt));have HCK:=qh (fun W (hb:Below w.heap.size w W)=>Qdf a (.slice (some ⟨b,o,none⟩) l.length ca) l k W (HG.out W hb) hlt hlen (HT.out l[k] (List.getElem_mem hlt)) (HV.out.below hb));obtain⟨⟨⟨xp,xl⟩,u,t⟩,hy⟩:∃y,l[k]=y:=⟨_,rfl⟩;rw[hy]at c0 c1 c2 c3 HFE HTK HWK HPERM;simp only at c0 c1 c2 c3 HFE HTK HWK HPERM;obtain⟨T,hT⟩:∃T:ByteArray,(⟨t.toArray⟩:ByteArray)=T:=⟨_,rfl⟩;rw[hT]at c3;have hTs:T.size=t.length:=(by rw[←hT];simp[ByteArray.size]);rw[←hTs]at HFE HTK;have HTT:Hid (T.data.toList=t):=(by show _=_;rw[←hT]);clear hcell hve hy hT hTs;have hal:=(Below.refl _ wr).alloc wz (.cells #[.int .u32 (xp:Nat),.int .i64 xl,.int .i64 u,.string T] 78);have hblk:=Blk.new wr #[.int .u32 (xp:Nat),.int .i64 xl,.int .i64 u,.string T] 78;have HOF2:=qh (of_below HOF.out hal);have HB2:=qh (HB.out.trans (hal.mono HB.out.size));have hMlt:=HOF.out.lt;go_wp2_with fail;obtain⟨W,hW⟩:∃W,wr.alloc (.cells #[.int .u32 (xp:Nat),.int .i64 xl,.int .i64 u,.string T] 78)=W:=⟨_,rfl⟩;rw[hW]at hblk HOF2 HB2 ⊢;clear hW hal c0 c1 c2 c3 HOF HB;have hHM:wr.heap.size≠w.heap.size:=(by omega);generalize wr.heap.size=H at *;refine(Yp T W HTK.out).mono ?_;rintro e w1 ⟨rfl,hw1⟩;subst hw1;have y0:=hblk.cell (i:=0) rfl;have y1:=hblk.cell (i:=1) rfl;have y2:=hblk.cell (i:=2) rfl;have y3:=hblk.cell (i:=3) rfl;have g1:w1.cell? ⟨5,0,none⟩=some (sentV a 1):=(HG.out _ HB2.out).glob 1 rfl;by_cases ho:T.size<1∨64<T.size
   ·have hpc:Qew T.size=false:=(by unfold Qew;rw[decide_eq_false_iff_not];omega);have HR:Hid (Y2 l=(2,(k:Int))):=(by have e:J7 l k=2:=(by rw[HFE.out,if_pos (by omega)]);have:=HHIT.out (by rw[e];decide);rwa [e]at this);rw[hpc];clear hpc ho;go_wp2_with fail;go_ret;exact⟨_,rfl,by rw[HR.out];exact .inr (.inr ⟨1,w1.heap.size,0,(k:Int),by decide,HB2.out.size,rfl,by simp,by simp,rfl⟩),(fun e=>by rw[HR.out]at e;cases e),fun _=>HP.out.off (Off.of_below (F:=fun _=>False) (HB2.out.alloc HB2.out.size _)) (fun _ _ h=>h),Off.of_below (HB2.out.alloc HB2.out.size _)⟩
   ·have hpc:Qew T.size=true:=(by unfold Qew;rw[decide_eq_true_eq];omega);rw[hpc];by_cases hu:u<0
    ·have HR:Hid (Y2 l=(2,(k:Int))):=(by have e:J7 l k=2:=(by rw[HFE.out,if_pos (by omega)]);have:=HHIT.out (by rw[e];decide);rwa [e]at this);clear hpc ho;go_wp2_with fail;go_ret;exact⟨_,rfl,by rw[HR.out];exact .inr (.inr ⟨1,w1.heap.size,0,(k:Int),by decide,HB2.out.size,rfl,by simp,by simp,rfl⟩),(fun e=>by rw[HR.out]at e;cases e),fun _=>HP.out.off (Off.of_below (F:=fun _=>False) (HB2.out.alloc HB2.out.size _)) (fun _ _ h=>h),Off.of_below (HB2.out.alloc HB2.out.size _)⟩
    ·have HFM:Hid (J7 l k=Z6 l k):=(by show _=_;rw[HFE.out,if_neg (by omega)]);clear hpc;go_wp2_with fail;refine(HCK.out _ HB2.out).mono ?_;rintro e w2 ⟨rfl,hb2⟩;have HB3:Hid (Below w.heap.size w w2):=HB2.out.trans (hb2.mono HB2.out.size);have HOF3:=qh (of_below HOF2.out hb2);have HBL3:=qh (hblk.next hb2);clear hb2 HCK;rcases markE_cases l k with hM|hM|hM
     ·have HMZ:Hid (J7 l k≤0):=(by show _≤_;rw[HFM.out,hM];decide);have HPM:=qh (HPERM.out HMZ.out);have HMS:=qh (HMISS.out HMZ.out);have HTA:Hid ((⟨t.toArray⟩:ByteArray)=T):=(by show _=_;apply ByteArray.ext;apply Array.toList_inj.1;rw[HTT.out]);rw[hM,show Qgy a 0=.nilIface from rfl];have HCE:Hid (∀W',Blk W' H #[.int .u32 (xp:Nat),.int .i64 xl,.int .i64 u,.string T] 78→W'.cell? ⟨H,0,none⟩=some (.int .u32 (xp:Nat))∧W'.cell? ⟨H,1,none⟩=some (.int .i64 xl)∧W'.cell? ⟨H,2,none⟩=some (.int .i64 u)∧W'.cell? ⟨H,3,none⟩=some (.string T)):=fun W' h=>⟨h.cell (i:=0) rfl,h.cell (i:=1) rfl,h.cell (i:=2) rfl,h.cell (i:=3) rfl⟩;obtain⟨z0,z1,z2,z3⟩:=HCE.out _ HBL3.out;clear hM y0 y1 y2 y3 g1 HFM HFE HPERM HMISS HHIT;go_wp2_with fail
      go_region_held3 (fun w'=>w'.cell? ⟨H,0,none⟩=some (.int .u32 (xp:Nat))∧w'.cell? ⟨H,1,none⟩=some (.int .i64 xl)∧w'.cell? ⟨H,2,none⟩=some (.int .i64 u)∧w'.cell? ⟨H,3,none⟩=some (.string T)) (first|exact HCE.out _ HBL7.out|exact HCE.out _ HBL4.out|go_keep) (first
       | (go_at_call 238;refine(Qcr T u _ HTK.out).mono ?_;rintro e w4 ⟨rfl,hb4⟩;have hB4:Below w2.heap.size w2 w4:=(Below.refl _ w2).drew.trans hb4;have HBL4:=qh (HBL3.out.next hB4);obtain⟨w7,hst,hOf7,hg7⟩:=(of_below HOF3.out hB4).store Tryz.underlying168 HWK.out (u,t) (by rw[List.length_take];unfold maxLen;omega);change(Instr.mapUpdate 168 (.map (some w.heap.size)) (idV (xp:Nat) xl) (.agg #[.string ⟨t.toArray⟩,.int .i64 u])).run Tryz.prog _=_ at hst;rw[HTA.out]at hst;have HBL7:=qh (show Blk w7 H _ _ from (hg7.block _ HBL4.out.lt (fun e=>hHM (Option.some.inj e))).trans HBL4.out)))
      have HB7:Hid (Below w.heap.size w w7):=HB3.out.trans ((hB4.mono HB3.out.size).trans ((Zd hg7).below (Nat.le_trans HB3.out.size hB4.size) (fun j hj e=>by have:=Option.some.inj e;omega)));have HOF7:=qh (hOf7 _ HPM.out);clear hst hOf7 hg7 hb4 hB4;go_wp2_with fail;go_roundw
      case rel=>exact⟨k+1,hlt,by go_num,fun j hj=>by have:=HMS.out j hj;omega,HOF7.out,HB7.out⟩
      case measure=>simp[intOf];omega
     ·have HR:Hid (Y2 l=(8,(k:Int))):=(by have:=HHIT.out (by rw[HFM.out,hM];decide);rwa [HFM.out,hM]at this);rw[hM,show Qgy a 8=sentV a 7 from rfl];clear hM;go_wp2_with fail;go_ret;exact⟨_,rfl,by rw[HR.out];exact .inr (.inr ⟨7,w2.heap.size,0,(k:Int),by decide,HB3.out.size,rfl,by simp,by simp,rfl⟩),(fun e=>by rw[HR.out]at e;cases e),fun _=>HP.out.off (Off.of_below (F:=fun _=>False) (HB3.out.alloc HB3.out.size _)) (fun _ _ h=>h),Off.of_below (HB3.out.alloc HB3.out.size _)⟩
     ·have HR:Hid (Y2 l=(9,(k:Int))):=(by have:=HHIT.out (by rw[HFM.out,hM];decide);rwa [HFM.out,hM]at this);rw[hM,show Qgy a 9=sentV a 8 from rfl];clear hM;go_wp2_with fail;go_ret;exact⟨_,rfl,by rw[HR.out];exact .inr (.inr ⟨8,w2.heap.size,0,(k:Int),by decide,HB3.out.size,rfl,by simp,by simp,rfl⟩),(fun e=>by rw[HR.out]at e;cases e),fun _=>HP.out.off (Off.of_below (F:=fun _=>False) (HB3.out.alloc HB3.out.size _)) (fun _ _ h=>h),Off.of_below (HB3.out.alloc HB3.out.size _)⟩
  ·have hge:(l.length:Int)≤(k:Int):=(by omega);obtain rfl:k=l.length:=(by omega);rw[List.take_length]at HOF;obtain⟨B,b,rfl,hB,hO,hne,rfl⟩:=HP.out;have hBr:=hB.next HB.out;have x0:=hBr.cell (i:=0) rfl;have f0:=hBr.frozen 0;go_wp2_with fail;go_ret;have hR:Y2 l=(0,-1):=(by rw[HF.out];exact Gz l l.length 0 (fun j _ hj=>by have:=HNO.out j (by omega);omega));have hBlt:=hB.lt;refine⟨_,rfl,by rw[hR];exact .inl ⟨rfl,rfl⟩,fun _=>⟨_,⟨B,w.heap.size,rfl,hBr.set 0 _,HOF.out.kept (grown_set (grown_refl wr (some B)) 0 _) (fun e=>by have:=Option.some.inj e;omega),by omega,rfl⟩,fun k hk=>by
    rcases hk with rfl|rfl
    ·exact .inl (.inl rfl)
    ·exact .inr wz⟩,(fun e=>by rw[hR]at e;exact absurd rfl e),(Off.of_below HB.out).setCell (p:=⟨B,0,none⟩) (.inl (.inl rfl)) _⟩
theorem Js.lookB {w:World}{N mf mb:Nat}{vi:List UInt8→Value}{pi:Nat×Int→Addr}{Fi:Nat×Int→Nat→Prop}{fs:List Rcp}{bs:List Qr}(x:Nat×Int)(hx:Zv x)(_:Js w N mf mb vi pi Fi fs bs) :
 ∃p:Option Addr,∀W,Js W N mf mb vi pi Fi fs bs→(Instr.lookup 119 (.map (some mb)) (idV (x.1:Nat) x.2) true).run Tryz.prog W=.ok (.tuple #[.pointer p,.bool (bs.any fun b=>decide (b.1=x))]) W:=by
 by_cases hr:∃b∈bs,b.1=x
 ·obtain⟨b,hm,rfl⟩:=hr;refine⟨some (pi b.1),fun W hW => ?_⟩;have e:(bs.any fun q=>decide (q.1=b.1))=true:=List.any_eq_true.2 ⟨b,hm,by simp⟩;rw[e];exact hW.bins.look_some Tryz.underlying119 (Qbc W) (List.mem_map.2 ⟨_,hm,rfl⟩)
 ·refine⟨none,fun W hW => ?_⟩;have e:(bs.any fun q=>decide (q.1=x))=false:=by rw[List.any_eq_false];intro q hq;simp only[decide_eq_true_eq];exact fun e=>hr ⟨q,hq,e⟩
  rw[e];exact hW.bins.look_none Tryz.underlying119 (Qbc W) hx (fun y hy=>by obtain⟨b,hb,rfl⟩:=List.mem_map.1 hy;exact fun e=>hr ⟨b,hb,e⟩)
def hasB (fs:List Rcp)(bs:List Qr)(x:Nat×Int)(fl:List Rcp):Bool:=(bs.any fun b=>decide (b.1=x))||(fl.any fun q=>fs.any fun r=>decide (r.1=q.1))
theorem Qog (vl:Value)(fl:List Rcp)(x:Nat×Int)(N mf mb:Nat)(vi:List UInt8→Value)(pi:Nat×Int→Addr)(Fi:Nat×Int→Nat→Prop)(fs:List Rcp)(bs:List Qr)(w:World)(hx:Zv x)(hlen:fl.length≤100000)(hnm:∀r∈fl,r.1.length≤50000)(hv:Jo w vl fl)(h:Js w N mf mb vi pi Fi fs bs) :
 Calls Tryz.prog 198 #[.pointer (some ⟨N,0,none⟩),idV (x.1:Nat) x.2,vl] w fun e w'=>e=.returned (.bool (hasB fs bs x fl))∧Below w.heap.size w w':=by
 obtain⟨p0,hl⟩:=h.lookB x hx;have HX:=Qa hx;obtain⟨xp,xl⟩:=x;simp only at hl;obtain⟨b,hb⟩:∃b,(bs.any fun b=>decide (b.1=(xp,xl)))=b:=⟨_,rfl⟩;have hhb:hasB fs bs (xp,xl) fl=(b||(fl.any fun q=>fs.any fun r=>decide (r.1=q.1))):=by unfold hasB;rw[hb]
 rw[hb]at hl;rw[hhb];have hal1:=(Below.refl _ w).alloc wz (.cells #[.pointer (some ⟨N,0,none⟩)] 28);have HNB1:=Qa (Blk.new w #[.pointer (some ⟨N,0,none⟩)] 28);have hal2:=(Below.refl (w.alloc (.cells #[.pointer (some ⟨N,0,none⟩)] 28)).heap.size (w.alloc (.cells #[.pointer (some ⟨N,0,none⟩)] 28))).alloc wz (.cells #[.int .u32 (xp:Nat),.int .i64 xl] 25);have HXB0:=Qa (Blk.new (w.alloc (.cells #[.pointer (some ⟨N,0,none⟩)] 28)) #[.int .u32 (xp:Nat),.int .i64 xl] 25);rw[World.size_alloc]at HXB0;have HB:=Qa (hal1.trans (hal2.mono (by simp)));have HNB:=Qa (HNB1.out.next hal2);have h2:=(h.below hal1).below hal2;have HH:=Qa h2;have l0:=hl _ h2;have l1:=hl _ h2.drew;have hv2:=Qa (hv.below HB.out);have hlen':=hlen;have HLN:=Qa hlen;have HNM:=Qa hnm;obtain⟨pa,ca,rfl,_⟩:=hv;clear hal1 hal2 hl h h2 hb hhb hx hlen hnm HNB1 hlen';go_enter Tryz.func198,Tryz.ntmps198;go_wp2_with fail;obtain⟨W,hW⟩:∃W,(w.alloc (.cells #[.pointer (some ⟨N,0,none⟩)] 28)).alloc (.cells #[.int .u32 (xp:Nat),.int .i64 xl] 25)=W:=⟨_,rfl⟩;obtain⟨NB,hNB⟩:∃B,w.heap.size=B:=⟨_,rfl⟩;rw[hW]at HXB0 HB HNB HH l0 l1 hv2 ⊢;rw[hNB]at HXB0 HNB ⊢;have n0:=HNB.out.cell (i:=0) rfl;have x0:=HXB0.out.cell (i:=0) rfl;have x1:=HXB0.out.cell (i:=1) rfl;have q1:=HH.out.blk.cell (i:=1) rfl;have hnl:=lt_of_cell n0;have hxl:=lt_of_cell x0;have hql:=lt_of_cell q1;clear hW;go_region
 all_goals
  cases b with
  | true=>
   go_wp2_with fail;go_ret;exact⟨rfl,HB.out.drew⟩
  | false=>
   have HCT:=Qa (Qg4 (.slice pa fl.length ca) fl NB N mf mb vi pi Fi fs bs W.drew HLN.out HNM.out (hv2.out.below (Below.refl _ W).drew) n0 HH.out.drew);go_wp2_with fail;refine HCT.out.mono ?_;rintro e w2 ⟨rfl,hb2⟩;have HB2:=Qa (HB.out.drew.trans (hb2.mono HB.out.size));clear hb2;go_wp2_with fail;go_ret;exact⟨rfl,HB2.out⟩
def takeC (fs:List Rcp)(bs:List Qr)(x:Nat×Int)(fl:List Rcp)(l:List Hd):Int×Int:=if hasB fs bs x fl=true then (6,-1) else if 30<fs.length+fl.length then (7,-1) else Y2 l
def Uh (a:Nat→Addr)(w:World)(N mf mb:Nat)(vi:List UInt8→Value)(Fi:Nat×Int→Nat→Prop)(fs:List Rcp)(bs:List Qr)(x:Nat×Int)(fl:List Rcp)(l:List Hd)(e:Ending)(w':World):Prop:=
 ∃ev,e=.returned ev∧Qp w.heap.size w' a ev (takeC fs bs x fl l)∧((takeC fs bs x fl l).1≠0→Below w.heap.size w w') ∧
  ((takeC fs bs x fl l).1=0→Off (fun k=>k=mf∨k=mb) w w'∧∃vi' pi' Fi',Js w' N mf mb vi' pi' Fi' (fl.reverse++fs) ((x,l)::bs.filter (fun b => !decide (b.1=x)))∧∀k,Xg N mf mb vi' Fi' (fl.reverse++fs) ((x,l)::bs.filter (fun b => !decide (b.1=x))) k→Xg N mf mb vi Fi fs bs k∨w.heap.size≤k)
theorem Qji (a:Nat→Addr)(base:Nat)(vl vp:Value)(fl:List Rcp)(l:List Hd)(x:Nat×Int)(N mf mb:Nat)(vi:List UInt8→Value)(pi:Nat×Int→Addr)(Fi:Nat×Int→Nat→Prop)(fs:List Rcp)(bs:List Qr)(w:World)(hx:Zv x)(hlen:fl.length≤1000)(hsl:fs.length≤1000)(hbl:bs.length≤1000)(hap:fl.Pairwise (fun f g=>f.1≠g.1))(hnm:∀r∈fl,r.1.length≤50000)(hids:∀r∈fl,r.2.2.2.length≤50000)(hll:l.length≤50000)(ht:∀h∈l,h.2.2.length≤50000)(hwf:∀h∈l,Zv h.1)(hE:J6 w a)(hv:Yw base w vl fl)(hp:Q4 w vp l)(hbase:mf<base)(h:Js w N mf mb vi pi Fi fs bs) :
 Calls Tryz.prog 117 #[.pointer (some ⟨N,0,none⟩),idV (x.1:Nat) x.2,vl,vp] w (Uh a w N mf mb vi Fi fs bs x fl l):=by
 have HX:=Qa hx;obtain⟨xp,xl⟩:=x;have hal:=(Below.refl _ w).alloc wz (.cells #[.int .u32 (xp:Nat),.int .i64 xl] 25);have HXB:=Qa (Blk.new w #[.int .u32 (xp:Nat),.int .i64 xl] 25);have HB:=Qa hal;have HH:=Qa (h.below hal);have HFL:=Qa h.lt;have HE:=Qa (fun W (hb:Below w.heap.size w W)=>hE.below hb wz);have HV:=Qa (fun W (hb:Below w.heap.size w W)=>hv.turn (Off.of_below (F:=fun _=>False) hb) (fun _ _ h=>h));have HVP:=Qa (fun W (hb:Below w.heap.size w W)=>hp.below hb);have HHA:=Qa (Qog vl fl (xp,xl) N mf mb vi pi Fi fs bs _ hx (by omega) hnm (hv.turn (Off.of_below (F:=fun _=>False) hal) (fun _ _ h=>h)).at (h.below hal));obtain⟨pl,cl,rfl⟩:=hv.shape;obtain⟨pp,cp,rfl,_⟩:=id hp;obtain⟨HSB,hhb⟩:∃b,hasB fs bs (xp,xl) fl=b:=⟨_,rfl⟩;have HHB:=Qa hhb;rw[hhb]at HHA;have HTC:Hid (takeC fs bs (xp,xl) fl l=if HSB=true then (6,-1) else if 30<fs.length+fl.length then (7,-1) else Y2 l):=by show _=_;unfold takeC;rw[hhb]
 have HC:=Qa (And.intro hap (And.intro hnm (And.intro hids (And.intro ht hwf))));have HLL:=Qa hll;have hlen':(fl.length:Int)≤1000:=by omega
 have hsl':(fs.length:Int)≤1000:=by omega
 have HL:=Qa (And.intro hlen (And.intro hsl hbl));have HBS:=Qa hbase;clear hx hap hnm hids ht hwf hll hE hv hp h hal hhb hlen hsl hbl hbase;go_enter Tryz.func117,Tryz.ntmps117;go_wp2_with fail;obtain⟨W,hW⟩:∃W,w.alloc (.cells #[.int .u32 (xp:Nat),.int .i64 xl] 25)=W:=⟨_,rfl⟩;rw[hW]at HXB HB HH HHA ⊢;clear hW;refine HHA.out.mono ?_;rintro e w2 ⟨rfl,hb2⟩;have HB2:=Qa (HB.out.trans (hb2.mono HB.out.size));have HH2:=Qa (HH.out.below hb2);have HXB2:=Qa (HXB.out.next hb2);clear hb2 HHA;cases HSB with
 | true=>
  have HR:Hid (takeC fs bs (xp,xl) fl l=(6,-1)):=HTC.out.trans (if_pos rfl);have g5:=(HE.out _ HB2.out).glob 5 (by decide);change World.cell? _ ⟨3,0,none⟩=_ at g5;go_wp2_with fail;go_ret;unfold Uh;rw[HR.out];exact⟨_,rfl,.inr (.inl ⟨5,by decide,rfl,rfl⟩),fun _=>HB2.out,fun h=>by cases h⟩
 | false=>
  have hlf:(fs.map fun r=>(r.1,rwR r (vi r.1))).length=fs.length:=List.length_map ..;have ln:=HH2.out.files.len Tryz.underlying118 3;rw[hlf]at ln;have q0:=HH2.out.blk.cell (i:=0) rfl;by_cases hbig:30<fs.length+fl.length
  ·have HR:Hid (takeC fs bs (xp,xl) fl l=(7,-1)):=HTC.out.trans (by rw[if_neg (by decide),if_pos hbig]);have g6:=(HE.out _ HB2.out).glob 6 (by decide);change World.cell? _ ⟨1,0,none⟩=_ at g6;have hb':(30:Int)<(fs.length:Int)+(fl.length:Int):=(by omega);go_wp2_with fail;go_ret;unfold Uh;rw[HR.out];exact⟨_,rfl,.inr (.inl ⟨6,by decide,rfl,rfl⟩),fun _=>HB2.out,fun h=>by cases h⟩
  have hb':¬(30:Int)<(fs.length:Int)+(fl.length:Int):=by omega
  have HR:Hid (takeC fs bs (xp,xl) fl l=Y2 l):=HTC.out.trans (by rw[if_neg (by decide),if_neg hbig]);go_wp2_with fail;refine(Qlx w2).mono ?_;rintro e w3 ⟨q,F3,rfl,hq3,hf3,hb3⟩;have HB3:=Qa (HB2.out.trans (hb3.mono HB2.out.size));have HH3:=Qa (HH2.out.below hb3);have HXB3:=Qa (HXB2.out.next hb3);have HF3:Hid (∀k,F3 k→w.heap.size≤k∧k≠w.heap.size):=fun k hk=>by have h1:=hf3 k hk;have h2:=HXB2.out.lt;have h3:=HB2.out.size;exact⟨by omega,by omega⟩
  have HQ3:=Qa hq3;clear hq3 hf3 hb3 q0 ln hlf;go_wp2_with fail;refine(Qp6 a (.slice pp l.length cp) l q F3 [] w3 (HE.out _ HB3.out).some HQ3.out (HVP.out _ HB3.out) HLL.out HC.out.2.2.2.1 HC.out.2.2.2.2).mono ?_;intro e w4 hpost;unfold Ql0 at hpost;obtain⟨ev,rfl,hev,hok,_,ho4⟩:=hpost;have HB4:Hid (Below w.heap.size w w4):=HB3.out.trans (ho4.below HB3.out.size (fun k hk hf=>by have:=(HF3.out k hf).1;omega));have HEV:=Qa (hev.low HB3.out.size);have HOK:=Qa hok;have HH4:=Qa (HH3.out.off ho4 (fun k hk hf=>by have h1:=HFL.out k hk;have h2:=(HF3.out k hf).1;omega));have HXB4:=Qa (ho4.blk HXB3.out (fun hf=>(HF3.out _ hf).2 rfl));have HS3:Hid (w.heap.size≤w3.heap.size):=HB3.out.size;clear hev hok ho4;by_cases hz:(Y2 l).1=0
  ·obtain⟨F4,hq4,hf4⟩:=HOK.out hz;obtain rfl:ev=.nilIface:=by
    have h:=HEV.out;rcases h with⟨h,_⟩|⟨k,_,_,hf⟩|⟨k,pb,po,at0,_,_,_,_,_,hf⟩
    ·exact h
    ·rw[hf]at hz;simp only at hz;omega
    ·rw[hf]at hz;simp only at hz;omega
   have HKP:=Qa (Qkn N mf mb vi pi Fi fs bs (xp,xl) q F4 l (.slice pl fl.length cl) fl w4 HX.out HH4.out hq4 (fun k hk hr=>by
    have h1:=HFL.out k hr;have h3:=HS3.out;rcases hf4 k hk with h|h
    ·have h2:=(HF3.out k h).1;omega
    ·omega) (fun W ho=>((HV.out _ HB4.out).turn ho (fun k hk e=>by have:=HBS.out;omega)).at) (fun r hr g hg e=>by have hn:=HHB.out;unfold hasB at hn;rw[Bool.or_eq_false_iff]at hn;have:=List.any_eq_false.1 hn.2 r hr;exact this (List.any_eq_true.2 ⟨g,hg,by simpa using e⟩)) HC.out.1 HC.out.2.1 HC.out.2.2.1 HL.out.1 HL.out.2.1 HL.out.2.2)
   have HF4:Hid (∀k,F4 k→w.heap.size≤k):=fun k hk=>by
    rcases hf4 k hk with h|h
    ·exact(HF3.out k h).1
    ·exact Nat.le_trans HS3.out h
   have y0:=HXB4.out.cell (i:=0) rfl;have y1:=HXB4.out.cell (i:=1) rfl;have HZ:=Qa hz;clear hq4 hf4 hz;go_wp2_with fail;refine HKP.out.mono ?_;intro e w5 hpost;unfold Qml at hpost;obtain⟨rfl,vi',pi',Fi',hn5,hf5,ho5⟩:=hpost;have HN5:=Qa hn5;have HF5:=Qa hf5;have HO5:=Qa ho5;clear hn5 hf5 ho5 y0 y1;go_wp2_with fail;go_ret;unfold Uh;rw[HR.out];refine⟨.nilIface,rfl,?_,fun h=>absurd HZ.out h,fun _=>⟨(Off.of_below HB4.out).trans HO5.out (fun _ _ h=>h),vi',pi',Fi',HN5.out,fun k hk => ?_⟩⟩
   ·have h:=HEV.out;rcases h with⟨_,h⟩|⟨k,_,hc,_⟩|⟨k,pb,po,at0,_,_,hc,_⟩
    ·exact .inl ⟨rfl,h⟩
    ·cases hc
    ·cases hc
   ·rcases HF5.out k hk with h|h|h
    ·exact .inl h
    ·exact .inr (HF4.out k h)
    ·exact .inr (Nat.le_trans HB4.out.size h)
  ·obtain⟨T,A,hTA⟩:∃T A,ev=.iface T A:=by
    have h:=HEV.out;rcases h with⟨_,h⟩|⟨k,_,hc,_⟩|⟨k,pb,po,at0,_,_,hc,_⟩
    ·rw[h]at hz;exact absurd rfl hz
    ·exact⟨_,_,hc⟩
    ·exact⟨_,_,hc⟩
   subst hTA;have HZ:=Qa hz;clear hz;go_wp2_with fail;go_ret;unfold Uh;rw[HR.out];exact⟨_,rfl,HEV.out,fun _=>HB4.out,fun h=>absurd h HZ.out⟩
end Go.Proofs.YtjngnnbondejaabGreatDoor
