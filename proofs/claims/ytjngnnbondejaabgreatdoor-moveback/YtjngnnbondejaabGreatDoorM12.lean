/- A part. -/
import Derived.Test.YtjngnnbondejaabGreatDoorM11
set_option maxHeartbeats 16000000
set_option maxRecDepth 100000
namespace Go.Proofs.YtjngnnbondejaabGreatDoor
open Go.RowKit Go.Maps
theorem Qc7:∀(bs:List MB) (k:Nat) (hk:k<bs.length) (l:List Hd) (v:Value),mbCells (bs.set k ((bs[k].1.1,l),bs[k].2.1,v))=mbCells bs
 | [],_,h,_,_=>by simp at h
 | x::r,0,_,l,v=>rfl
 | x::r,k+1,h,l,v=>by have:=Qc7 r k (by simpa using h) l v;simp only[List.set_cons_succ,List.getElem_cons_succ,mbCells];rw[this]
theorem MSt.turn {w w':World}{M:Nat}{vf vb:Value}{ps:List MF}{bs:List MB}(h:MSt w M vf vb ps bs){k:Nat}(hk:k<bs.length){l:List Hd}{v:Value}(hb:Qt w' bs[k].2.1 v l)(hnew:∀j,v.ownBlock=some j→w.heap.size≤j)(ho:Off (Qt.Of bs[k].2.1 bs[k].2.2) w w') :
 MSt w' M vf vb ps (bs.set k ((bs[k].1.1,l),bs[k].2.1,v))∧(∀j,Ja (bs.set k ((bs[k].1.1,l),bs[k].2.1,v)) j→Ja bs j∨w.heap.size≤j):=by
 have hkm:bs[k]∈bs:=List.getElem_mem hk;have hin:∀j,Qt.Of bs[k].2.1 bs[k].2.2 j→Ja bs j:=fun j hj=>⟨_,hkm,hj⟩;have hz:∀j,Qt.Of bs[k].2.1 v j→Qt.Of bs[k].2.1 bs[k].2.2 j∨w.heap.size≤j:=fun j hj=>by
  rcases hj with hj|hj
  ·exact .inl (.inl hj)
  ·exact .inr (hnew j hj)
 have hl:=h.lt;have hap:∀i (hi:i<bs.length),i≠k→∀j,Qt.Of bs[i].2.1 bs[i].2.2 j→¬Qt.Of bs[k].2.1 bs[k].2.2 j:=fun i hi hne j h1 h2=>by
  have hp:=List.pairwise_iff_getElem.1 h.bb;rcases Nat.lt_or_gt_of_ne hne with e|e
  ·exact hp i k hi hk e j h1 h2
  ·exact hp k i hk hi e j h2 h1
 have hmem:∀j,Ja (bs.set k ((bs[k].1.1,l),bs[k].2.1,v)) j→Ja bs j∨w.heap.size≤j:=fun j ⟨y,hy,hj⟩=>by
  rcases List.mem_or_eq_of_mem_set hy with hy|rfl
  ·exact .inl ⟨y,hy,hj⟩
  ·exact(hz j hj).imp (hin j) id
 have hx:∀i (hi:i<bs.length),∀j,Qt.Of bs[i].2.1 bs[i].2.2 j→j<w.heap.size:=fun i hi j hj=>hl j (.inr (.inr (.inr (.inl ⟨_,List.getElem_mem hi,hj⟩))));refine⟨⟨ho.blk h.blk (fun e=>(h.bm M (hin M e)).1 rfl),ho.row h.frow (fun j hj e=>(h.bm j (hin j e)).2.1 hj),?_,fun q hq=>(h.ids q hq).off ho (fun hne j hj e=>(h.io j ⟨q,hq,hne,hj⟩).2.2.2 (hin j e)),fun y hy => ?_,h.mf,h.mb,h.fb,fun j hj => ?_,?_,fun j hj => ?_⟩,hmem⟩
 ·rw[Qc7 bs k hk l v,List.length_set];exact ho.row h.brow (fun j hj e=>(h.bm j (hin j e)).2.2 hj)
 ·obtain⟨i,hi,rfl⟩:=List.getElem_of_mem hy;rw[List.length_set]at hi;rw[List.getElem_set];split
  ·exact hb
  ·rename_i e
   exact(h.bins _ (List.getElem_mem hi)).off ho (fun j hj e2=>hap i hi (fun e3=>e e3.symm) j hj e2)
 ·rcases hmem j hj with hj|hj
  ·exact h.bm j hj
  ·exact⟨fun e=>by have:=hl M (.inl rfl);omega,fun e=>by have:=hl j (.inr (.inl e));omega,fun e=>by have:=hl j (.inr (.inr (.inl e)));omega⟩
 ·rw[List.pairwise_iff_getElem];intro i i2 hi hi2 hlt j h1 h2;rw[List.length_set]at hi hi2;rw[List.getElem_set]at h1 h2;split at h1
  ·rename_i e
   subst e;rw[if_neg (by omega)]at h2;rcases hz j h1 with h1|h1
   ·exact hap i2 hi2 (by omega) j h2 h1
   ·have:=hx i2 hi2 j h2;omega
  ·split at h2
   ·rename_i e
    subst e;rcases hz j h2 with h2|h2
    ·exact hap i hi (by omega) j h1 h2
    ·have:=hx i hi j h1;omega
   ·exact List.pairwise_iff_getElem.1 h.bb i i2 hi hi2 hlt j h1 h2
 ·obtain⟨h1,h2,h3,h4⟩:=h.io j hj;refine⟨h1,h2,h3,fun e => ?_⟩;rcases hmem j e with e|e
  ·exact h4 e
  ·have:=hl j (.inr (.inr (.inr (.inr hj))));omega
theorem Qu2 {α:Type}(f:α→α)(l:List α)(j:Nat)(h:j<l.length):((l.take j).map f++l.drop j).set j (f l[j])=(l.take (j+1)).map f++l.drop (j+1):=by
 have hlen:((l.take j).map f).length=j:=by rw[List.length_map,List.length_take,Nat.min_eq_left (Nat.le_of_lt h)]
 rw[List.drop_eq_getElem_cons h,List.set_append_right _ _ (by omega),hlen,Nat.sub_self,List.set_cons_zero,Gt f l j h,List.append_assoc];rfl
theorem Qwt {α:Type}(f:α→α)(l:List α)(j:Nat)(h:j<l.length)(h2:j<((l.take j).map f++l.drop j).length):((l.take j).map f++l.drop j)[j]=l[j]:=by
 have hlen:((l.take j).map f).length=j:=by rw[List.length_map,List.length_take,Nat.min_eq_left (Nat.le_of_lt h)]
 have hm:min j l.length=j:=Nat.min_eq_left (Nat.le_of_lt h);rw[List.getElem_append_right (by omega)];simp[hm]
def swB (b:Qr):Qr:=(b.1,(Q8 b.2).2)
def swN (bs:List Qr):Int:=(bs.map fun b=>(Q8 b.2).1).sum
theorem Qtg (bs:List Qr)(j:Nat)(h:j<bs.length):swN (bs.take (j+1))=swN (bs.take j)+(Q8 bs[j].2).1:=by
 unfold swN;rw[Gt (fun b:Qr=>(Q8 b.2).1) bs j h,List.sum_append];simp
theorem Qif:∀(l:List Qr),(∀b∈l,Qd 1000000 b.2)→0≤swN l∧swN l≤l.length*16000
 | [],_=>by simp[swN]
 | b::r,h=>by
  have h1:=Qif r (fun c hc=>h c (List.mem_cons_of_mem _ hc));have h2:=Z0 (h b (List.mem_cons_self ..)) unused;have e:(Q8 b.2).1=Qx (b.2.filter unused):=rfl;have e2:swN (b::r)=(Q8 b.2).1+swN r:=by simp[swN]
  rw[e2,e,List.length_cons];omega
theorem Qoh (M:Nat)(vf vb:Value)(ps:List MF)(bs:List MB)(w:World)(hn:bs.length≤1000)(hok:∀b∈mBs bs,Qd 1000000 b.2)(h:MSt w M vf vb ps bs) :
 Calls Tryz.prog 70 #[.pointer (some ⟨M,0,none⟩)] w fun e w'=>e=.returned (.int .i64 (swN (mBs bs)))∧∃bs',mBs bs'=(mBs bs).map swB∧MSt w' M vf vb ps bs'∧(∀k,Ja bs' k→Ja bs k∨w.heap.size≤k)∧Off (Ja bs) w w':=by
 obtain⟨pb,cb,rfl,_⟩:=h.reps;have HH:=Qa h;have HOK:=Qa hok;have hl2:(bs.length:Int)≤1000:=by omega
 have HBD:Hid (∀j,j≤bs.length→0≤swN ((mBs bs).take j)∧swN ((mBs bs).take j)≤16000000):=fun j hj=>by have:=Qif ((mBs bs).take j) (fun b hb=>hok b (List.mem_of_mem_take hb));rw[List.length_take,Qn,Nat.min_eq_left hj]at this;omega
 clear h hn hok;go_enter Tryz.func70,Tryz.ntmps70;go_wp2_with fail
 go_loopw [3,4] (fun u i wr=>∃(j:Nat) (bs':List MB),j≤bs.length∧i=.int .i64 j∧u=.int .i64 (swN ((mBs bs).take j))∧Hid (MSt wr M vf (.slice pb bs.length cb) ps bs')∧Hid (mBs bs'=((mBs bs).take j).map swB++(mBs bs).drop j)∧Hid (∀k,Ja bs' k→Ja bs k∨w.heap.size≤k)∧Hid (Off (Ja bs) w wr)) (fun _ i _=>bs.length - (intOf i).toNat)
 case atStart=>exact⟨0,bs,Nat.zero_le _,rfl,rfl,HH.out,by show _=_;simp,fun k hk=>.inl hk,Off.refl _ _⟩
 case round=>
  obtain⟨j,bs',hj,rfl,rfl,HS,HE,HMB,HO⟩:=hrel;have hlen:bs'.length=bs.length:=by have:=congrArg List.length HE.out;rw[Qn,List.length_append,List.length_map,List.length_take,List.length_drop,Qn]at this;omega
  have HLEN:=Qa hlen;have q0:=HS.out.blk.cell (i:=1) rfl;by_cases hlt:j<bs.length
  ·have hlt':(j:Int)<(bs.length:Int):=(by omega);have hj0:(0:Int)≤(j:Int):=(by omega);obtain⟨pb',cb',hvb',hcell⟩:=HS.out.reps;obtain⟨rfl,_,rfl⟩:pb=pb'∧bs.length=bs'.length∧cb=cb':=(by simpa using hvb');have hjl:j<bs'.length:=(by omega);obtain⟨b,o,rfl,_,_,_,a2⟩:=hcell j hjl;have hjm:j<(mBs bs).length:=(by rw[Qn];exact hlt);have hkey:bs'[j].1=(mBs bs)[j]:=(by have h1:=Xk bs' j (by rw[Qn];exact hjl);rw[←h1];have h2:=Qwt swB (mBs bs) j hjm (by rw[←HE.out,Qn];exact hjl);rw[←h2];congr 1);have hsn:=Qtg (mBs bs) j hjm;obtain⟨n1,n2⟩:=HBD.out j hj;obtain⟨m1,m2⟩:=HBD.out (j+1) hlt;rw[hsn]at m1 m2;have HSN:=Qa hsn;have hbk:=HOK.out _ (List.getElem_mem hjm);rw[←hkey]at hbk;have HSW:=Qa (Qm4 bs'[j].2.1 bs'[j].2.2 bs'[j].1.2 wr hbk.many hbk.lens (HS.out.bins _ (List.getElem_mem hjl)));have HTURN:Hid (∀w' v,Qt w' bs'[j].2.1 v (Q8 bs'[j].1.2).2→(∀k,v.ownBlock=some k→wr.heap.size≤k)→Off (Qt.Of bs'[j].2.1 bs'[j].2.2) wr w'→MSt w' M vf (.slice (some ⟨b,o,none⟩) bs.length cb) ps (bs'.set j ((bs'[j].1.1,(Q8 bs'[j].1.2).2),bs'[j].2.1,v))∧Off (Ja bs) w w'∧(∀k,Ja (bs'.set j ((bs'[j].1.1,(Q8 bs'[j].1.2).2),bs'[j].2.1,v)) k→Ja bs k∨w.heap.size≤k)):=fun w' v h1 h2 h3=>by
    obtain⟨t1,t2⟩:=HS.out.turn hjl h1 h2 h3;refine⟨t1,HO.out.trans h3 (fun i hi hf => ?_),fun k hk => ?_⟩
    ·rcases HMB.out i ⟨_,List.getElem_mem hjl,hf⟩with e|e
     ·exact e
     ·omega
    ·rcases t2 k hk with e|e
     ·exact HMB.out k e
     ·exact .inr (Nat.le_trans HO.out.size e)
   have HEQ:Hid (∀v,mBs (bs'.set j ((bs'[j].1.1,(Q8 bs'[j].1.2).2),bs'[j].2.1,v))=((mBs bs).take (j+1)).map swB++(mBs bs).drop (j+1)):=fun v=>by rw[←Qu2 swB (mBs bs) j hjm,←HE.out,←hkey];unfold mBs;rw[List.map_set];rfl
   have hsz:(Q8 bs'[j].1.2).1=(Q8 (mBs bs)[j].2).1:=(by rw[hkey]);rw[hsz]at HSW;obtain⟨BB,hBB⟩:∃BB,bs'[j].2.1=BB:=⟨_,rfl⟩;obtain⟨SZ,hSZ⟩:∃SZ,(Q8 (mBs bs)[j].2).1=SZ:=⟨_,rfl⟩;have HBB:=Qa hBB;rw[hSZ]at HSW m1 m2 HSN;have HSW2:Hid (Calls Tryz.prog 158 #[.pointer (some ⟨BB,0,none⟩)] wr fun e w'=>∃v',e=.returned (.int .i64 SZ)∧Qt w' bs'[j].2.1 v' (Q8 bs'[j].1.2).2∧(∀k,v'.ownBlock=some k→wr.heap.size≤k)∧Off (Qt.Of bs'[j].2.1 bs'[j].2.2) wr w'):=(by rw[←hBB];exact HSW.out);rw[hBB]at a2;obtain⟨n,hnn⟩:∃n,swN ((mBs bs).take j)=n:=⟨_,rfl⟩;rw[hnn]at n1 n2 m1 m2 HSN ⊢;have hw:IntKind.i64.wrap (n+SZ)=n+SZ:=(by rw[IntKind.wrap_i64];omega);clear hsn hbk hBB hSZ hnn hsz hkey hcell hvb' hlen HSW;go_wp2_with fail;refine HSW2.out.mono ?_;rintro e w5 ⟨v5,rfl,h1,h2,h3⟩;obtain⟨t1,t2,t3⟩:=HTURN.out w5 v5 h1 h2 h3;have HT1:=Qa t1;have HT2:=Qa t2;have HT3:=Qa t3;clear h1 h2 h3 t1 t2 t3;go_wp2_with fail;go_roundw
   case rel=>exact⟨j+1,_,hlt,by go_num,by rw[HSN.out],HT1.out,HEQ.out v5,HT3.out,HT2.out⟩
   case measure=>simp[intOf];omega
  ·have hge:(bs.length:Int)≤(j:Int):=(by omega);obtain rfl:j=bs.length:=(by omega);have ht:(mBs bs).take bs.length=mBs bs:=List.take_of_length_le (by rw[Qn];exact wz);have hd:(mBs bs).drop bs.length=[]:=List.drop_of_length_le (by rw[Qn];exact wz);rw[ht,hd,List.append_nil]at HE;rw[ht];obtain⟨n,hnn⟩:∃n,swN (mBs bs)=n:=⟨_,rfl⟩;have HNN:=Qa hnn;rw[hnn];clear hlt hnn ht hd hlen;go_wp2_with fail;go_ret;exact⟨by rw[HNN.out];rfl,_,HE.out,HS.out,HMB.out,HO.out⟩
def Vx (fs:List Qz)(x:Nat×Int):List Qz:=fs.filter (fun f=>decide (Qg f.2=x))
theorem Qof (fs:List Qz)(x:Nat×Int)(j:Nat)(h:j<fs.length):(Vx (fs.take (j+1)) x).length=(Vx (fs.take j) x).length+(if Qg fs[j].2=x then 1 else 0):=by
 unfold Vx;rw[List.take_succ_eq_append_getElem h,List.filter_append,List.length_append];by_cases e:Qg fs[j].2=x
 ·simp[e]
 ·simp[e]
theorem Qsf (fs:List Qz)(x:Nat×Int)(j:Nat):(Vx (fs.take j) x).length≤j:=by
 unfold Vx;exact Nat.le_trans (List.length_filter_le _ _) (by rw[List.length_take];omega)
theorem Qm3 (M:Nat)(vf vb:Value)(ps:List MF)(bs:List MB)(x:Nat×Int)(w:World)(hn:ps.length≤1000)(hfl:∀f∈mFs ps,f.2.length≤4000)(h:MSt w M vf vb ps bs) :
 Calls Tryz.prog 123 #[.pointer (some ⟨M,0,none⟩),idV (x.1:Nat) x.2] w fun e w'=>∃q c,e=.returned (.slice q (Vx (mFs ps) x).length c)∧Below w.heap.size w w':=by
 obtain⟨iS,hiS,zS0,zS1,zS2⟩:=info_parts Qub;obtain⟨pf,cf,rfl,_⟩:=h.files;obtain⟨xp,xl⟩:=x;simp only;have HH:=Qa h;have HN:=Qa hn;have HFL:=Qa hfl;have hl2:(ps.length:Int)≤1000:=by omega
 have hal:=(Below.refl _ w).alloc wz (.cells #[.int .u32 (xp:Nat),.int .i64 xl] 25);have HB1:=Qa hal;have HR1:=Qa (Blk.new w #[.int .u32 (xp:Nat),.int .i64 xl] 25);clear h hn hfl hal;go_enter Tryz.func123,Tryz.ntmps123;go_wp2_with fail;obtain⟨W,hW⟩:∃W,w.alloc (.cells #[.int .u32 (xp:Nat),.int .i64 xl] 25)=W:=⟨_,rfl⟩;rw[hW]at HB1 HR1 ⊢;obtain⟨RB,hRB⟩:∃RB,w.heap.size=RB:=⟨_,rfl⟩;have HRB:=Qa hRB;rw[hRB]at HR1 ⊢;clear hW hRB
 go_loopw [5,6] (fun u i wr=>∃(j:Nat) (xs:List Value),j≤ps.length∧i=.int .i64 j∧Hid (Below W.heap.size W wr)∧Hid (xs.length=(Vx ((mFs ps).take j) (xp,xl)).length)∧Hid (wr.ownsRow W.heap.size 9 1 u xs.length xs)) (fun _ i _=>ps.length - (intOf i).toNat)
 case atStart=>exact⟨0,[],Nat.zero_le _,rfl,Below.refl _ _,rfl,World.ownsRow_nil _ _ _ _⟩
 case round=>
  obtain⟨j,xs,hj,rfl,HB,HXL,HO⟩:=hrel;have HBW:Hid (Below w.heap.size w wr):=HB1.out.trans (HB.out.mono HB1.out.size);have hS:=HH.out.below HBW.out;have q0:=hS.blk.cell (i:=0) rfl;have HR2:=Qa (HR1.out.next HB.out);by_cases hlt:j<ps.length
  ·have hlt':(j:Int)<(ps.length:Int):=(by omega);have hj0:(0:Int)≤(j:Int):=(by omega);obtain⟨pf',cf',hvf',hcell⟩:=hS.files;obtain⟨rfl,rfl⟩:pf=pf'∧cf=cf':=(by simpa using hvf');obtain⟨b,o,rfl,⟨hb,hc⟩,a0,a1,a2,a3⟩:=hcell j hlt;have hjm:j<(mFs ps).length:=(by rw[Zg];exact hlt);have hsn:=Qof (mFs ps) (xp,xl) j hjm;rw[Vj]at hsn;have hfl:=HFL.out _ (List.getElem_mem hjm);rw[Vj]at hfl;have HLE:Hid (xs.length≤j):=(by show _≤_;rw[HXL.out];exact Qsf _ _ _);have hids:=HH.out.ids _ (List.getElem_mem hlt);have HCL0:Hid (∀W',Below wr.heap.size wr W'→W'.cell? ⟨M,0,none⟩=some (.slice (some ⟨b,o,none⟩) ps.length cf)∧W'.cell? ⟨b,o+j*4,none⟩=some (.string ⟨ps[j].1.1.toArray⟩)∧W'.cell? ⟨b,o+j*4+1,none⟩=some (.int .i64 (ps[j].1.2.length:Int))∧W'.cell? ⟨b,o+j*4+2,none⟩=some (.int .u32 ((pmore 2166136261 ps[j].1.2:Nat):Int))∧W'.cell? ⟨b,o+j*4+3,none⟩=some ps[j].2∧W'.cell? ⟨RB,0,none⟩=some (.int .u32 (xp:Nat))∧W'.cell? ⟨RB,1,none⟩=some (.int .i64 xl)):=fun W' hbw=>⟨(hS.below hbw).blk.cell (i:=0) rfl,(hbw.cell (p:=⟨b,o+j*4,none⟩) hb).trans a0,(hbw.cell (p:=⟨b,o+j*4+1,none⟩) hb).trans a1,(hbw.cell (p:=⟨b,o+j*4+2,none⟩) hb).trans a2,(hbw.cell (p:=⟨b,o+j*4+3,none⟩) hb).trans a3,(HR2.out.next hbw).cell (i:=0) rfl,(HR2.out.next hbw).cell (i:=1) rfl⟩;have hidl':(idsOf ps[j].1.2).length≤maxLen:=(by have h1:=Qy ps[j].1.2;unfold idsOf maxLen;rw[List.length_map];omega);have HIDS:Hid (∀W',Below wr.heap.size wr W'→Q3 W' ps[j].2 (idsOf ps[j].1.2)):=fun W' hbw=>(hids.below HBW.out).below hbw;obtain⟨⟨⟨f1,s⟩,fv⟩,hq⟩:∃q,ps[j]=q:=⟨_,rfl⟩;rw[hq]at hsn HCL0 hidl' HIDS;simp only at hsn HCL0 hidl' HIDS;obtain⟨pv,cv,hfv,_⟩:=id (HIDS.out wr (Below.refl _ _));obtain⟨X,hX⟩:∃X:ByteArray,(⟨f1.toArray⟩:ByteArray)=X:=⟨_,rfl⟩;obtain⟨PP,hPP⟩:∃PP,pmore 2166136261 s=PP:=⟨_,rfl⟩;obtain⟨LL,hLL⟩:∃LL,(s.length:Int)=LL:=⟨_,rfl⟩;obtain⟨idl,hidl⟩:∃idl,(idsOf s).length=idl:=⟨_,rfl⟩;rw[hidl]at hfv;subst hfv;rw[hX,hPP,hLL]at HCL0;have HREP:Hid (∀W',Below wr.heap.size wr W'→Calls Tryz.prog 128 #[rcpV X LL (PP:Nat) (.slice pv idl cv)] W' fun e w'=>e=.returned (idV ((Qg s).1:Nat) (Qg s).2)∧Below W'.heap.size W' w'):=fun W' hbw=>Vi X LL (PP:Nat) (.slice pv idl cv) (idsOf s) W' (HIDS.out W' hbw) hidl';have HCL:=Qa HCL0.out;have HSN:=Qa hsn;obtain⟨⟨rp,rl⟩,hr⟩:∃r,Qg s=r:=⟨_,rfl⟩;have HRT:=Qa hr;rw[hr]at HREP HSN;simp only at HREP;obtain⟨d0,d1,d2,d3,d4,d5,d6⟩:=HCL.out wr (Below.refl _ _);clear hS hvf' hcell a0 a1 a2 a3 hsn hfl hids HCL0 hidl' hq hX hPP hLL hidl hr q0 hb hc;by_cases e1:(rp:Int)=(xp:Int)
   ·by_cases e2:rl=xl
    ·have HE:Hid (xs.length+1=(Vx ((mFs ps).take (j+1)) (xp,xl)).length):=(by show _=_;rw[HSN.out,HXL.out,if_pos (by rw[e2,show rp=xp by omega])]);obtain rfl:xl=rl:=e2.symm;obtain rfl:xp=rp:=(by omega);go_wp2_with fail
     go_region_held3 (fun w'=>w'.cell? ⟨M,0,none⟩=some (.slice (some ⟨b,o,none⟩) ps.length cf)∧w'.cell? ⟨b,o+j*4,none⟩=some (.string X)∧w'.cell? ⟨b,o+j*4+1,none⟩=some (.int .i64 LL)∧w'.cell? ⟨b,o+j*4+2,none⟩=some (.int .u32 (PP:Nat))∧w'.cell? ⟨b,o+j*4+3,none⟩=some (.slice pv idl cv)∧w'.cell? ⟨RB,0,none⟩=some (.int .u32 (xp:Nat))∧w'.cell? ⟨RB,1,none⟩=some (.int .i64 xl)) (go_keep) (first
     | (go_at_call 128;refine(HREP.out _ (Below.refl _ wr).drew).mono ?_;rintro e w3 ⟨rfl,hb3⟩;have HB4:Hid (Below wr.heap.size wr w3):=(Below.refl _ wr).drew.trans (hb3.mono wz);obtain⟨z0,z1,z2,z3,z4,z5,z6⟩:=HCL.out w3 HB4.out;clear hb3))
     have HO3:=Qa (Qi HO.out HB4.out);have HBB:Hid (Below W.heap.size W w3):=HB.out.trans (HB4.out.mono HB.out.size);have HJ:=Qa hlt;clear d0 d1 d2 d3 d4 d5 d6;go_wp2_with (at_builtin;refine wpList_append_own _ rfl (.tmp 26) (.tmp 35) 73 rfl W.heap.size 9 iS (.string ⟨#[]⟩) 1 16 Tryz.underlying73 hiS zS0 zS1 zS2 rfl (by decide) u5 xs.length _ rfl (HO3.out.alloc _) ⟨w3.heap.size,0,none⟩ 1 1 [.string X] rfl rfl (Qj0 rfl) (by intro u hu;simp at hu;subst hu;rfl) (by have:=HN.out;have:=HJ.out;have:=HLE.out;unfold maxLen;omega) (by have:=HN.out;have:=HJ.out;have:=HLE.out;omega) (by have:=HBB.out.size;simp;omega) ?_;intro v5 w5 ho5 hg5 _;have hB5:Below W.heap.size W w5:=(HBB.out.alloc HBB.out.size _).grown hg5 (by have:=HBB.out.size;simp;omega) (fun k hk=>(HO.out.lt k hk).1);have HO5:=Qa ho5;have HB5:=Qa hB5;clear hg5 ho5 hB5);go_roundw
     case rel=>exact⟨j+1,xs++[.string X],hlt,by go_num,HB5.out,by rw[List.length_append];exact HE.out,by rw[List.length_append];exact HO5.out⟩
     case measure=>simp[intOf];omega
    ·have HE:Hid (xs.length=(Vx ((mFs ps).take (j+1)) (xp,xl)).length):=(by show _=_;rw[HSN.out,HXL.out,if_neg (fun e=>e2 (Prod.mk.inj e).2)];rfl);obtain rfl:xp=rp:=(by omega);have e2':(rl==xl)=false:=beq_eq_false_iff_ne.2 e2;go_wp2_with fail
     go_region_held3 (fun w'=>w'.cell? ⟨M,0,none⟩=some (.slice (some ⟨b,o,none⟩) ps.length cf)∧w'.cell? ⟨b,o+j*4,none⟩=some (.string X)∧w'.cell? ⟨b,o+j*4+1,none⟩=some (.int .i64 LL)∧w'.cell? ⟨b,o+j*4+2,none⟩=some (.int .u32 (PP:Nat))∧w'.cell? ⟨b,o+j*4+3,none⟩=some (.slice pv idl cv)∧w'.cell? ⟨RB,0,none⟩=some (.int .u32 (xp:Nat))∧w'.cell? ⟨RB,1,none⟩=some (.int .i64 xl)) (go_keep) (first
     | (go_at_call 128;refine(HREP.out _ (Below.refl _ wr).drew).mono ?_;rintro e w3 ⟨rfl,hb3⟩;have HB4:Hid (Below wr.heap.size wr w3):=(Below.refl _ wr).drew.trans (hb3.mono wz);obtain⟨z0,z1,z2,z3,z4,z5,z6⟩:=HCL.out w3 HB4.out;clear hb3))
     have HO3:=Qa (Qi HO.out HB4.out);have HBB:Hid (Below W.heap.size W w3):=HB.out.trans (HB4.out.mono HB.out.size);clear d0 d1 d2 d3 d4 d5 d6;go_wp2_with fail;go_roundw
     case rel=>exact⟨j+1,xs,hlt,by go_num,HBB.out,HE.out,HO3.out⟩
     case measure=>simp[intOf];omega
   ·have HE:Hid (xs.length=(Vx ((mFs ps).take (j+1)) (xp,xl)).length):=(by show _=_;rw[HSN.out,HXL.out,if_neg (fun e=>e1 (by rw[(Prod.mk.inj e).1]))];rfl);have e1':((rp:Int)==(xp:Int))=false:=beq_eq_false_iff_ne.2 e1;go_wp2_with fail
    go_region_held3 (fun w'=>w'.cell? ⟨M,0,none⟩=some (.slice (some ⟨b,o,none⟩) ps.length cf)∧w'.cell? ⟨b,o+j*4,none⟩=some (.string X)∧w'.cell? ⟨b,o+j*4+1,none⟩=some (.int .i64 LL)∧w'.cell? ⟨b,o+j*4+2,none⟩=some (.int .u32 (PP:Nat))∧w'.cell? ⟨b,o+j*4+3,none⟩=some (.slice pv idl cv)∧w'.cell? ⟨RB,0,none⟩=some (.int .u32 (xp:Nat))∧w'.cell? ⟨RB,1,none⟩=some (.int .i64 xl)) (go_keep) (first
     | (go_at_call 128;refine(HREP.out _ (Below.refl _ wr).drew).mono ?_;rintro e w3 ⟨rfl,hb3⟩;have HB4:Hid (Below wr.heap.size wr w3):=(Below.refl _ wr).drew.trans (hb3.mono wz);obtain⟨z0,z1,z2,z3,z4,z5,z6⟩:=HCL.out w3 HB4.out;clear hb3))
    have HO3:=Qa (Qi HO.out HB4.out);have HBB:Hid (Below W.heap.size W w3):=HB.out.trans (HB4.out.mono HB.out.size);clear d0 d1 d2 d3 d4 d5 d6;go_wp2_with fail;go_roundw
    case rel=>exact⟨j+1,xs,hlt,by go_num,HBB.out,HE.out,HO3.out⟩
    case measure=>simp[intOf];omega
  ·have hge:(ps.length:Int)≤(j:Int):=(by omega);have ht:(mFs ps).take j=mFs ps:=List.take_of_length_le (by rw[Zg];omega);rw[ht]at HXL;obtain⟨q5,c5,hu5⟩:=Jh HO.out;subst hu5;clear hS hlt ht;go_wp2_with fail;go_ret;rw[←HXL.out];exact⟨_,_,rfl,HBW.out⟩
theorem Qaz {st:NSt}{nm s:List UInt8}{c:Int}(h:Jt st nm s=(0,c,st))(hc:c≠0):Qdr st nm s=(0,c,st):=by
 unfold Qdr;rw[h,if_pos hc]
theorem Qux {st:NSt}{nm s:List UInt8}{r:Nat×Int}{BL bl:List Hd}{fr:Int}(h:(ofR nm s).2=0)(h2:nFile st.files nm=none)(h3:¬30≤st.files.length)(hr:Qg s=r)(hb:(Zi st.bins r).getD []=BL)(hp:Za BL 0 (pieces s)=(fr,0,bl)):Qdr st nm s=(fr,0,⟨Ux ltN st.files (nm,s),Qdo st.bins r bl⟩):=by
 unfold Qdr;rw[Qba h h2 h3 hr hb hp,if_neg (by simp),hr,hb,hp]
theorem Qjq {l:List Hd}{t:List UInt8}{ri:Nat×Int}{ra:Bool}{re:Int}{rl:List Hd}(h:Zu l t=((ri,ra,re),rl))(hne:re≠0):0<re:=by
 unfold Zu at h;split at h
 ·simp at h;omega
 ·split at h
  ·split at h<;>simp at h<;>omega
  ·split at h<;>simp at h<;>omega
def Yy (w:World)(M:Nat)(G:Nat→Prop)(r:Int×Int×NSt)(e:Ending)(w':World):Prop:=
 e=.returned (.tuple #[.int .i64 r.1,.int .i64 r.2.1])∧∃G',Ya w' ⟨M,0,none⟩ G' r.2.2∧(∀k,G' k→G k∨w.heap.size≤k)∧Off G w w'
theorem Yy.same {w w':World}{M:Nat}{vf vb:Value}{ps:List MF}{bs:List MB}{r:Int×Int×NSt}{c:Int}(hS:MSt w M vf vb ps bs)(hr:r=(0,c,⟨mFs ps,mBs bs⟩))(hb:Below w.heap.size w w'):Yy w M (Vb M vf vb ps bs) r (.returned (.tuple #[.int .i64 0,.int .i64 c])) w':=by
 subst hr;exact⟨rfl,_,⟨M,vf,vb,ps,bs,rfl,hS.below hb,rfl,rfl⟩,fun k hk=>.inl hk,Off.of_below hb⟩
theorem Qi1 (M:Nat)(vf vb:Value)(ps:List MF)(bs:List MB)(nm s:ByteArray)(U:Int)(w:World)(hnm:nm.size≤50000)(hs:s.size≤50000)(hU:0≤U∧U+5000≤1000000)(hok:∀b∈mBs bs,Qd U b.2)(hbn:bs.length≤1000)(hpn:ps.length≤1000)(h:MSt w M vf vb ps bs) :
 Calls Tryz.prog 68 #[.pointer (some ⟨M,0,none⟩),.string nm,.string s] w (Yy w M (Vb M vf vb ps bs) (Qdr ⟨mFs ps,mBs bs⟩ nm.data.toList s.data.toList)):=by
 have HH:=Qa h;have HOK:=Qa hok;obtain⟨pf,cf,hvf,hfc⟩:=h.files;obtain⟨pb,cb,hvb,hbc⟩:=h.reps;subst hvf hvb;clear hfc hbc;obtain⟨RES,hRES⟩:∃RES,Qdr ⟨mFs ps,mBs bs⟩ nm.data.toList s.data.toList=RES:=⟨_,rfl⟩;have HRES:=Qa hRES;rw[hRES];have hpl:(ps.length:Int)≤1000:=by omega
 have hbl0:(bs.length:Int)≤1000:=by omega
 have HBN:=Qa hbn;have HPN:=Qa hpn;clear h hok hRES hbn hpn;by_cases hname:Qj nm.data.toList=true
 rotate_left
 ·have hname':Qj nm.data.toList=false:=by cases h:Qj nm.data.toList<;>simp_all
  have HE:Hid (RES=(0,4,⟨mFs ps,mBs bs⟩)):=by show _=_;rw[←HRES.out];exact Qaz (by rw[Uo (by rw[q9 hname'];simp),q9 hname']) (by decide)
  have HRO:=Qa (Qh3 nm s (by unfold maxLen;omega) hname' w);clear hname hname';go_enter Tryz.func68,Tryz.ntmps68;go_wp2_with fail;refine HRO.out.mono ?_;rintro e w1 ⟨rfl,hb1⟩;have hal:=(Below.refl _ w1).alloc wz (.cells #[.string ⟨#[]⟩,.int .i64 0,.int .u32 0,.slice none 0 0] 40);have HB:=Qa (hb1.trans (hal.mono hb1.size));clear hb1 hal HRO;go_wp2_with fail;go_ret2;exact Yy.same HH.out HE.out HB.out
 by_cases hlong:4000<s.size
 ·have hl':4000<s.data.toList.length:=by rw[Array.length_toList];exact hlong
  have HE:Hid (RES=(0,2,⟨mFs ps,mBs bs⟩)):=by show _=_;rw[←HRES.out];exact Qaz (by rw[Uo (by rw[G8 hname hl'];simp),G8 hname hl']) (by decide)
  have HRO:=Qa (Qgl nm s (by unfold maxLen;omega) hname hlong w);clear hname hl' hlong;go_enter Tryz.func68,Tryz.ntmps68;go_wp2_with fail;refine HRO.out.mono ?_;rintro e w1 ⟨rfl,hb1⟩;have hal:=(Below.refl _ w1).alloc wz (.cells #[.string ⟨#[]⟩,.int .i64 0,.int .u32 0,.slice none 0 0] 40);have HB:=Qa (hb1.trans (hal.mono hb1.size));clear hb1 hal HRO;go_wp2_with fail;go_ret2;exact Yy.same HH.out HE.out HB.out
 have hl':¬4000<s.data.toList.length:=by rw[Array.length_toList];exact hlong
 have HOF:Hid ((ofR nm.data.toList s.data.toList).2=0):=by show _=_;rw[Qgr hname hl']
 have HRO:=Qa (Qha nm s (by unfold maxLen;omega) hname (by omega) w);have HSZ:Hid (s.data.toList.length=s.size):=by show _=_;rw[Array.length_toList];rfl
 have HPCS:Hid ((pieces s.data.toList).length≤250):=U9 _ (by omega);clear hname hl';obtain⟨idl,hidl⟩:∃idl,(idsOf s.data.toList).length=idl:=⟨_,rfl⟩;have HIDL:=Qa hidl;obtain⟨PP,hPP⟩:∃PP,pmore 2166136261 s.data.toList=PP:=⟨_,rfl⟩;have HPP:=Qa hPP;rw[hPP]at HRO;clear hidl hPP;go_enter Tryz.func68,Tryz.ntmps68;go_wp2_with fail;refine HRO.out.mono ?_;rintro e w1 ⟨v1,rfl,hi1,hb1⟩;obtain⟨pv,cv,hv1,_⟩:=id hi1;rw[HIDL.out]at hv1;subst hv1;have HI1:=Qa hi1;have HB1:=Qa hb1;have hal:=(Below.refl _ w1).alloc wz (.cells #[.string nm,.int .i64 (s.size:Int),.int .u32 (PP:Nat),.slice pv idl cv] 40);have HB2:=Qa (hb1.trans (hal.mono hb1.size));have HR8:=Qa (Blk.new w1 #[.string nm,.int .i64 (s.size:Int),.int .u32 (PP:Nat),.slice pv idl cv] 40);clear hi1 hb1 hal HRO;go_wp2_with fail;obtain⟨W2,hW2⟩:∃W2,w1.alloc (.cells #[.string nm,.int .i64 (s.size:Int),.int .u32 (PP:Nat),.slice pv idl cv] 40)=W2:=⟨_,rfl⟩;have HS12:Hid (w1.heap.size<W2.heap.size):=by show _<_;rw[←hW2];simp
 have HLI:Hid (Below w1.heap.size w1 W2):=by show Below _ _ _;rw[←hW2];exact(Below.refl _ _).alloc wz _
 obtain⟨R8,hR8⟩:∃R8,w1.heap.size=R8:=⟨_,rfl⟩;have HR8E:=Qa hR8;rw[hW2]at HB2 HR8 ⊢;rw[hR8]at HR8 ⊢;clear hW2 hR8;have HFN:=Qa (Qdz M (.slice pf ps.length cf) (.slice pb bs.length cb) ps bs nm W2 HPN.out (HH.out.below HB2.out));go_wp2_with fail;refine HFN.out.mono ?_;rintro e w3 ⟨rfl,hw3⟩;obtain rfl:=hw3.symm;clear HFN;cases hkf:kFind (mFs ps) nm.data.toList with
 | some k=>
  have hnf:∃t,nFile (mFs ps) nm.data.toList=some t:=by obtain⟨hk,_⟩:=Xd hkf;exact⟨_,by rw[Xx,hkf];simp[List.getElem?_eq_getElem hk];rfl⟩
  obtain⟨t,ht⟩:=hnf;have HE:Hid (RES=(0,6,⟨mFs ps,mBs bs⟩)):=by show _=_;rw[←HRES.out];exact Qaz (V6 HOF.out ht) (by decide)
  have HK:Hid (Zk (mFs ps) nm.data.toList=(k:Int)):=by show _=_;unfold Zk;rw[hkf]
  rw[HK.out];have hk0:(0:Int)≤(k:Int):=by omega
  clear hkf ht;go_wp2_with fail;go_ret2;exact Yy.same HH.out HE.out HB2.out
 | none=>
  have HNF:Hid (nFile (mFs ps) nm.data.toList=none):=by show _=_;rw[Xx,hkf];rfl
  have HK:Hid (Zk (mFs ps) nm.data.toList=-1):=by show _=_;unfold Zk;rw[hkf]
  rw[HK.out];clear hkf;have q0:=(HH.out.below HB2.out).blk.cell (i:=0) rfl;by_cases hfull:30≤ps.length
  ·have hfull':(30:Int)≤(ps.length:Int):=(by omega);have HE:Hid (RES=(0,7,⟨mFs ps,mBs bs⟩)):=(by show _=_;rw[←HRES.out];exact Qaz (G9 HOF.out HNF.out (by rw[Zg];exact hfull)) (by decide));clear hfull;go_wp2_with fail;go_ret2;exact Yy.same HH.out HE.out HB2.out
  have hfull':¬(30:Int)≤(ps.length:Int):=by omega
  have HFULL:Hid (¬30≤(mFs ps).length):=by show ¬_;rw[Zg];exact hfull
  have r0:=HR8.out.cell (i:=0) rfl;have r1:=HR8.out.cell (i:=1) rfl;have r2:=HR8.out.cell (i:=2) rfl;have r3:=HR8.out.cell (i:=3) rfl;have HIA:Hid (Q3 W2 (.slice pv idl cv) (idsOf s.data.toList)):=(HI1.out.below HLI.out).at;have HREP:=Qa (Vi nm (s.size:Int) (PP:Nat) (.slice pv idl cv) (idsOf s.data.toList) W2 HIA.out (by rw[HIDL.out];have h1:=Qy s.data.toList;have h2:=HIDL.out;unfold idsOf at h2;rw[List.length_map]at h2;unfold maxLen;have h3:=HSZ.out;omega));change Hid (Calls _ _ _ _ (fun e w'=>e=.returned (idV ((Qg s.data.toList).1:Nat) (Qg s.data.toList).2)∧_))at HREP;obtain⟨⟨rp,rl⟩,hrep⟩:∃r,Qg s.data.toList=r:=⟨_,rfl⟩;have HRT:=Qa hrep;rw[hrep]at HREP;simp only at HREP;clear hrep hfull;go_wp2_with fail;refine HREP.out.mono ?_;rintro e w4 ⟨rfl,hb4⟩;have hal:=(Below.refl _ w4).alloc wz (.cells #[.int .u32 (rp:Nat),.int .i64 rl] 25);have HB5:=Qa (HB2.out.trans ((hb4.mono HB2.out.size).trans (hal.mono (Nat.le_trans HB2.out.size hb4.size))));have HB25:=Qa (hb4.trans (hal.mono hb4.size));have HSZ24:Hid (w.heap.size≤w4.heap.size):=Nat.le_trans HB2.out.size hb4.size;have HR10:=Qa (Blk.new w4 #[.int .u32 (rp:Nat),.int .i64 rl] 25);clear hb4 hal HREP q0 r0 r1 r2 r3;go_wp2_with fail;obtain⟨W5,hW5⟩:∃W5,w4.alloc (.cells #[.int .u32 (rp:Nat),.int .i64 rl] 25)=W5:=⟨_,rfl⟩;obtain⟨R10,hR10⟩:∃R10,w4.heap.size=R10:=⟨_,rfl⟩;rw[hW5]at HB5 HB25 HR10 ⊢;rw[hR10]at HSZ24;have hs5:W5.heap.size=R10+1:=by rw[←hW5,←hR10];simp
  rw[hR10]at HR10 ⊢;have HR85:=Qa (HR8.out.next HB25.out);have HR10LT:Hid (R10<W5.heap.size):=HR10.out.lt;have HR10GE:Hid (w.heap.size≤R10):=HSZ24.out;clear hW5 hR10;have hal:=(Below.refl _ W5).alloc wz (.cells #[.slice none 0 0] 130);have HB6:=Qa (HB5.out.trans (hal.mono HB5.out.size));have HB56:=Qa hal;have HBX:=Qa (Blk.new W5 #[.slice none 0 0] 130);obtain⟨W6,hW6⟩:∃W6,W5.alloc (.cells #[.slice none 0 0] 130)=W6:=⟨_,rfl⟩;obtain⟨BX,hBXe⟩:∃BX,R10+1=BX:=⟨_,rfl⟩;have HBXE:Hid (W5.heap.size=BX):=by show _=_;rw[hs5,hBXe]
  rw[hW6]at HB6 HB56 HBX ⊢;rw[hBXe]at ⊢;rw[hs5,hBXe]at HBX;have HR86:=Qa (HR85.out.next HB56.out);have HR106:=Qa (HR10.out.next HB56.out);have hS6:=HH.out.below HB6.out;have q1:=hS6.blk.cell (i:=1) rfl;have s0:=HR106.out.cell (i:=0) rfl;have s1:=HR106.out.cell (i:=1) rfl;have HFB:=Qa (Vn M (.slice pf ps.length cf) (.slice pb bs.length cb) ps bs (rp,rl) W6 HBN.out hS6);clear hal hW6 hBXe hs5 hS6 HR85 HR10 HR8;go_wp2_with fail;refine HFB.out.mono ?_;rintro e w7 ⟨rfl,hb7⟩;have HB7:=Qa (HB6.out.trans (hb7.mono HB6.out.size));have HR87:=Qa (HR86.out.next hb7);have HR107:=Qa (HR106.out.next hb7);have HBX7:=Qa (HBX.out.next hb7);have HB57:=Qa (HB56.out.trans (hb7.mono HB56.out.size));have HS7:=Qa (HH.out.below HB7.out);clear hb7 HFB q1 s0 s1 HR86 HR106 HBX HB56 HB6;cases hkb:kFind (mBs bs) (rp,rl)
  case' some k=>
   obtain⟨hk,hkx⟩:=Xd hkb;have hk':k<bs.length:=(by rw[Qn]at hk;exact hk);have hnb:Zi (mBs bs) (rp,rl)=some bs[k].1.2:=(by rw[Vs,hkb];simp only[Option.bind_some];rw[List.getElem?_eq_getElem hk,Option.map_some,Xk]);have HNB:Hid ((Zi (mBs bs) (rp,rl)).getD []=bs[k].1.2):=(by show _=_;rw[hnb];rfl);have HBO:Hid (Qd U bs[k].1.2):=(by have:=HOK.out _ (List.getElem_mem hk);rw[Xk]at this;exact this);have HK:Hid (Zk (mBs bs) (rp,rl)=(k:Int)):=(by show _=_;unfold Zk;rw[hkb]);have HCP:=Qa (Qie bs[k].2.1 bs[k].2.2 bs[k].1.2 w7 (by have:=HBO.out.many;omega) (HS7.out.bins _ (List.getElem_mem hk')));obtain⟨_,_,hvb',hcell⟩:=HS7.out.reps;obtain⟨rfl,rfl⟩:pb=_∧cb=_:=(by simpa using hvb');obtain⟨b,o,hpb,hx1,hx2,hx3,a2⟩:=hcell k hk';clear hx1 hx2 hx3;have q1:=HS7.out.blk.cell (i:=1) rfl;rw[hpb]at q1;obtain⟨BK,hBK⟩:∃BK,bs[k].2.1=BK:=⟨_,rfl⟩;obtain⟨BL,hBL⟩:∃BL,bs[k].1.2=BL:=⟨_,rfl⟩;rw[hBK]at HCP a2;rw[hBL]at HNB HBO HCP;rw[HK.out];have hk0:(0:Int)≤(k:Int):=(by omega);have hk1:(k:Int)<(bs.length:Int):=(by omega);clear hkb hk hkx hk' hnb hvb' hcell hBK hBL hpb;go_wp2_with fail;refine HCP.out.mono ?_;rintro e w8 ⟨B0,v0,rfl,hr0,hn0,hb8⟩;have HB8:=Qa (HB7.out.trans (hb8.mono HB7.out.size));have HR88:=Qa (HR87.out.next hb8);have HR108:=Qa (HR107.out.next hb8);have HRB:=Qa hr0;have HNEW:Hid (∀j,Qt.Of B0 v0 j→W5.heap.size≤j):=fun j hj=>Nat.le_trans HB57.out.size (hn0 j hj);have HB58:=Qa (HB57.out.trans (hb8.mono HB57.out.size));clear hr0 hn0 hb8 q1 a2 HCP
  case' none=>
   obtain⟨BL,hBL⟩:∃BL,([]:List Hd)=BL:=⟨_,rfl⟩;have HNB:Hid ((Zi (mBs bs) (rp,rl)).getD []=BL):=(by show _=_;rw[←hBL,Vs,hkb];rfl);have HBO:Hid (Qd U []):=Qd.nil _;have HK:Hid (Zk (mBs bs) (rp,rl)=-1):=(by show _=_;unfold Zk;rw[hkb]);have HRB0:Hid (Qt w7 BX (.slice none 0 0) []):=⟨HBX7.out,World.ownsRow_nil _ _ _ _⟩;have HNEW0:Hid (∀j,Qt.Of BX (.slice none 0 0) j→W5.heap.size≤j):=fun j hj=>by
    rcases hj with rfl|hj
    ·exact Nat.le_of_eq HBXE.out
    ·cases hj
   rw[HK.out];clear hkb;obtain⟨B0,hB0⟩:∃B0,B0=BX:=⟨_,rfl⟩;subst hB0;obtain⟨v0,hv0⟩:∃v0,(Value.slice none 0 0)=v0:=⟨_,rfl⟩;obtain⟨w8,hw8⟩:∃w8,w8=w7:=⟨_,rfl⟩;subst hw8;have HRB:Hid (Qt w8 B0 v0 BL):=(by rw[←hv0,←hBL];exact HRB0.out);have HNEW:Hid (∀j,Qt.Of B0 v0 j→W5.heap.size≤j):=(by rw[←hv0];exact HNEW0.out);rw[hBL]at HBO;have HB8:=HB7;have HR88:=HR87;have HR108:=HR107;have HB58:=HB57;clear HRB0 HNEW0 hv0 hBL HBX7
  all_goals
   have HNP:Hid (∀PA,Za BL 0 (pieces s.data.toList)=PA→(PA.2.1≠0→RES=(0,PA.2.1,⟨mFs ps,mBs bs⟩))∧(PA.2.1=0→RES=(PA.1,0,⟨Ux ltN (mFs ps) (nm.data.toList,s.data.toList),Qdo (mBs bs) (rp,rl) PA.2.2⟩))):=fun PA hPA=>by
    obtain⟨fr,ec,bl⟩:=PA;refine⟨fun hne => ?_,fun he => ?_⟩
    ·rw[←HRES.out];exact Qaz (Qar HOF.out HNF.out HFULL.out HRT.out HNB.out hPA hne) hne
    ·simp only at he;subst he;rw[←HRES.out];exact Qux HOF.out HNF.out HFULL.out HRT.out HNB.out hPA
   have HRBL:Hid (∀j,Qt.Of B0 v0 j→j<w8.heap.size):=fun j hj=>HRB.out.lt hj;obtain⟨PA,hPA⟩:∃PA,Za BL 0 (pieces s.data.toList)=PA:=⟨_,rfl⟩;have HPA:=Qa hPA;have HFIN:=Qa (HNP.out PA hPA);have HPO:=Qa (Qcy s (by omega) w8);have HPL:Hid (∀t∈pieces s.data.toList,t.length≤64):=fun t ht=>(Kv ht).2;clear hPA HNP;go_wp2_with fail;refine HPO.out.mono ?_;rintro e w9 ⟨vp,rfl,hrow,hb9⟩;have HB9:=Qa (HB8.out.trans (hb9.mono HB8.out.size));have HR89:=Qa (HR88.out.next hb9);have HR109:=Qa (HR108.out.next hb9);have HRB9:=Qa (HRB.out.below hb9);have HS9:=Qa (HH.out.below HB9.out);have HB29:Hid (Below W2.heap.size W2 w9):=Qa (HB25.out.trans ((HB58.out.mono HB25.out.size).trans (hb9.mono (Nat.le_trans HB25.out.size HB58.out.size))));have HSZ58:Hid (W5.heap.size≤w8.heap.size):=HB58.out.size;have HSZ89:Hid (w8.heap.size≤w9.heap.size):=hb9.size;have HSZ05:Hid (w.heap.size≤W5.heap.size):=HB5.out.size;have HR8L:Hid (R8<W5.heap.size):=(by have h1:=HS12.out;have h2:=HB25.out.size;have h3:=HR8E.out;show _<_;omega);have HR10L:Hid (R10<W5.heap.size):=HR10LT.out;have HR10G:Hid (w.heap.size≤R10):=HR10GE.out;have HIA9:=Qa (HIA.out.below HB29.out);have HIDB:Hid (idsOf s.data.toList≠[]→∀k,(Value.slice pv idl cv).ownBlock=some k→w.heap.size≤k∧k<W5.heap.size):=fun hne k hk=>by obtain⟨p',c',hv',hc'⟩:=HI1.out;obtain⟨b',o',hp',hle,hlt',_⟩:=hc' 0 (List.length_pos_iff.2 hne);have e1:pv=p':=(by have:=hv';simp at this;exact this.1);subst e1 hp';have:b'=k:=(by simpa[Value.ownBlock]using hk);have h1:=HS12.out;have h2:=HB25.out.size;omega
   have HLOW:Hid (∀k,Vb M (.slice pf ps.length cf) (.slice pb bs.length cb) ps bs k→k<w.heap.size):=HH.out.lt;obtain⟨gp,cp,hvp⟩:=Jh hrow;subst hvp;have HCN:Hid (∀k (hk:k<(pieces s.data.toList).length),∃g,gp=some ⟨g,0,none⟩∧w8.heap.size≤g∧g<w9.heap.size∧w9.cell? ⟨g,k,none⟩=some (.string ⟨(pieces s.data.toList)[k].toArray⟩)):=fun k hk=>by
    rcases hrow.2 with⟨_,hz⟩|⟨g,cap,cur,hv,hg,hb,_⟩
    ·omega
    ·refine⟨g,by simpa using (by simpa using hv:gp=some ⟨g,0,none⟩∧cp=cap).1,hg,lt_of_block hb,?_⟩;have c1:=hrow.cells (g:=g) (by rw[hv];rfl) k (Vz (pieces s.data.toList)[k]) (by simp[hk]);simp only[add_plain]at c1;exact c1
   clear hrow hb9 HPO HB8 HRB HR88 HR108;obtain⟨LS,hLS⟩:∃LS,pieces s.data.toList=LS:=⟨_,rfl⟩;rw[hLS]at HPA HPL HCN HPCS ⊢;have hlsl:(LS.length:Int)≤250:=(by have:=HPCS.out;omega);clear hLS;go_wp2_with fail
   go_loopw [13,15] (fun fv iv wr=>∃(k:Nat) (fr:Int) (bl:List Hd) (v:Value),k≤LS.length∧iv=.int .i64 k∧fv=.int .i64 fr∧(0≤fr∧fr≤100*k)∧Hid (Za bl fr (LS.drop k)=PA)∧Hid (Qd (U+k) bl)∧Hid (Qt wr B0 v bl)∧Hid (∀j,Qt.Of B0 v j→W5.heap.size≤j∧(j<w8.heap.size∨w9.heap.size≤j))∧Hid (Off (fun j=>W5.heap.size≤j∧(j<w8.heap.size∨w9.heap.size≤j)) w9 wr)) (fun _ iv _=>LS.length - (intOf iv).toNat)
   case atStart=>exact⟨0,0,BL,v0,Nat.zero_le _,rfl,rfl,⟨Int.le_refl _,by decide⟩,by rw[List.drop_zero];exact HPA.out,by show Qd _ _;rw[show U+((0:Nat):Int)=U by omega];exact HBO.out,HRB9.out,fun j hj=>⟨HNEW.out j hj,.inl (HRBL.out j hj)⟩,Off.refl _ _⟩
   case round=>
    obtain⟨k,fr,bl,v,hk,rfl,rfl,⟨hf0,hf1⟩,HR,HOKB,HRBK,HNB2,HO⟩:=hrel;by_cases hlt:k<LS.length
    ·have hlt':(k:Int)<(LS.length:Int):=(by omega);have hk0:(0:Int)≤(k:Int):=(by omega);obtain⟨g,rfl,hg8,hg9,c0⟩:=HCN.out k hlt;have d0:=(World.cell?_of_block (w:=w9) (HO.out.block g hg9 (fun e=>by omega)) (a:=⟨g,k,none⟩)).trans c0;have HT:=Qa (HPL.out LS[k] (List.getElem_mem hlt));have hdr:LS.drop k=LS[k]::LS.drop (k+1):=List.drop_eq_getElem_cons hlt;rw[hdr]at HR;obtain⟨t,ht⟩:∃t,LS[k]=t:=⟨_,rfl⟩;rw[ht]at d0 HT HR;have htl:(⟨t.toArray⟩:ByteArray).size=t.length:=(by simp[ByteArray.size]);have HPUT:=Qa (Qta B0 v bl ⟨t.toArray⟩ wr HOKB.out.many (fun h hm=>by obtain⟨_,_,h3,h4⟩:=HOKB.out.each h hm;exact⟨h3,by have:=HPCS.out;omega⟩) HRBK.out);have HOK2:Hid (Qd (U+((k+1:Nat):Int)) (Zu bl t).2):=(by show Qd _ _;rw[show U+((k+1:Nat):Int)=U+k+1 by omega];exact Qcn HOKB.out t (by omega));have e8:(⟨t.toArray⟩:ByteArray).data.toList=t:=(by simp);rw[e8]at HPUT;unfold U5 at HPUT;have htx:=HT.out;clear hdr ht e8 c0;obtain⟨⟨⟨ri,ra,re⟩,rl2⟩,hq⟩:∃q,Zu bl t=q:=⟨_,rfl⟩;have HQ:=Qa hq;rw[Za,hq]at HR;rw[hq]at HPUT HOK2;simp only at HPUT HOK2 HR;clear hq;obtain⟨TT,hT⟩:∃TT:ByteArray,(⟨t.toArray⟩:ByteArray)=TT:=⟨_,rfl⟩;rw[hT]at htl d0 HPUT;clear hT;have htl':(TT.size:Int)=(t.length:Int):=(by omega);have hw1:IntKind.i64.wrap (fr+(t.length:Int))=fr+(t.length:Int):=(by rw[IntKind.wrap_i64];omega);go_wp2_with fail;refine HPUT.out.mono ?_;rintro e w2 ⟨v2,rfl,hr2,hn2,ho2⟩;have HO2:Hid (Off (fun j=>W5.heap.size≤j∧(j<w8.heap.size∨w9.heap.size≤j)) w9 w2):=HO.out.trans ho2 (fun j hj hF=>HNB2.out j hF);have HN2:Hid (∀j,Qt.Of B0 v2 j→W5.heap.size≤j∧(j<w8.heap.size∨w9.heap.size≤j)):=fun j hj=>by
      rcases hj with rfl|hj
      ·exact HNB2.out _ (.inl rfl)
      ·rcases hn2 j hj with h|h
       ·exact HNB2.out j (.inr h)
       ·have h1:=HO.out.size;have h2:=HSZ58.out;have h3:=HSZ89.out;exact⟨by omega,.inr (by omega)⟩
     have hal:=(Below.refl _ w2).alloc wz (.cells #[.int .u32 (ri.1:Nat),.int .i64 ri.2] 25);have HP2:=Qa (hr2.below hal);have HO3:Hid (Off (fun j=>W5.heap.size≤j∧(j<w8.heap.size∨w9.heap.size≤j)) w9 _):=Qa (HO2.out.trans (Off.of_below (F:=fun _=>False) hal) (fun _ _ h=>h.elim));have d1:=(World.cell?_of_block (w:=wr) (ho2.block g (lt_of_cell d0) (fun e=>by have h0:=HNB2.out _ e;have h1:=HO.out.size;omega)) (a:=⟨g,k,none⟩)).trans d0;clear HPUT hr2 hn2 ho2 hal hg8 hg9;have d2:=(World.cell?_alloc_old w2 (.cells #[.int .u32 (ri.1:Nat),.int .i64 ri.2] 25) ⟨g,k,none⟩ (Nat.ne_of_lt (lt_of_cell d1))).trans d1;by_cases hre:re=0
     ·subst hre;rw[if_pos rfl]at HR;cases ra with
      | true=>
       simp only[if_true]at HR;go_wp2_with fail;go_roundw
       case rel=>exact⟨k+1,fr+(t.length:Int),rl2,v2,hlt,by go_num,rfl,⟨by omega,by omega⟩,HR.out,HOK2.out,HP2.out,HN2.out,HO3.out⟩
       case measure=>simp[intOf];omega
      | false=>
       simp only[Bool.false_eq_true,if_false]at HR;go_wp2_with fail;go_roundw
       case rel=>exact⟨k+1,fr,rl2,v2,hlt,by go_num,rfl,⟨by omega,by omega⟩,HR.out,HOK2.out,HP2.out,HN2.out,HO3.out⟩
       case measure=>simp[intOf];omega
     ·rw[if_neg hre]at HR;have HEE:Hid (RES=(0,re,⟨mFs ps,mBs bs⟩)):=by have h1:=HFIN.out.1;rw[←HR.out]at h1;exact h1 hre
      have hpos:(0:Int)<re:=Qjq HQ.out hre;go_wp2_with fail;go_ret2;have hoff:Off (Vb M (.slice pf ps.length cf) (.slice pb bs.length cb) ps bs) w (w2.alloc (.cells #[.int .u32 (ri.1:Nat),.int .i64 ri.2] 25)):=(Off.of_below HB9.out).trans HO3.out (fun i hi h=>by have:=HSZ05.out;omega);have hms:=HS9.out.off HO3.out (fun j hj h=>by have h1:=HLOW.out j hj;have h2:=HSZ05.out;omega);rw[HEE.out];exact⟨rfl,_,⟨M,_,_,ps,bs,rfl,hms,rfl,rfl⟩,fun j hj=>.inl hj,hoff⟩
    ·have hge:(LS.length:Int)≤(k:Int):=(by omega);rw[List.drop_eq_nil_of_le (by omega),Za]at HR;have HEE:Hid (RES=(fr,0,⟨Ux ltN (mFs ps) (nm.data.toList,s.data.toList),Qdo (mBs bs) (rp,rl) bl⟩)):=(by have h1:=HFIN.out.2;rw[←HR.out]at h1;exact h1 rfl);have HSR:=Qa (HS9.out.off HO.out (fun j hj h=>by have h1:=HLOW.out j hj;have h2:=HSZ05.out;omega));have HR8R:=Qa (HO.out.blk HR89.out (fun h=>by have:=HR8L.out;omega));have HR10R:=Qa (HO.out.blk HR109.out (fun h=>by have:=HR10L.out;omega));have HIAR:=Qa (HIA9.out.off HO.out (fun hne j hj h=>by have:=HIDB.out hne j hj;omega));have HOW:Hid (Off (Vb M (.slice pf ps.length cf) (.slice pb bs.length cb) ps bs) w wr):=(Off.of_below HB9.out).trans HO.out (fun i hi h=>by have:=HSZ05.out;omega);have HSZR:Hid (w.heap.size≤wr.heap.size):=HOW.out.size;have HADD:=Qa (Qsl M (.slice pf ps.length cf) (.slice pb bs.length cb) ps bs nm s.data.toList (.slice pv idl cv) wr HPN.out HSR.out HIAR.out (fun hne j hj=>by have h1:=HIDB.out hne j hj;exact⟨fun e=>by have:=HLOW.out M (.inl rfl);omega,fun e=>by have:=HLOW.out j (.inr (.inr (.inl e)));omega,fun e=>by have:=HLOW.out j (.inr (.inr (.inr (.inl e))));omega⟩));rw[HPP.out,HSZ.out]at HADD;have r0:=HR8R.out.cell (i:=0) rfl;have r1:=HR8R.out.cell (i:=1) rfl;have r2:=HR8R.out.cell (i:=2) rfl;have r3:=HR8R.out.cell (i:=3) rfl;clear hlt;go_wp2_with fail;refine HADD.out.mono ?_;rintro e w10 ⟨rfl,vf',ps',hfs,hS10,hvf',hmo,ho10⟩;have HFS:=Qa hfs;have HS10:=Qa hS10;have HVF:=Qa hvf';have HMO:=Qa hmo;have HO10:=Qa ho10;have HR10A:=Qa (ho10.blk HR10R.out (fun h=>by have h1:=HLOW.out M (.inl rfl);have h2:=HR10G.out;omega));have HRB10:=Qa (HRBK.out.off ho10 (fun j hj h=>by have h1:=HLOW.out M (.inl rfl);have h2:=HNB2.out j hj;have h3:=HSZ05.out;omega));have HIDS2:Hid (∀j,Qhd ps' j→Qhd ps j∨(w.heap.size≤j∧j<W5.heap.size)):=fun j ⟨q,hq,hne,hj⟩=>by
      rcases HMO.out q hq with hq|rfl
      ·exact .inl ⟨q,hq,hne,hj⟩
      ·exact .inr (HIDB.out hne j hj)
     have HSET:=Qa (Qso M vf' (.slice pb bs.length cb) ps' bs (rp,rl) bl B0 v w10 HBN.out HS10.out HRB10.out (fun j hj=>by
      have h1:=HNB2.out j hj;have h2:=HSZ05.out;have h3:=HRBK.out.lt hj;refine⟨fun e=>by have:=HLOW.out M (.inl rfl);omega,fun e=>by have:=HVF.out j e;omega,fun e=>by have:=HLOW.out j (.inr (.inr (.inl e)));omega,fun e=>by have:=HLOW.out j (.inr (.inr (.inr (.inl e))));omega,fun e => ?_⟩;rcases HIDS2.out j e with e|e
      ·have:=HLOW.out j (.inr (.inr (.inr (.inr e))));omega
      ·omega))
     simp only at HSET;have s0:=HR10A.out.cell (i:=0) rfl;have s1:=HR10A.out.cell (i:=1) rfl;clear hfs hS10 hvf' hmo ho10 r0 r1 r2 r3 HADD;go_wp2_with fail;refine HSET.out.mono ?_;rintro e w11 ⟨rfl,vb',bs',hbs,hS11,hvb11,hmb11,ho11⟩;have HBS:=Qa hbs;have HS11:=Qa hS11;have HVB:=Qa hvb11;have HMB:=Qa hmb11;have HO11:=Qa ho11;clear hbs hS11 hvb11 hmb11 ho11 s0 s1 HSET;go_wp2_with fail;go_ret2;rw[HEE.out];refine⟨rfl,_,⟨M,vf',vb',ps',bs',rfl,HS11.out,by rw[HFS.out,HBS.out],rfl⟩,fun j hj => ?_,?_⟩
     ·have hsz:=HSZR.out;have hsz2:=HO10.out.size;rcases hj with rfl|hj|hj|hj|hj
      ·exact .inl (.inl rfl)
      ·exact .inr (Nat.le_trans hsz (HVF.out j hj))
      ·rcases HVB.out j hj with h|h
       ·exact .inl (.inr (.inr (.inl h)))
       ·exact .inr (by omega)
      ·rcases HMB.out j hj with h|h
       ·exact .inl (.inr (.inr (.inr (.inl h))))
       ·have:=HNB2.out j h;have:=HSZ05.out;exact .inr (by omega)
      ·rcases HIDS2.out j hj with h|h
       ·exact .inl (.inr (.inr (.inr (.inr h))))
       ·exact .inr h.1
     ·refine(HOW.out.trans HO10.out (fun i _ hi=>.inl hi)).trans HO11.out (fun i _ hi => ?_);rcases hi with hi|hi
      ·exact .inl hi
      ·exact .inr (.inr (.inl hi))
theorem Uz {κ β:Type}[DecidableEq κ]:∀{l:List (κ×β)} {x:κ} {k:Nat},l.Pairwise (fun a b=>a.1≠b.1)→kFind l x=some k→l.take k++l.drop (k+1)=l.filter (fun y => !decide (y.1=x))
 | [],_,_,_,h=>by cases h
 | y::r,x,k,hp,h=>by
  obtain⟨h1,h2⟩:=List.pairwise_cons.1 hp;rw[kFind]at h;split at h
  ·rename_i e
   cases h;subst e;rw[List.filter_cons,if_neg (by simp),Qae (fun z hz=>Ne.symm (h1 z hz))];rfl
  ·rename_i e
   cases hr:kFind r x with
   | none=>rw[hr]at h;cases h
   | some j=>
    rw[hr]at h;cases h;rw[List.filter_cons,if_pos (by simp[e]),←Uz h2 hr];rfl
theorem Qpa {κ β:Type}[DecidableEq κ]:∀{l:List (κ×β)} {x:κ} {k:Nat} (b:β→β) (d:β),l.Pairwise (fun a b=>a.1≠b.1)→kFind l x=some k→(∀h:k<l.length,l[k].2=d)→l.set k (x,b d)=l.map (fun y=>if y.1=x then (y.1,b y.2) else y)
 | [],_,_,_,_,_,h,_=>by cases h
 | y::r,x,k,b,d,hp,h,hd=>by
  obtain⟨h1,h2⟩:=List.pairwise_cons.1 hp;rw[kFind]at h;split at h
  ·rename_i e
   cases h;subst e;have:=hd (by simp);simp only[List.getElem_cons_zero]at this;rw[List.set_cons_zero,List.map_cons,if_pos rfl,this];congr 1;have hm:r.map (fun z=>if z.1=y.1 then (z.1,b z.2) else z)=r.map id:=List.map_congr_left fun z hz=>by rw[if_neg (Ne.symm (h1 z hz))];rfl
   rw[hm,List.map_id]
  ·rename_i e
   cases hr:kFind r x with
   | none=>rw[hr]at h;cases h
   | some j=>
    rw[hr]at h;cases h;rw[List.set_cons_succ,List.map_cons,if_neg e,Qpa b d h2 hr (fun h=>by have:=hd (by simpa using h);simpa using this)]
def mDelF (ps:List MF)(k:Nat):List MF:=ps.take k++ps.drop (k+1)
def qy (bs:List MB)(k:Nat):List MB:=bs.take k++bs.drop (k+1)
theorem mDelF_length {ps:List MF}{k:Nat}(h:k<ps.length):(mDelF ps k).length=k+(ps.length - (k+1)):=by
 unfold mDelF;simp;omega
theorem Qjg {bs:List MB}{k:Nat}(h:k<bs.length):(qy bs k).length=k+(bs.length - (k+1)):=by
 unfold qy;simp;omega
theorem Qa6 {ps:List MF}{k:Nat}{y:MF}(h:y∈mDelF ps k):y∈ps:=by
 unfold mDelF at h;rcases List.mem_append.1 h with h|h
 ·exact List.mem_of_mem_take h
 ·exact List.mem_of_mem_drop h
theorem Qpu (bs:List MB)(k:Nat):(qy bs k).Sublist bs:=by
 unfold qy;have h:(bs.take k++bs.drop k)=bs:=List.take_append_drop _ _
 conv=>rhs;rw[←h]
 refine List.Sublist.append (List.Sublist.refl _) ?_;have:bs.drop (k+1)=(bs.drop k).drop 1:=by rw[List.drop_drop]
 rw[this];exact List.drop_sublist _ _
theorem Qtq (ps:List MF)(k:Nat):mFs (mDelF ps k)=(mFs ps).take k++(mFs ps).drop (k+1):=by simp[mDelF,mFs,List.map_take,List.map_drop]
theorem Qr4 (bs:List MB)(k:Nat):mBs (qy bs k)=(mBs bs).take k++(mBs bs).drop (k+1):=by simp[qy,mBs,List.map_take,List.map_drop]
theorem Qmt {w:World}{base:Nat}{e:TypeId}{sz:Nat}{v:Value}{n:Nat}{xs:List Value}(h:w.ownsRow base e sz v n xs){g:Nat}(hg:v.ownBlock=some g)(i:Nat):w.frozen? ⟨g,i,none⟩=false:=by
 rcases h.2 with⟨rfl,_⟩|⟨g2,cap,cur,rfl,_,hb,_⟩
 ·cases hg
 ·have:g2=g:=by simpa[Value.ownBlock]using hg
  subst this;simp only[World.frozen?,hb];simp
theorem Qqt (fs:List Qz)(x:Nat×Int):fs.any (fun f=>decide (Qg f.2=x))=decide ((Vx fs x).length≠0):=by
 unfold Vx;rw[Bool.eq_iff_iff];simp[List.length_eq_zero_iff,List.filter_eq_nil_iff]
def Uf (w:World)(M:Nat)(G:Nat→Prop)(r:Int×NSt)(e:Ending)(w':World):Prop:=
 e=.returned (.int .i64 r.1)∧∃G',Ya w' ⟨M,0,none⟩ G' r.2∧(∀k,G' k→G k∨w.heap.size≤k)∧Off G w w'
theorem Qhl (M:Nat)(vf vb:Value)(ps:List MF)(bs:List MB)(nm:ByteArray)(w:World)(hbn:bs.length≤1000)(hpn:ps.length≤1000)(hI:Xh ⟨mFs ps,mBs bs⟩)(hok:∀b∈mBs bs,Qd 1000000 b.2)(hfl:∀f∈mFs ps,f.2.length≤4000)(h:MSt w M vf vb ps bs) :
 Calls Tryz.prog 69 #[.pointer (some ⟨M,0,none⟩),.string nm] w (Uf w M (Vb M vf vb ps bs) (Z5 ⟨mFs ps,mBs bs⟩ nm.data.toList)):=by
 obtain⟨ti,hti,hz0,hz1,hz2⟩:=info_parts Qt5;obtain⟨tj,htj,hy0,hy1,hy2⟩:=info_parts Quf;have HH:=Qa h;have HOK:=Qa hok;have HFL:=Qa hfl;have HI:=Qa hI;obtain⟨pf,cf,hvf,hfc⟩:=h.files;obtain⟨pb,cb,hvb,hbc⟩:=h.reps;subst hvf hvb;clear hfc hbc;obtain⟨RES,hRES⟩:∃RES,Z5 ⟨mFs ps,mBs bs⟩ nm.data.toList=RES:=⟨_,rfl⟩;have HRES:=Qa hRES;rw[hRES];have hpl:(ps.length:Int)≤1000:=by omega
 have hbl0:(bs.length:Int)≤1000:=by omega
 have HBN:=Qa hbn;have HPN:=Qa hpn;have HFN:=Qa (Qdz M (.slice pf ps.length cf) (.slice pb bs.length cb) ps bs nm w hpn h);clear hok hfl hI hRES hbn hpn;go_enter Tryz.func69,Tryz.ntmps69;go_wp2_with fail;refine HFN.out.mono ?_;rintro e w1 ⟨rfl,hw1⟩;obtain rfl:=hw1.symm;clear HFN;cases hkf:kFind (mFs ps) nm.data.toList with
 | none=>
  have HE:Hid (RES=(5,⟨mFs ps,mBs bs⟩)):=by show _=_;rw[←HRES.out];unfold Z5;rw[show nFile (NSt.files ⟨mFs ps,mBs bs⟩) nm.data.toList=none from by rw[Xx,hkf];rfl]
  have HK:Hid (Zk (mFs ps) nm.data.toList=-1):=by show _=_;unfold Zk;rw[hkf]
  rw[HK.out];clear hkf h;go_wp2_with fail;go_ret;rw[HE.out];exact⟨rfl,_,⟨M,_,_,ps,bs,rfl,HH.out,rfl,rfl⟩,fun k hk=>.inl hk,Off.refl _ _⟩
 | some k=>
  have HKF:=Qa hkf;obtain⟨hkm,hkx⟩:=Xd hkf;have hk:k<ps.length:=by rw[Zg]at hkm;exact hkm
  rw[Vj]at hkx;have HK:Hid (Zk (mFs ps) nm.data.toList=(k:Int)):=by show _=_;unfold Zk;rw[hkf]
  have hkmem:ps[k]∈ps:=List.getElem_mem hk;have HNF:Hid (nFile (mFs ps) nm.data.toList=some ps[k].1.2):=by show _=_;rw[Xx,hkf];simp only[Option.bind_some];rw[List.getElem?_eq_getElem hkm,Option.map_some,Vj]
  have hs4:ps[k].1.2.length≤4000:=HFL.out _ (by unfold mFs;exact List.mem_map_of_mem hkmem);have HHAS:=Qa (HI.out.has ps[k].1 (by show _∈mFs ps;unfold mFs;exact List.mem_map_of_mem hkmem));have HID0:=Qa (h.ids _ hkmem);have HIDF:Hid (idsOf ps[k].1.2≠[]→∀j,ps[k].2.ownBlock=some j→j<w.heap.size):=fun hne j hj=>HH.out.lt j (.inr (.inr (.inr (.inr ⟨_,hkmem,hne,hj⟩))));obtain⟨_,_,hvf',hcell⟩:=h.files;obtain⟨rfl,rfl⟩:pf=_∧cf=_:=by simpa using hvf'
  obtain⟨b,o,hpfe,⟨hbl,hcl⟩,a0,a1,a2,a3⟩:=hcell k hk;have q0:=h.blk.cell (i:=0) rfl;obtain⟨⟨⟨f1,s⟩,fv⟩,hq⟩:∃q,ps[k]=q:=⟨_,rfl⟩;rw[hq]at hkx HNF hs4 HHAS HID0 HIDF a0 a1 a2 a3;simp only at hkx HNF hs4 HHAS HID0 HIDF a0 a1 a2 a3;subst hkx;rw[Qa7]at a0;obtain⟨pv,cv,hfv,_⟩:=id HID0.out;obtain⟨idl,hidl⟩:∃idl,(idsOf s).length=idl:=⟨_,rfl⟩;have HIDL:=Qa hidl;rw[hidl]at hfv;subst hfv;obtain⟨PP,hPP⟩:∃PP,pmore 2166136261 s=PP:=⟨_,rfl⟩;obtain⟨LL,hLL⟩:∃LL,(s.length:Int)=LL:=⟨_,rfl⟩;rw[hPP]at a2;rw[hLL]at a1;have HIL:Hid (idl≤4000):=by have h1:=Qy s;unfold idsOf at hidl;rw[List.length_map]at hidl;show _≤_;omega
  subst hpfe;rw[HK.out];have hk0:(0:Int)≤(k:Int):=by omega
  have hk1:(k:Int)<(ps.length:Int):=by omega
  have hal:=(Below.refl _ w).alloc wz (.cells #[.string nm,.int .i64 LL,.int .u32 (PP:Nat),.slice pv idl cv] 40);have HB2:=Qa hal;have HR6:=Qa (Blk.new w #[.string nm,.int .i64 LL,.int .u32 (PP:Nat),.slice pv idl cv] 40);obtain⟨W2,hW2⟩:∃W2,w.alloc (.cells #[.string nm,.int .i64 LL,.int .u32 (PP:Nat),.slice pv idl cv] 40)=W2:=⟨_,rfl⟩;have HW2:=Qa hW2;rw[hW2]at HB2 HR6;have HREP:=Qa (Vi nm LL (PP:Nat) (.slice pv idl cv) (idsOf s) W2 (HID0.out.below HB2.out) (by rw[hidl];have:=HIL.out;unfold maxLen;omega));change Hid (Calls _ _ _ _ (fun e w'=>e=.returned (idV ((Qg s).1:Nat) (Qg s).2)∧_))at HREP;obtain⟨⟨rp,rl⟩,hrep⟩:∃r,Qg s=r:=⟨_,rfl⟩;have HRT:=Qa hrep;rw[hrep]at HREP HHAS;simp only at HREP;have r0:=HR6.out.cell (i:=0) rfl;have r1:=HR6.out.cell (i:=1) rfl;have r2:=HR6.out.cell (i:=2) rfl;have r3:=HR6.out.cell (i:=3) rfl;rw[←hW2]at r0 r1 r2 r3;clear hkf hkm hkmem hcell hvf' hq hPP hLL hidl hrep hal hW2 hs4;go_wp2_with fail;rw[HW2.out];obtain⟨R6,hR6⟩:∃R6,w.heap.size=R6:=⟨_,rfl⟩;have HR6E:=Qa hR6;rw[hR6]at HR6 ⊢;refine HREP.out.mono ?_;rintro e w4 ⟨rfl,hb4⟩;have hal:=(Below.refl _ w4).alloc wz (.cells #[.int .u32 (rp:Nat),.int .i64 rl] 25);have HB25:=Qa (hb4.trans (hal.mono hb4.size));have HB5:=Qa (HB2.out.trans (HB25.out.mono HB2.out.size));have HR7:=Qa (Blk.new w4 #[.int .u32 (rp:Nat),.int .i64 rl] 25);obtain⟨W5,hW5⟩:∃W5,w4.alloc (.cells #[.int .u32 (rp:Nat),.int .i64 rl] 25)=W5:=⟨_,rfl⟩;have HW5:=Qa hW5;have HSZ24:Hid (w.heap.size≤w4.heap.size):=Nat.le_trans HB2.out.size hb4.size;rw[hW5]at HB25 HB5 HR7;have HR65:=Qa (HR6.out.next HB25.out);have s0:=HR7.out.cell (i:=0) rfl;have s1:=HR7.out.cell (i:=1) rfl;rw[←hW5]at s0 s1;have HFB:=Qa (Vn M (.slice (some ⟨b,o,none⟩) ps.length cf) (.slice pb bs.length cb) ps bs (rp,rl) W5 HBN.out (HH.out.below HB5.out));clear hb4 hal hW5 HREP q0 r0 r1 r2 r3 a0 a1 a2 a3 hR6 HR6;go_wp2_with fail;rw[HW5.out];obtain⟨R7,hR7⟩:∃R7,w4.heap.size=R7:=⟨_,rfl⟩;rw[hR7]at HR7 HSZ24 ⊢;refine HFB.out.mono ?_;rintro e w7 ⟨rfl,hb7⟩;have HB57:=Qa hb7;have HB7:=Qa (HB5.out.trans (hb7.mono HB5.out.size));have HR67:=Qa (HR65.out.next hb7);have HR77:=Qa (HR7.out.next hb7);have HS7:=Qa (HH.out.below HB7.out);have HR6L:Hid (R6<w7.heap.size):=HR67.out.lt;have HR7L:Hid (R7<w7.heap.size):=HR77.out.lt;clear hb7 HFB s0 s1 HR65 HR7 hR7;cases hkb:kFind (mBs bs) (rp,rl)with
  | none=>
   exfalso;obtain⟨bl,hbl'⟩:=HHAS.out;exact Qdu hkb _ hbl' rfl
  | some kb=>
   have HKB:=Qa hkb;obtain⟨hkbm,hkbx⟩:=Xd hkb;have hkbl:kb<bs.length:=(by rw[Qn]at hkbm;exact hkbm);rw[Xk]at hkbx;have HKBX:Hid ((bs[kb]'hkbl).1.1=(rp,rl)):=hkbx;have HBO:Hid (Qd 1000000 (bs[kb]'hkbl).1.2):=(by have:=HOK.out _ (List.getElem_mem hkbm);rw[Xk]at this;exact this);have HKI:Hid (Zk (mBs bs) (rp,rl)=(kb:Int)):=(by show _=_;unfold Zk;rw[hkb]);have HCP:=Qa (Qie bs[kb].2.1 bs[kb].2.2 bs[kb].1.2 w7 (by have:=HBO.out.many;omega) (HS7.out.bins _ (List.getElem_mem hkbl)));obtain⟨_,_,hvb',hcell⟩:=HS7.out.reps;obtain⟨rfl,rfl⟩:pb=_∧cb=_:=(by simpa using hvb');obtain⟨b2,o2,hpbe,hx1,hx2,hx3,a2⟩:=hcell kb hkbl;subst hpbe;have q1:=HS7.out.blk.cell (i:=1) rfl;obtain⟨BK,hBK⟩:∃BK,(bs[kb]'hkbl).2.1=BK:=⟨_,rfl⟩;obtain⟨BL,hBL⟩:∃BL,(bs[kb]'hkbl).1.2=BL:=⟨_,rfl⟩;have HBL:=Qa hBL;rw[hBK]at HCP a2;rw[hBL]at HBO HCP;rw[HKI.out];have hkb0:(0:Int)≤(kb:Int):=(by omega);have hkb1:(kb:Int)<(bs.length:Int):=(by omega);clear hkb hkbm hkbx hvb' hcell hBK hBL hx1 hx2 hx3;go_wp2_with fail;refine HCP.out.mono ?_;rintro e w8 ⟨B0,v0,rfl,hr0,hn0,hb8⟩;have HB8:=Qa (HB7.out.trans (hb8.mono HB7.out.size));have HB28:=Qa (HB25.out.trans ((HB57.out.mono HB25.out.size).trans (hb8.mono (Nat.le_trans HB25.out.size HB57.out.size))));have HR68:=Qa (HR67.out.next hb8);have HR78:=Qa (HR77.out.next hb8);have HRB:=Qa hr0;have HNEW:Hid (∀j,Qt.Of B0 v0 j→w7.heap.size≤j):=hn0;have HS8:=Qa (HH.out.below HB8.out);have HSZ07:Hid (w.heap.size≤w7.heap.size):=HB7.out.size;have HID8:=Qa ((HID0.out.below HB2.out).below HB28.out);have HLOW:=Qa HH.out.lt;have HDR:Hid (∀ids':List (Nat×Int),ids'=idsOf s→Zl BL ids'=Zl BL (idsOf s)):=fun ids' e=>by rw[e]
   clear hr0 hn0 hb8 q1 a2 HCP;obtain⟨IDS,hIDS⟩:∃IDS,idsOf s=IDS:=⟨_,rfl⟩;have HIDS:=Qa hIDS;rw[hIDS]at HID8 HIDL HIDF;have hidl1:(idl:Int)≤4000:=(by have:=HIL.out;omega);clear hIDS;have r3:=HR68.out.cell (i:=3) rfl;go_wp2_with fail
   go_loopw [10] (fun iv wr=>∃(j:Nat) (bl:List Hd),j≤IDS.length∧iv=.int .i64 j∧Hid (Zl bl (IDS.drop j)=Zl BL IDS)∧Hid (Qd 1000000 bl)∧Hid (Qt wr B0 v0 bl)∧Hid (Off (Qt.Of B0 v0) w8 wr)) (fun iv _=>IDS.length - (intOf iv).toNat)
   case atStart=>exact⟨0,BL,Nat.zero_le _,rfl,by rw[List.drop_zero];trivial,HBO.out,HRB.out,Off.refl _ _⟩
   case round=>
    clear r3;obtain⟨j,bl,hj,rfl,HDA,HOKB,HRBK,HO⟩:=hrel;have HR6R:=Qa (HO.out.blk HR68.out (fun h=>by have h1:=HNEW.out _ h;have h2:=HR6L.out;omega));have r3:=HR6R.out.cell (i:=3) rfl;by_cases hlt:j<IDS.length
    ·have hlt':(j:Int)<(idl:Int):=(by have:=HIDL.out;omega);have hj0:(0:Int)≤(j:Int):=(by omega);have hidsr:=HID8.out.off HO.out (fun hne i hi h=>by have h1:=HNEW.out _ h;have h2:=HIDF.out hne i hi;have h3:=HSZ07.out;omega);obtain⟨pv',cv',hv',hc'⟩:=hidsr;obtain⟨rfl,hlen',rfl⟩:pv=pv'∧idl=IDS.length∧cv=cv':=(by simpa using hv');obtain⟨bi,oi,rfl,hbi,d0,d1⟩:=hc' j hlt;have hdr:IDS.drop j=IDS[j]::IDS.drop (j+1):=List.drop_eq_getElem_cons hlt;rw[hdr,Zl]at HDA;obtain⟨⟨xp,xl⟩,hx⟩:∃x,IDS[j]=x:=⟨_,rfl⟩;rw[hx]at d0 d1 HDA;simp only at d0 d1;have HDP:=Qa (Qro B0 v0 bl (xp,xl) wr (by have:=HOKB.out.many;unfold maxLen;omega) (fun h hm=>by obtain⟨_,_,h3,h4⟩:=HOKB.out.each h hm;exact⟨h3,by omega⟩) HRBK.out);have HOK2:=Qa (Qc4 HOKB.out (xp,xl));clear hv' hc' hdr hx hlen';go_wp2_with fail;refine HDP.out.mono ?_;rintro e w9 ⟨rfl,hr9,ho9⟩;have HO9:Hid (Off (Qt.Of B0 v0) w8 w9):=HO.out.trans ho9 (fun i _ h=>h);have HR9:=Qa hr9;clear hr9 ho9 HDP d0 d1;go_wp2_with fail;go_roundw
     case rel=>exact⟨j+1,_,hlt,by go_num,HDA.out,HOK2.out,HR9.out,HO9.out⟩
     case measure=>simp[intOf];omega
    ·have hge:(idl:Int)≤(j:Int):=(by have:=HIDL.out;omega);rw[List.drop_eq_nil_of_le (by omega),Zl]at HDA;have HOW:Hid (Off (Vb M (.slice (some ⟨b,o,none⟩) ps.length cf) (.slice (some ⟨b2,o2,none⟩) bs.length cb) ps bs) w wr):=(Off.of_below HB8.out).trans HO.out (fun i hi h=>by have h1:=HNEW.out i h;have h2:=HSZ07.out;omega);have HSR:=Qa (HS8.out.off HO.out (fun i hi h=>by have h1:=HLOW.out i hi;have h2:=HNEW.out i h;have h3:=HSZ07.out;omega));have HR7R:=Qa (HO.out.blk HR78.out (fun h=>by have h1:=HNEW.out _ h;have h2:=HR7L.out;omega));have HSZR:Hid (w.heap.size≤wr.heap.size):=HOW.out.size;have HSZ8R:Hid (w8.heap.size≤wr.heap.size):=HO.out.size;have HKL:Hid (k<ps.length):=hk;have HKBL:Hid (kb<bs.length):=hkbl;have HML:Hid (M<wr.heap.size):=HSR.out.blk.lt;have HFZ:Hid (wr.frozen? ⟨M,0,none⟩=false):=HSR.out.blk.frozen 0;have HQ0:Hid (wr.cell? ⟨M,0,none⟩=some (.slice (some ⟨b,o,none⟩) ps.length cf)):=HSR.out.blk.cell (i:=0) rfl;have q0:=HQ0.out;obtain⟨g,cap,hvg,hcap,hcap2⟩:=Xq HSR.out.frow (by omega:1≤ps.length);obtain⟨⟨hgb,ho0⟩,hcc⟩:(g=b∧0=o)∧cf=cap:=(by simpa[eq_comm]using hvg);subst hgb ho0 hcc;obtain⟨g2,cap3,hvg2,hcap4,hcap5⟩:=Xq HSR.out.brow (by omega:1≤bs.length);obtain⟨⟨hgb2,ho2⟩,hcc2⟩:(g2=b2∧0=o2)∧cb=cap3:=(by simpa[eq_comm]using hvg2);subst hgb2 ho2 hcc2;have hsp:wr.ownsRow 0 40 4 (.slice (some ⟨g,0,none⟩) ps.length cf) ps.length (mfCells (ps.take k)++mfCells (ps.drop k)):=(by rw[←mfCells_append,List.take_append_drop];exact HSR.out.frow);have hsp2:wr.ownsRow 0 40 4 (.slice (some ⟨g,0,none⟩) ps.length cf) ps.length (mfCells (ps.take (k+1))++mfCells (ps.drop (k+1))):=(by rw[←mfCells_append,List.take_append_drop];exact HSR.out.frow);obtain⟨P4,c4,hsl4,hP4⟩:=Qf1 g ps.length cf (k+1) hk hcap;rw[show(((k+1:Nat)):Int)=(k:Int)+1 by push_cast;rfl]at hsl4;have hsl5:=Qfu g ps.length cf k (Nat.le_of_lt hk) hcap;have hwk:IntKind.i64.wrap ((k:Int)+1)=(k:Int)+1:=(by rw[IntKind.wrap_i64];omega);have HLT:Hid ((mfCells (ps.take k)).length=k*4):=(by show _=_;rw[Jb,List.length_take,Nat.min_eq_left (Nat.le_of_lt hk)]);have HLT2:Hid ((mfCells (ps.take (k+1))).length=(k+1)*4):=(by show _=_;rw[Jb,List.length_take,Nat.min_eq_left hk]);have HLD:Hid ((mfCells (ps.drop (k+1))).length=(ps.length - (k+1))*4):=(by show _=_;rw[Jb,List.length_drop]);have HC1:Hid (∀W',Below wr.heap.size wr W'→∀j' u,(mfCells (ps.take k))[j']? = some u→W'.cell? ((⟨g,0,none⟩:Addr).add j')=some u):=fun W' hb=>Uc (Qi hsp hb) rfl;have HC2:Hid (∀W',Below wr.heap.size wr W'→∀j' u,(mfCells (ps.drop (k+1)))[j']? = some u→W'.cell? (P4.add j')=some u):=fun W' hb j' u hj'=>by have hjl:=(List.getElem?_eq_some_iff.1 hj').1;rw[HLD.out]at hjl;rw[hP4 (by omega)];have:=Ul (Qi hsp2 hb) rfl j' u hj';rw[HLT2.out]at this;exact this
     have HO1:Hid (∀u∈mfCells (ps.take k),u.oneCell'=true):=Yn fun y hy=>(HH.out.ids y (List.mem_of_mem_take hy)).one;have HO2:Hid (∀u∈mfCells (ps.drop (k+1)),u.oneCell'=true):=Yn fun y hy=>(HH.out.ids y (List.mem_of_mem_drop hy)).one;have HSETF:Hid (∀W v',Below wr.heap.size wr W→W.ownsRow wr.heap.size 40 4 v' (k+(ps.length - (k+1))) (mfCells (ps.take k)++mfCells (ps.drop (k+1)))→MSt (W.setCell ⟨M,0,none⟩ v') M v' (.slice (some ⟨g2,0,none⟩) bs.length cb) (mDelF ps k) bs∧Off (fun i=>i=M) wr (W.setCell ⟨M,0,none⟩ v')∧(∀i,v'.ownBlock=some i→wr.heap.size≤i)):=fun W v' hb hr=>by refine HSR.out.setF hb (by rw[mDelF_length hk];unfold mDelF;rw[mfCells_append];exact hr) (fun q hq=>HSR.out.ids q (Qa6 hq)) (fun i ⟨q,hq,hne,hi⟩ => ?_);obtain⟨h1,_,h3,h4⟩:=HSR.out.io i ⟨q,Qa6 hq,hne,hi⟩;exact⟨h1,h3,h4⟩
     have HBSEP:Hid (∀i,Qt.Of B0 v0 i→w8.heap.size>i∧w7.heap.size≤i):=fun i hi=>⟨HRB.out.lt hi,HNEW.out i hi⟩;have HSETA:Hid (∀W vf',MSt W M vf' (.slice (some ⟨g2,0,none⟩) bs.length cb) (mDelF ps k) bs→Off (fun i=>i=M) wr W→(∀i,vf'.ownBlock=some i→wr.heap.size≤i)→MSt (W.setCell ⟨g2,kb*3+2,none⟩ (.pointer (some ⟨B0,0,none⟩))) M vf' (.slice (some ⟨g2,0,none⟩) bs.length cb) (mDelF ps k) (bs.set kb (((bs[kb]'hkbl).1.1,bl),B0,v0))∧Off (fun i=>i=g2) W (W.setCell ⟨g2,kb*3+2,none⟩ (.pointer (some ⟨B0,0,none⟩)))):=fun W vf' hS hoff hnew=>by refine hS.setAt hkbl (HRBK.out.off hoff (fun i hi e=>by have h1:=HBSEP.out i hi;have h2:=HLOW.out M (.inl rfl);have h3:=HSZ07.out;omega)) (fun i hi => ?_);have h1:=HBSEP.out i hi;have h3:=HSZ07.out;have h4:=HSZ8R.out;refine⟨fun e=>by have:=HLOW.out M (.inl rfl);omega,fun e=>by have:=hnew i e;omega,fun e=>by have:=HLOW.out g2 (.inr (.inr (.inl rfl)));omega,fun e=>by have:=HLOW.out i (.inr (.inr (.inr (.inl e))));omega,fun ⟨q,hq,hne,hi2⟩ => ?_⟩;have:=HLOW.out i (.inr (.inr (.inr (.inr ⟨q,Qa6 hq,hne,hi2⟩))));omega
     have hg2:g2<w.heap.size:=HLOW.out g2 (.inr (.inr (.inl rfl)));have HG2:=Qa hg2;clear hvg hvg2 hsp hsp2 hP4 hcap hcap2 hcap4 hcap5 hlt h;go_wp2_with (first|(at_builtin;refine wpList_append_own _ rfl (.tmp 53) (.tmp 59) 31 rfl wr.heap.size 40 ti (rcpV ⟨#[]⟩ 0 0 (.slice none 0 0)) 4 56 Tryz.underlying31 hti hz0 hz1 hz2 rfl (by decide) (.slice none 0 0) 0 [] rfl (World.ownsRow_nil _ _ _ _) ⟨g,0,none⟩ k cf (mfCells (ps.take k)) rfl HLT.out (HC1.out wr (Below.refl _ _)) HO1.out (by have:=HPN.out;have:=HKL.out;unfold maxLen;omega) (by have:=HPN.out;have:=HKL.out;omega) wz ?_;intro v3 wA ho3 hg3 _;rw[Nat.zero_add,List.nil_append]at ho3;have hB3:Below wr.heap.size wr wA:=(Below.refl _ wr).grown hg3 wz (fun k hk=>by cases hk);have HO3:=Qa ho3;have HBA:=Qa hB3;clear hg3 ho3;have q3:=(hB3.cell (p:=⟨M,0,none⟩) HML.out).trans HQ0.out;clear hB3)|(at_builtin;refine wpList_append_own _ rfl (.tmp 62) (.tmp 69) 31 rfl wr.heap.size 40 ti (rcpV ⟨#[]⟩ 0 0 (.slice none 0 0)) 4 56 Tryz.underlying31 hti hz0 hz1 hz2 rfl (by decide) v3 k (mfCells (ps.take k)) rfl HO3.out P4 (ps.length - (k+1)) c4 (mfCells (ps.drop (k+1))) rfl HLD.out (HC2.out wA HBA.out) HO2.out (by have:=HPN.out;have:=HKL.out;unfold maxLen;omega) (by have:=HPN.out;have:=HKL.out;omega) HBA.out.size ?_;intro v4 wB ho4 hg4 _;have hB4:Below wr.heap.size wr wB:=HBA.out.grown hg4 HBA.out.size (fun k hk=>(HO3.out.lt k hk).1);have hSF:=HSETF.out wB v4 hB4 ho4;have hSA:=HSETA.out _ v4 hSF.1 hSF.2.1 hSF.2.2;have HSF:=Qa hSF;have HSA:=Qa hSA;have HBB:=Qa hB4;obtain⟨p4,c5,hu4⟩:=Jh ho4;subst hu4;have q4:=(hB4.cell (p:=⟨M,0,none⟩) HML.out).trans HQ0.out;have f4:=(hB4.frozen (p:=⟨M,0,none⟩) HML.out).trans HFZ.out;have q5:=hSF.1.blk.cell (i:=1) rfl;obtain⟨ov,hov⟩:∃ov,(wB.setCell ⟨M,0,none⟩ (.slice p4 (k+(ps.length - (k+1))) c5)).cell? ⟨g2,kb*3+2,none⟩=some ov:=⟨_,by have h1:=hSF.1.brow.cells (g:=g2) rfl (kb*3+2) _ (qc bs kb HKBL.out).2.2;simpa only[add_plain]using h1⟩;have f5:=Qmt hSF.1.brow (g:=g2) rfl (kb*3+2);have HR7B:=Qa (hSA.2.blk (hSF.2.1.blk HR7R.out (fun e=>by have h1:=HLOW.out M (.inl rfl);have h2:=HSZ24.out;omega)) (fun e=>by have h1:=HG2.out;have h2:=HSZ24.out;omega));have s0:=HR7B.out.cell (i:=0) rfl;have s1:=HR7B.out.cell (i:=1) rfl;clear hg4 ho4 hB4 hSF hSA));obtain⟨wC,hwC⟩:∃wC,(wB.setCell ⟨M,0,none⟩ (.slice p4 (k+(ps.length - (k+1))) c5)).setCell ⟨g2,kb*3+2,none⟩ (.pointer (some ⟨B0,0,none⟩))=wC:=⟨_,rfl⟩;rw[hwC]at HSA HR7B ⊢;have HSC:=Qa HSA.out.1;have HOC:Hid (Off (Vb M (.slice (some ⟨g,0,none⟩) ps.length cf) (.slice (some ⟨g2,0,none⟩) bs.length cb) ps bs) w wC):=(HOW.out.trans HSF.out.2.1 (fun i _ hi=>.inl hi)).trans HSA.out.2 (fun i _ hi=>.inr (.inr (.inl (by rw[hi];rfl))));have HVF:=Qa HSF.out.2.2;have hfs:mFs (mDelF ps k)=(mFs ps).filter (fun f => !decide (f.1=nm.data.toList)):=(by rw[Qtq];exact Uz HI.out.fap HKF.out);have hset0:mBs (bs.set kb (((bs[kb]'hkbl).1.1,bl),B0,v0))=(mBs bs).set kb ((rp,rl),bl):=(by unfold mBs;rw[List.map_set,HKBX.out]);have hbs:mBs (bs.set kb (((bs[kb]'hkbl).1.1,bl),B0,v0))=(mBs bs).map (fun y=>if y.1=(rp,rl) then (y.1,Zl y.2 (idsOf s)) else y):=(by rw[hset0,show bl=Zl BL (idsOf s) by rw[HIDS.out];exact HDA.out];refine Qpa (fun l=>Zl l (idsOf s)) BL HI.out.bap HKB.out (fun h => ?_);show(mBs bs)[kb].2=BL;rw[Xk];exact HBL.out)
     have hdel:mBs (qy (bs.set kb (((bs[kb]'hkbl).1.1,bl),B0,v0)) kb)=(mBs bs).filter (fun y => !decide (y.1=(rp,rl))):=(by rw[Qr4,hset0,List.take_set_of_le wz,List.drop_set_of_lt (by omega)];exact Uz HI.out.bap HKB.out);have HRES2:Hid (RES=if (Vx (mFs (mDelF ps k)) (rp,rl)).length=0 then (0,⟨mFs (mDelF ps k),mBs (qy (bs.set kb (((bs[kb]'hkbl).1.1,bl),B0,v0)) kb)⟩) else (0,⟨mFs (mDelF ps k),mBs (bs.set kb (((bs[kb]'hkbl).1.1,bl),B0,v0))⟩)):=by
      show _=_;rw[←HRES.out,hdel,hbs,hfs];unfold Z5;rw[show nFile (NSt.files ⟨mFs ps,mBs bs⟩) nm.data.toList=some s from HNF.out];simp only;rw[HRT.out,Qqt];by_cases hz:(Vx ((mFs ps).filter (fun f => !decide (f.1=nm.data.toList))) (rp,rl)).length=0
      ·rw[if_pos hz,if_neg (by rw[hz];decide)]
      ·rw[if_neg hz,if_pos (by simpa using hz)]
     have HOFR:=Qa (Qm3 M _ _ (mDelF ps k) (bs.set kb (((bs[kb]'hkbl).1.1,bl),B0,v0)) (rp,rl) wC (by rw[mDelF_length HKL.out];have:=HPN.out;have:=HKL.out;omega) (fun f hf=>HFL.out f (by rw[hfs]at hf;exact(List.mem_filter.1 hf).1)) HSC.out);simp only at HOFR;have HNB:Hid (∀i,Ja (bs.set kb (((bs[kb]'hkbl).1.1,bl),B0,v0)) i→Ja bs i∨w.heap.size≤i):=fun i ⟨y,hy,hi⟩=>by
      rcases List.mem_or_eq_of_mem_set hy with hy|rfl
      ·exact .inl ⟨y,hy,hi⟩
      ·exact .inr (Nat.le_trans HSZ07.out (HNEW.out i hi))
     have HNI:Hid (∀i,Qhd (mDelF ps k) i→Qhd ps i):=fun i ⟨q,hq,hne,hi⟩=>⟨q,Qa6 hq,hne,hi⟩;obtain⟨n,hn⟩:∃n,(Vx (mFs (mDelF ps k)) (rp,rl)).length=n:=⟨_,rfl⟩;rw[hn]at HOFR HRES2;clear hwC hfs hset0 hbs hdel hn;refine HOFR.out.mono ?_;rintro e wD ⟨qD,cD,rfl,hbD⟩;have HSD:=Qa (HSC.out.below hbD);have HOD:=Qa (HOC.out.trans (Off.of_below (F:=fun _=>False) hbD) (fun _ _ h=>h.elim));clear hbD HOFR q0 q3 q4 f4 q5 hov f5 s0 s1;by_cases hz:n=0
     ·have hz':(n:Int)=0:=(by omega);rw[if_pos hz]at HRES2;obtain⟨BS,hBS⟩:∃BS,bs.set kb (((bs[kb]'hkbl).1.1,bl),B0,v0)=BS:=⟨_,rfl⟩;have HLB:Hid (BS.length=bs.length):=(by show _=_;rw[←hBS,List.length_set]);rw[hBS]at HSD HNB HRES2;have q1:=HSD.out.blk.cell (i:=1) rfl;have HMD:Hid (M<wD.heap.size):=HSD.out.blk.lt;have HQ1:Hid (wD.cell? ⟨M,1,none⟩=some (.slice (some ⟨g2,0,none⟩) bs.length cb)):=q1;have HF1:Hid (wD.frozen? ⟨M,1,none⟩=false):=HSD.out.blk.frozen 1;have hcapb:bs.length≤cb:=(by obtain⟨g9,c9,hv9,h9,_⟩:=Xq HSD.out.brow (by rw[HLB.out];omega);obtain⟨_,_,rfl⟩:g2=g9∧bs.length=BS.length∧cb=c9:=(by simpa using hv9);rw[←HLB.out];exact h9);have hspa:wD.ownsRow 0 92 3 (.slice (some ⟨g2,0,none⟩) bs.length cb) BS.length (mbCells (BS.take kb)++mbCells (BS.drop kb)):=(by rw[←Z9,List.take_append_drop];exact HSD.out.brow);have hspb:wD.ownsRow 0 92 3 (.slice (some ⟨g2,0,none⟩) bs.length cb) BS.length (mbCells (BS.take (kb+1))++mbCells (BS.drop (kb+1))):=(by rw[←Z9,List.take_append_drop];exact HSD.out.brow);obtain⟨P6,c6,hsl6,hP6⟩:=Qft g2 bs.length cb (kb+1) HKBL.out hcapb;rw[show(((kb+1:Nat)):Int)=(kb:Int)+1 by push_cast;rfl]at hsl6;have hsl7:=Qg1 g2 bs.length cb kb (Nat.le_of_lt HKBL.out) hcapb;have hwkb:IntKind.i64.wrap ((kb:Int)+1)=(kb:Int)+1:=(by rw[IntKind.wrap_i64];omega);have HLA:Hid ((mbCells (BS.take kb)).length=kb*3):=(by show _=_;rw[Zw,List.length_take,Nat.min_eq_left (by have:=HLB.out;have:=HKBL.out;omega)]);have HLA2:Hid ((mbCells (BS.take (kb+1))).length=(kb+1)*3):=(by show _=_;rw[Zw,List.length_take,Nat.min_eq_left (by have:=HLB.out;have:=HKBL.out;omega)]);have HLZ:Hid ((mbCells (BS.drop (kb+1))).length=(bs.length - (kb+1))*3):=(by show _=_;rw[Zw,List.length_drop,HLB.out]);have HD1:Hid (∀W',Below wD.heap.size wD W'→∀j' u,(mbCells (BS.take kb))[j']? = some u→W'.cell? ((⟨g2,0,none⟩:Addr).add j')=some u):=fun W' hb=>Uc (Qi hspa hb) rfl;have HD2:Hid (∀W',Below wD.heap.size wD W'→∀j' u,(mbCells (BS.drop (kb+1)))[j']? = some u→W'.cell? (P6.add j')=some u):=fun W' hb j' u hj'=>by have hjl:=(List.getElem?_eq_some_iff.1 hj').1;rw[HLZ.out]at hjl;rw[hP6 (by omega)];have:=Ul (Qi hspb hb) rfl j' u hj';rw[HLA2.out]at this;exact this
      clear hspa hspb hP6 hcapb hBS;go_wp2_with (first|(at_builtin;refine wpList_append_own _ rfl (.tmp 86) (.tmp 92) 32 rfl wD.heap.size 92 tj (.agg #[.int .u32 0,.int .i64 0,.pointer none]) 3 24 Tryz.underlying32 htj hy0 hy1 hy2 rfl (by decide) (.slice none 0 0) 0 [] rfl (World.ownsRow_nil _ _ _ _) ⟨g2,0,none⟩ kb cb (mbCells (BS.take kb)) rfl HLA.out (HD1.out wD (Below.refl _ _)) (Yq _) (by have:=HBN.out;have:=HKBL.out;unfold maxLen;omega) (by have:=HBN.out;have:=HKBL.out;omega) wz ?_;intro v3 wE ho3 hg3 _;rw[Nat.zero_add,List.nil_append]at ho3;have hB3:Below wD.heap.size wD wE:=(Below.refl _ wD).grown hg3 wz (fun k hk=>by cases hk);have HO3:=Qa ho3;have HBE:=Qa hB3;clear hg3 ho3;have y3:=(hB3.cell (p:=⟨M,1,none⟩) HMD.out).trans HQ1.out;clear hB3)|(at_builtin;refine wpList_append_own _ rfl (.tmp 95) (.tmp 102) 32 rfl wD.heap.size 92 tj (.agg #[.int .u32 0,.int .i64 0,.pointer none]) 3 24 Tryz.underlying32 htj hy0 hy1 hy2 rfl (by decide) v3 kb (mbCells (BS.take kb)) rfl HO3.out P6 (bs.length - (kb+1)) c6 (mbCells (BS.drop (kb+1))) rfl HLZ.out (HD2.out wE HBE.out) (Yq _) (by have:=HBN.out;have:=HKBL.out;unfold maxLen;omega) (by have:=HBN.out;have:=HKBL.out;omega) HBE.out.size ?_;intro v4 wF ho4 hg4 _;have hB4:Below wD.heap.size wD wF:=HBE.out.grown hg4 HBE.out.size (fun k hk=>(HO3.out.lt k hk).1);have HO4:=Qa ho4;have HBF:=Qa hB4;obtain⟨p6,c7,hu4⟩:=Jh ho4;subst hu4;have y4:=(hB4.cell (p:=⟨M,1,none⟩) HMD.out).trans HQ1.out;have y5:=(hB4.frozen (p:=⟨M,1,none⟩) HMD.out).trans HF1.out;clear hg4 ho4 hB4));go_ret;have hsub:=Qpu BS kb;have hfin:=HSD.out.setB (vb':=.slice p6 (kb+(bs.length - (kb+1))) c7) (bs':=qy BS kb) HBF.out (by rw[Qjg (by rw[HLB.out];exact HKBL.out),HLB.out];unfold qy;rw[Z9];exact HO4.out) (fun q hq=>HSD.out.bins q (hsub.subset hq)) (HSD.out.bb.sublist hsub) (fun i ⟨q,hq,hi⟩=>by obtain⟨h1,h2,_⟩:=HSD.out.bm i ⟨q,hsub.subset hq,hi⟩;exact⟨h1,h2,fun e=>(HSD.out.io i e).2.2.2 ⟨q,hsub.subset hq,hi⟩⟩);rw[HRES2.out];refine⟨rfl,_,⟨M,_,_,mDelF ps k,qy BS kb,rfl,hfin.1,rfl,rfl⟩,fun i hi => ?_,HOD.out.trans hfin.2.1 (fun i _ hi=>.inl hi)⟩;have hsz:=HSZR.out;have hszD:=HOD.out.size;rcases hi with rfl|hi|hi|⟨q,hq,hi⟩|hi
      ·exact .inl (.inl rfl)
      ·exact .inr (Nat.le_trans hsz (HVF.out i hi))
      ·exact .inr (Nat.le_trans hszD (hfin.2.2 i hi))
      ·rcases HNB.out i ⟨q,hsub.subset hq,hi⟩with h|h
       ·exact .inl (.inr (.inr (.inr (.inl h))))
       ·exact .inr h
      ·exact .inl (.inr (.inr (.inr (.inr (HNI.out i hi)))))
     ·have hz':((n:Int)==0)=false:=(by rw[beq_eq_false_iff_ne];omega);rw[if_neg hz]at HRES2;go_wp2_with fail;go_ret;rw[HRES2.out];refine⟨rfl,_,⟨M,_,_,mDelF ps k,_,rfl,HSD.out,rfl,rfl⟩,fun i hi => ?_,HOD.out⟩;have hsz:=HSZR.out;rcases hi with rfl|hi|hi|hi|hi
      ·exact .inl (.inl rfl)
      ·exact .inr (Nat.le_trans hsz (HVF.out i hi))
      ·exact .inl (.inr (.inr (.inl hi)))
      ·rcases HNB.out i hi with h|h
       ·exact .inl (.inr (.inr (.inr (.inl h))))
       ·exact .inr h
      ·exact .inl (.inr (.inr (.inr (.inr (HNI.out i hi)))))
def Qbd (st:NSt)(nm:List UInt8):List UInt8×Int:=match nFile st.files nm with|none=>([],5)|some s=>(s,0)
theorem Quj {l:List Hd}{x:Nat×Int}{t:List UInt8}(h:Qal l x=(t,0)):∃(k:Nat) (hk:k<l.length),Yb l x=(k:Int)∧l[k].2.2=t:=by
 unfold Qal at h;cases hf:Z8 l x with
 | none=>rw[hf]at h;simp at h
 | some k=>
  obtain⟨hk,_⟩:=Jg hf;rw[hf]at h;simp only[List.getElem?_eq_getElem hk,Option.map_some,Option.getD_some]at h;exact⟨k,hk,by unfold Yb;rw[hf],(Prod.mk.inj h).1⟩
theorem Qe1 (s:List UInt8)(j:Nat):((pieces s).take j).flatten.length≤s.length:=by
 have h1:((pieces s).take j).flatten++((pieces s).drop j).flatten=s:=by rw[←List.flatten_append,List.take_append_drop,Y4]
 have:=congrArg List.length h1;rw[List.length_append]at this;omega
theorem Qi6 (M:Nat)(vf vb:Value)(ps:List MF)(bs:List MB)(nm:ByteArray)(U:Int)(n:Nat)(w:World)(hbn:bs.length≤1000)(hpn:ps.length≤1000)(hI:Xh ⟨mFs ps,mBs bs⟩)(hok:NOk U n ⟨mFs ps,mBs bs⟩)(h:MSt w M vf vb ps bs) :
 Calls Tryz.prog 71 #[.pointer (some ⟨M,0,none⟩),.string nm] w fun e w'=>e=.returned (.tuple #[.string ⟨(Qbd ⟨mFs ps,mBs bs⟩ nm.data.toList).1.toArray⟩,.int .i64 (Qbd ⟨mFs ps,mBs bs⟩ nm.data.toList).2])∧Below w.heap.size w w':=by
 have HH:=Qa h;obtain⟨pf,cf,hvf,hfc⟩:=h.files;obtain⟨pb,cb,hvb,hbc⟩:=h.reps;subst hvf hvb;clear hfc hbc;obtain⟨RES,hRES⟩:∃RES,Qbd ⟨mFs ps,mBs bs⟩ nm.data.toList=RES:=⟨_,rfl⟩;have HRES:=Qa hRES;rw[hRES];have hpl:(ps.length:Int)≤1000:=by omega
 have hbl0:(bs.length:Int)≤1000:=by omega
 have HFN:=Qa (Qdz M (.slice pf ps.length cf) (.slice pb bs.length cb) ps bs nm w hpn h);have HBN:=Qa hbn;clear hRES hbn hpn;go_enter Tryz.func71,Tryz.ntmps71;go_wp2_with fail;refine HFN.out.mono ?_;rintro e w1 ⟨rfl,hw1⟩;obtain rfl:=hw1.symm;clear HFN;cases hkf:kFind (mFs ps) nm.data.toList with
 | none=>
  have HE:Hid (RES=([],5)):=by show _=_;rw[←HRES.out];unfold Qbd;rw[show nFile (NSt.files ⟨mFs ps,mBs bs⟩) nm.data.toList=none from by rw[Xx,hkf];rfl]
  have HK:Hid (Zk (mFs ps) nm.data.toList=-1):=by show _=_;unfold Zk;rw[hkf]
  rw[HK.out];clear hkf h hI hok;go_wp2_with fail;go_ret2;rw[HE.out];exact⟨rfl,Below.refl _ _⟩
 | some k=>
  obtain⟨hkm,hkx⟩:=Xd hkf;have hk:k<ps.length:=by rw[Zg]at hkm;exact hkm
  rw[Vj]at hkx;have HK:Hid (Zk (mFs ps) nm.data.toList=(k:Int)):=by show _=_;unfold Zk;rw[hkf]
  have hkmem:ps[k]∈ps:=List.getElem_mem hk;have hnf:nFile (mFs ps) nm.data.toList=some ps[k].1.2:=by rw[Xx,hkf];simp only[Option.bind_some];rw[List.getElem?_eq_getElem hkm,Option.map_some,Vj]
  have hfm:(nm.data.toList,ps[k].1.2)∈mFs ps:=nFile_some hnf;obtain⟨_,bl,hnb,hgot⟩:=hI.got hok hfm;obtain⟨hs4,_⟩:=hok.files _ hfm;have hbo:=hok.bins _ (J3 hnb);simp only at hs4 hbo hgot;have HE:Hid (RES=(ps[k].1.2,0)):=by show _=_;rw[←HRES.out];unfold Qbd;rw[show nFile (NSt.files ⟨mFs ps,mBs bs⟩) nm.data.toList=_ from hnf]
  have HID0:=Qa (h.ids _ hkmem);obtain⟨_,_,hvf',hcell⟩:=h.files;obtain⟨rfl,rfl⟩:pf=_∧cf=_:=by simpa using hvf'
  obtain⟨b,o,hpfe,hx1,a0,a1,a2,a3⟩:=hcell k hk;have q0:=h.blk.cell (i:=0) rfl;obtain⟨⟨⟨f1,s⟩,fv⟩,hq⟩:∃q,ps[k]=q:=⟨_,rfl⟩;rw[hq]at hkx hs4 hgot hnb HE HID0 a0 a1 a2 a3;simp only at hkx hs4 hgot hnb HE HID0 a0 a1 a2 a3;subst hkx;rw[Qa7]at a0;obtain⟨pv,cv,hfv,hfvx⟩:=id HID0.out;obtain⟨idl,hidl⟩:∃idl,(idsOf s).length=idl:=⟨_,rfl⟩;have HIDL:=Qa hidl;rw[hidl]at hfv;subst hfv;obtain⟨PP,hPP⟩:∃PP,pmore 2166136261 s=PP:=⟨_,rfl⟩;obtain⟨LL,hLL⟩:∃LL,(s.length:Int)=LL:=⟨_,rfl⟩;rw[hPP]at a2;rw[hLL]at a1;have HIL:Hid (idl≤4000):=by have h1:=Qy s;unfold idsOf at hidl;rw[List.length_map]at hidl;show _≤_;omega
  subst hpfe;rw[HK.out];have hk0:(0:Int)≤(k:Int):=by omega
  have hk1:(k:Int)<(ps.length:Int):=by omega
  have hal:=(Below.refl _ w).alloc wz (.cells #[.string nm,.int .i64 LL,.int .u32 (PP:Nat),.slice pv idl cv] 40);have HB2:=Qa hal;have HR7:=Qa (Blk.new w #[.string nm,.int .i64 LL,.int .u32 (PP:Nat),.slice pv idl cv] 40);obtain⟨W2,hW2⟩:∃W2,w.alloc (.cells #[.string nm,.int .i64 LL,.int .u32 (PP:Nat),.slice pv idl cv] 40)=W2:=⟨_,rfl⟩;have HW2:=Qa hW2;rw[hW2]at HB2 HR7;cases hkb:kFind (mBs bs) (Qg s)with
  | none=>rw[Vs,hkb]at hnb;cases hnb
  | some kb=>
   obtain⟨hkbm,hkbx⟩:=Xd hkb;have hkbl:kb<bs.length:=(by rw[Qn]at hkbm;exact hkbm);have hbl:(bs[kb]'hkbl).1.2=bl:=(by rw[Vs,hkb]at hnb;simp only[Option.bind_some]at hnb;rw[List.getElem?_eq_getElem hkbm,Option.map_some,Xk]at hnb;exact Option.some.inj hnb);have HKI:Hid (Zk (mBs bs) (Qg s)=(kb:Int)):=(by show _=_;unfold Zk;rw[hkb]);have HBIN:=Qa (h.bins _ (List.getElem_mem hkbl));have HREP:Hid (∀W',Below W2.heap.size W2 W'→Calls Tryz.prog 128 #[rcpV nm LL (PP:Nat) (.slice pv idl cv)] W' fun e w'=>e=.returned (idV ((Qg s).1:Nat) (Qg s).2)∧Below W'.heap.size W' w'):=fun W' hb=>Vi nm LL (PP:Nat) (.slice pv idl cv) (idsOf s) W' ((HID0.out.below HB2.out).below hb) (by rw[hidl];have:=HIL.out;unfold maxLen;omega);have HFB:Hid (∀W',Below W2.heap.size W2 W'→Calls Tryz.prog 20 #[.pointer (some ⟨M,0,none⟩),idV ((Qg s).1:Nat) (Qg s).2] W' fun e w'=>e=.returned (.int .i64 (kb:Int))∧Below W'.heap.size W' w'):=fun W' hb=>by have:=Vn M (.slice (some ⟨b,o,none⟩) ps.length cf) (.slice pb bs.length cb) ps bs (Qg s) W' HBN.out ((HH.out.below HB2.out).below hb);rw[HKI.out]at this;exact this
   obtain⟨_,_,hvb',hcellb⟩:=h.reps;obtain⟨rfl,rfl⟩:pb=_∧cb=_:=(by simpa using hvb');obtain⟨b2,o2,hpbe,⟨hbb,hbb2⟩,hx3,hx4,e2⟩:=hcellb kb hkbl;subst hpbe;obtain⟨BK,hBK⟩:∃BK,(bs[kb]'hkbl).2.1=BK:=⟨_,rfl⟩;obtain⟨BV,hBV⟩:∃BV,(bs[kb]'hkbl).2.2=BV:=⟨_,rfl⟩;rw[hBK,hBV,hbl]at HBIN;rw[hBK]at e2;obtain⟨⟨rp,rl⟩,hrep⟩:∃r,Qg s=r:=⟨_,rfl⟩;rw[hrep]at HREP HFB;simp only at HREP HFB;have hkb0:(0:Int)≤(kb:Int):=(by omega);have hkb1:(kb:Int)<(bs.length:Int):=(by omega);have HCL:Hid (∀W',Below W2.heap.size W2 W'→W'.cell? ⟨M,1,none⟩=some (.slice (some ⟨b2,o2,none⟩) bs.length cb)∧W'.cell? ⟨w.heap.size,0,none⟩=some (.string nm)∧W'.cell? ⟨w.heap.size,1,none⟩=some (.int .i64 LL)∧W'.cell? ⟨w.heap.size,2,none⟩=some (.int .u32 (PP:Nat))∧W'.cell? ⟨w.heap.size,3,none⟩=some (.slice pv idl cv)∧W'.cell? ⟨b2,o2+kb*3+2,none⟩=some (.pointer (some ⟨BK,0,none⟩))):=fun W' hb=>by have h8:=HR7.out.next hb;exact⟨((HH.out.below HB2.out).below hb).blk.cell (i:=1) rfl,h8.cell (i:=0) rfl,h8.cell (i:=1) rfl,h8.cell (i:=2) rfl,h8.cell (i:=3) rfl,(hb.cell (p:=⟨b2,o2+kb*3+2,none⟩) (Nat.lt_of_lt_of_le hbb HB2.out.size)).trans ((HB2.out.cell (p:=⟨b2,o2+kb*3+2,none⟩) hbb).trans e2)⟩
   obtain⟨z0,z1,z2,z3,z4,z5⟩:=HCL.out W2 (Below.refl _ _);rw[←hW2]at z0 z1 z2 z3 z4 z5;have HGOT:=Qa hgot;have HBO:=Qa hbo;have HS4:=Qa hs4;clear hkbx hkf hkm hkmem hcell hvf' hq hPP hLL hidl hal hW2 hnf hfm hnb hgot hs4 hbo hx1 hfvx hkb hkbm hbl hvb' hcellb hbb hbb2 hx3 hx4 e2 hBK hBV hrep hI hok h;go_wp2_with fail;rw[HW2.out]at z0 z1 z2 z3 z4 z5 ⊢;obtain⟨R7,hR7⟩:∃R7,w.heap.size=R7:=⟨_,rfl⟩;rw[hR7]at HCL HR7 z1 z2 z3 z4 ⊢
   go_region_held3 (fun w'=>w'.cell? ⟨M,1,none⟩=some (.slice (some ⟨b2,o2,none⟩) bs.length cb)∧w'.cell? ⟨R7,0,none⟩=some (.string nm)∧w'.cell? ⟨R7,1,none⟩=some (.int .i64 LL)∧w'.cell? ⟨R7,2,none⟩=some (.int .u32 (PP:Nat))∧w'.cell? ⟨R7,3,none⟩=some (.slice pv idl cv)∧w'.cell? ⟨b2,o2+kb*3+2,none⟩=some (.pointer (some ⟨BK,0,none⟩))) (first|exact HCL.out _ HB5.out|exact HCL.out _ HB4.out|go_keep) (first
    | (go_at_call 128;refine(HREP.out _ (Below.refl _ W2).drew).mono ?_;rintro e w4 ⟨rfl,hb4⟩;have HB4:Hid (Below W2.heap.size W2 w4):=(Below.refl _ W2).drew.trans (hb4.mono wz);clear hb4)
    | (go_at_call 20;refine(HFB.out _ HB4.out).mono ?_;rintro e w5 ⟨rfl,hb5⟩;have HB5:Hid (Below W2.heap.size W2 w5):=HB4.out.trans (hb5.mono HB4.out.size);clear hb5))
   have HBW:Hid (Below w.heap.size w w5):=HB2.out.trans (HB5.out.mono HB2.out.size);have HBN5:=Qa ((HBIN.out.below HB2.out).below HB5.out);have HR75:=Qa (HR7.out.next HB5.out);have HID5:=Qa ((HID0.out.below HB2.out).below HB5.out);obtain⟨pL,cL,hBVe,hhc⟩:=HBN5.out.at;subst hBVe;have HHC:=Qa hhc;have HPL:Hid ((pieces s).length=idl):=(by show _=_;have:=HIDL.out;unfold idsOf at this;rw[List.length_map]at this;exact this);have r3:=HR75.out.cell (i:=3) rfl;have hidl4:(idl:Int)≤4000:=(by have:=HIL.out;omega);clear z0 z1 z2 z3 z4 z5 q0 a0 a1 a2 a3 hhc HB4 HREP HFB;go_wp2_with fail
   go_loopw [9,10] (fun sv iv wr=>∃(j:Nat) (S:ByteArray),j≤(pieces s).length∧iv=.int .i64 j∧sv=.string S∧Hid (S.data.toList=((pieces s).take j).flatten)∧Hid (Below w5.heap.size w5 wr)) (fun _ iv _=>(pieces s).length - (intOf iv).toNat)
   case atStart=>exact⟨0,⟨#[]⟩,Nat.zero_le _,rfl,rfl,rfl,Below.refl _ _⟩
   case round=>
    clear r3;obtain⟨j,S,hj,rfl,rfl,HSS,HB⟩:=hrel;have HR7R:=Qa (HR75.out.next HB.out);have r3:=HR7R.out.cell (i:=3) rfl;by_cases hlt:j<(pieces s).length
    ·have hlt':(j:Int)<(idl:Int):=(by have:=HPL.out;omega);have hj0:(0:Int)≤(j:Int):=(by omega);obtain⟨pv',cv',hv',hc'⟩:=HID5.out.below HB.out;have hjl:j<(idsOf s).length:=(by unfold idsOf;rw[List.length_map];exact hlt);obtain⟨rfl,hidle,rfl⟩:pv=pv'∧idl=(idsOf s).length∧cv=cv':=(by simpa using hv');obtain⟨bi,oi,rfl,hbi,d0,d1⟩:=hc' j hjl;have hxe:(idsOf s)[j]=Qc (pieces s)[j]:=(by simp[idsOf,Qc]);have hpm:(pieces s)[j]∈pieces s:=List.getElem_mem hlt;have hg:=HGOT.out _ hpm;have hpl64:=(Kv hpm).2;have hsn:((pieces s).take (j+1)).flatten=((pieces s).take j).flatten++(pieces s)[j]:=(by rw[List.take_succ_eq_append_getElem hlt,List.flatten_append];simp);rw[hxe]at d0 d1;obtain⟨t,ht⟩:∃t,(pieces s)[j]=t:=⟨_,rfl⟩;rw[ht]at hg hpl64 hsn d0 d1;obtain⟨⟨xp,xl⟩,hx⟩:∃x,Qc t=x:=⟨_,rfl⟩;rw[hx]at hg d0 d1;simp only at d0 d1;obtain⟨ki,hki,hfi,htx⟩:=Quj hg;obtain⟨bh,oh,hpe,⟨hbh,hbc⟩,_,_,_,e3⟩:=HHC.out ki hki;subst hpe;rw[htx]at e3;have HSZ:Hid (S.size≤4000):=(by have h1:=Qe1 s j;have h2:=congrArg List.length HSS.out;rw[Array.length_toList]at h2;have h3:=HS4.out;show S.size≤4000;have h4:S.data.size=S.size:=rfl;omega);have htsz:(⟨t.toArray⟩:ByteArray).size=t.length:=(by simp[ByteArray.size]);obtain⟨S2,hS2,hT2,hZ2⟩:=Qvw S ⟨t.toArray⟩ (by rw[htsz];have:=HSZ.out;omega);have HNX:Hid (S2.data.toList=((pieces s).take (j+1)).flatten):=(by show _=_;rw[hT2,hsn,HSS.out]);obtain⟨T,hT⟩:∃T:ByteArray,(⟨t.toArray⟩:ByteArray)=T:=⟨_,rfl⟩;rw[hT]at hS2 e3;have hki0:(0:Int)≤(ki:Int):=(by omega);have hki1:(ki:Int)<(bl.length:Int):=(by omega);have HCQ:Hid (∀W',Below wr.heap.size wr W'→W'.cell? ⟨BK,0,none⟩=some (.slice (some ⟨bh,oh,none⟩) bl.length cL)∧W'.cell? ⟨R7,3,none⟩=some (.slice (some ⟨bi,oi,none⟩) idl cv)∧W'.cell? ⟨bi,oi+j*2,none⟩=some (.int .u32 (xp:Nat))∧W'.cell? ⟨bi,oi+j*2+1,none⟩=some (.int .i64 xl)∧W'.cell? ⟨bh,oh+ki*4+3,none⟩=some (.string T)):=fun W' hb=>⟨((HBN5.out.below HB.out).below hb).blk.cell (i:=0) rfl,(HR7R.out.next hb).cell (i:=3) rfl,(hb.cell (p:=⟨bi,oi+j*2,none⟩) hbi).trans d0,(hb.cell (p:=⟨bi,oi+j*2+1,none⟩) hbi).trans d1,(hb.cell (p:=⟨bh,oh+ki*4+3,none⟩) (Nat.lt_of_lt_of_le hbh HB.out.size)).trans ((HB.out.cell (p:=⟨bh,oh+ki*4+3,none⟩) hbh).trans e3)⟩;have HFI:Hid (∀W',Below wr.heap.size wr W'→Calls Tryz.prog 159 #[.pointer (some ⟨BK,0,none⟩),idV (xp:Nat) xl] W' fun e w'=>e=.returned (.int .i64 (ki:Int))∧Below W'.heap.size W' w'):=fun W' hb=>by have:=Ki BK _ bl (xp,xl) W' (by have:=HBO.out.many;unfold maxLen;omega) ((HBN5.out.below HB.out).below hb);rw[hfi]at this;exact this
     obtain⟨y0,y1,y2,y3,y4⟩:=HCQ.out wr (Below.refl _ _);clear hidle hv' hc' hjl hxe hpm hg hpl64 hsn ht hx hfi htx hbh hbc e3 htsz hT2 hZ2 hT r3 d0 d1 hbi;go_wp2_with fail
     go_region_held3 (fun w'=>w'.cell? ⟨BK,0,none⟩=some (.slice (some ⟨bh,oh,none⟩) bl.length cL)∧w'.cell? ⟨R7,3,none⟩=some (.slice (some ⟨bi,oi,none⟩) idl cv)∧w'.cell? ⟨bi,oi+j*2,none⟩=some (.int .u32 (xp:Nat))∧w'.cell? ⟨bi,oi+j*2+1,none⟩=some (.int .i64 xl)∧w'.cell? ⟨bh,oh+ki*4+3,none⟩=some (.string T)) (first|exact HCQ.out _ HB6.out|go_keep) (first
      | (go_at_call 159;refine(HFI.out _ (Below.refl _ wr).drew).mono ?_;rintro e w6 ⟨rfl,hb6⟩;have HB6:Hid (Below wr.heap.size wr w6):=(Below.refl _ wr).drew.trans (hb6.mono wz);clear hb6))
     have HBN:Hid (Below w5.heap.size w5 w6):=HB.out.trans (HB6.out.mono HB.out.size);clear y0 y1 y2 y3 y4;go_wp2_with fail;go_roundw
     case rel=>exact⟨j+1,S2,hlt,by go_num,rfl,HNX.out,HBN.out⟩
     case measure=>simp[intOf];omega
    ·have hge:(idl:Int)≤(j:Int):=(by have:=HPL.out;omega);have hall:S.data.toList=s:=(by rw[HSS.out,List.take_of_length_le (by omega),Y4]);have HSE:Hid (S=⟨s.toArray⟩):=Ql6 hall;clear hall;go_wp2_with fail;go_ret2;rw[HE.out];exact⟨by rw[HSE.out];rfl,HBW.out.trans (HB.out.mono HBW.out.size)⟩
structure Xj (st:NSt):Prop where
 bhas:∀b∈st.bins,∃f∈st.files,Qg f.2=b.1
 fmany:st.files.length≤30
theorem Xj.empty:Xj ⟨[],[]⟩:=⟨fun b hb=>by simp at hb,by simp⟩
theorem Xj.put {st:NSt}(h:Xj st)(nm s:List UInt8):Xj (Jt st nm s).2.2:=by
 by_cases h1:(ofR nm s).2=0
 ·cases h2:nFile st.files nm with
  | some t=>rw[V6 h1 h2];exact h
  | none=>
   by_cases h3:30≤st.files.length
   ·rw[G9 h1 h2 h3];exact h
   ·obtain⟨⟨fr,ec,bl⟩,hp⟩:∃r,Za ((Zi st.bins (Qg s)).getD []) 0 (pieces s)=r:=⟨_,rfl⟩;by_cases h4:ec=0
    ·subst h4;rw[Qba h1 h2 h3 rfl rfl hp];refine⟨fun b hb => ?_,by simp only[List.length_cons];omega⟩;rcases List.mem_cons.1 hb with rfl|hb
     ·exact⟨_,List.mem_cons_self ..,rfl⟩
     ·obtain⟨f,hf,e⟩:=h.bhas b (List.mem_filter.1 hb).1;exact⟨f,List.mem_cons_of_mem _ hf,e⟩
    ·rw[Qar h1 h2 h3 rfl rfl hp h4];exact h
 ·rw[Uo h1];exact h
theorem Qup {st:NSt}(hI:Xh st){nm s:List UInt8}(hf:nFile st.files nm=some s){f:Qz}(hm:f∈st.files)(e:f.1=nm):f.2=s:=by
 obtain⟨f1,f2⟩:=f;simp only at e;subst e;have:=Jj hI.fap hm;rw[hf]at this;exact(Option.some.inj this).symm
theorem Xj.drop {st:NSt}(h:Xj st)(hI:Xh st)(nm:List UInt8):Xj (Z5 st nm).2:=by
 unfold Z5;cases hf:nFile st.files nm with
 | none=>exact h
 | some s=>
  simp only;have hstay:∀b∈st.bins,b.1≠Qg s→∃f∈st.files.filter (fun f => !decide (f.1=nm)),Qg f.2=b.1:=fun b hb hne=>by
   obtain⟨f,hf',e2⟩:=h.bhas b hb;refine⟨f,List.mem_filter.2 ⟨hf',?_⟩,e2⟩;by_cases e3:f.1=nm
   ·rw[Qup hI hf hf' e3]at e2;exact absurd e2.symm hne
   ·simp[e3]
  split
  ·rename_i hany
   obtain⟨g,hg,he⟩:=List.any_eq_true.1 hany;simp only[decide_eq_true_eq]at he;refine⟨fun b hb => ?_,Nat.le_trans (List.length_filter_le _ _) h.fmany⟩;obtain⟨c,hc,rfl⟩:=List.mem_map.1 hb;have ek:(if c.1=Qg s then (c.1,Zl c.2 (idsOf s)) else c).1=c.1:=(by split<;>rfl)
   rw[ek];by_cases e:c.1=Qg s
   ·exact⟨g,hg,he.trans e.symm⟩
   ·exact hstay c hc e
  ·refine⟨fun b hb => ?_,Nat.le_trans (List.length_filter_le _ _) h.fmany⟩;obtain⟨hb1,hb2⟩:=List.mem_filter.1 hb;exact hstay b hb1 (fun e=>by simp[e]at hb2)
theorem Xj.sweep {st:NSt}(h:Xj st):Xj (Xo st).2:=by
 refine⟨fun b hb => ?_,h.fmany⟩;obtain⟨c,hc,rfl⟩:=List.mem_map.1 hb;exact h.bhas c hc
end Go.Proofs.YtjngnnbondejaabGreatDoor
