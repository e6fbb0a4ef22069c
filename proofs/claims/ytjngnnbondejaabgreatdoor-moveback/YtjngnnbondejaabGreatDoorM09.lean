/- A part. -/
import Derived.Test.YtjngnnbondejaabGreatDoorM08
import Derived.Deep.AppendLies
set_option maxHeartbeats 4000000
set_option maxRecDepth 100000
namespace Go.Proofs.YtjngnnbondejaabGreatDoor
open Go.RowKit
def Ze:List (List UInt8)→Option (List (Nat×Int))
 | []=>some []
 | t::r=>match idRead t,Ze r with
  | some x,some ids=>some ((x.1,(x.2:Int))::ids)
  | _,_=>none
abbrev Qhf:=List UInt8×Int×Nat×List (Nat×Int)
def Qs (t:List UInt8):Qhf×(Int×Int):=
 match cutBy 32 t with
 | nm::ln::pr::r=>match numOf ln 6,unhex8 pr,Ze r with
  | some n,some p,some ids=>if Qb nm n ids=(0,-1) then ((nm,(n:Int),p,ids),(0,-1)) else (([],0,0,[]),Qb nm n ids)
  | _,_,_=>(([],0,0,[]),(1,-1))
 | _=>(([],0,0,[]),(1,-1))
theorem Qdj:∀(l:List (List UInt8)) (t:List UInt8) (ids:List (Nat×Int)) (x:Nat×Nat),Ze l=some ids→idRead t=some x→Ze (l++[t])=some (ids++[(x.1,(x.2:Int))])
 | [],t,ids,x,h,hx=>by cases h;simp[Ze,hx]
 | u::r,t,ids,x,h,hx=>by
  rw[Ze]at h;rw[List.cons_append,Ze];split at h
  ·rename_i y js hy hj
   cases h;rw[hy,Qdj r t js x hj hx];rfl
  ·cases h
theorem Qc6:∀(l:List (List UInt8)) (k:Nat) (h:k<l.length),idRead l[k]=none→Ze l=none
 | u::r,0,_,hx=>by have hx':idRead u=none:=hx;rw[Ze,hx']
 | u::r,k+1,h,hx=>by rw[Ze,Qc6 r k (by simpa using h) (by simpa using hx)];cases idRead u<;>rfl
theorem Qdq (c:UInt8):∀(l:List UInt8),(cutBy c l).length≤l.length+1∧∀p∈cutBy c l,p.length≤l.length
 | []=>by simp[cutBy]
 | x::l=>by
  have ih:=Qdq c l;rw[cutBy];split
  ·refine⟨by simp;exact ih.1,fun p hp => ?_⟩;rcases List.mem_cons.1 hp with rfl|hp
   ·simp
   ·exact Nat.le_trans (ih.2 p hp) (by simp)
  ·split
   ·rename_i p r he
    rw[he]at ih;refine⟨by simp at ih ⊢;omega,fun q hq => ?_⟩;rcases List.mem_cons.1 hq with rfl|hq
    ·have:=ih.2 p (by simp);simp;omega
    ·exact Nat.le_trans (ih.2 q (by simp[hq])) (by simp)
   ·exact⟨by simp,fun q hq=>by simp at hq;subst hq;simp⟩
theorem Qhn (t:List UInt8)(h:(cutBy 32 t).length<3):Qs t=(([],0,0,[]),(1,-1)):=by
 unfold Qs;split
 ·rename_i e
  rw[e]at h;simp at h;omega
 ·rfl
theorem Kl {t nm ln pr:List UInt8}{rs:List (List UInt8)}(h:cutBy 32 t=nm::ln::pr::rs):Qs t=match numOf ln 6,unhex8 pr,Ze rs with
 | some n,some p,some ids=>if Qb nm n ids=(0,-1) then ((nm,(n:Int),p,ids),(0,-1)) else (([],0,0,[]),Qb nm n ids)
 | _,_,_=>(([],0,0,[]),(1,-1)):=by unfold Qs;rw[h]
theorem Qk3 {t nm ln pr:List UInt8}{rs:List (List UInt8)}(h:cutBy 32 t=nm::ln::pr::rs)(hn:numOf ln 6=none):Qs t=(([],0,0,[]),(1,-1)):=by
 rw[Kl h,hn]
theorem Qls {t nm ln pr:List UInt8}{rs:List (List UInt8)}(h:cutBy 32 t=nm::ln::pr::rs){n:Nat}(hn:numOf ln 6=some n)(hu:unhex8 pr=none):Qs t=(([],0,0,[]),(1,-1)):=by
 rw[Kl h,hn,hu]
theorem Ql3 {t nm ln pr:List UInt8}{rs:List (List UInt8)}(h:cutBy 32 t=nm::ln::pr::rs){n p:Nat}(hn:numOf ln 6=some n)(hu:unhex8 pr=some p)(hi:Ze rs=none):Qs t=(([],0,0,[]),(1,-1)):=by
 rw[Kl h,hn,hu,hi]
theorem Gc {t nm ln pr:List UInt8}{rs:List (List UInt8)}(h:cutBy 32 t=nm::ln::pr::rs){n p:Nat}(hn:numOf ln 6=some n)(hu:unhex8 pr=some p){ids:List (Nat×Int)}(hi:Ze rs=some ids):Qs t=if Qb nm n ids=(0,-1) then ((nm,(n:Int),p,ids),(0,-1)) else (([],0,0,[]),Qb nm n ids):=by
 rw[Kl h,hn,hu,hi]
structure ReadW (w W:World):Prop where
 below:Below w.heap.size w W
 size:w.heap.size+1<W.heap.size
 r0:W.cell? ⟨w.heap.size,0,none⟩=some (.string ⟨#[]⟩)
 r1:W.cell? ⟨w.heap.size,1,none⟩=some (.int .i64 0)
 r2:W.cell? ⟨w.heap.size,2,none⟩=some (.int .u32 0)
 r3:W.cell? ⟨w.heap.size,3,none⟩=some (.slice none 0 0)
 k0:W.cell? ⟨w.heap.size+1,0,none⟩=some (.int .i64 0)
 k1:W.cell? ⟨w.heap.size+1,1,none⟩=some (.int .i64 0)
 g:∀i,W.frozen? ⟨w.heap.size,i,none⟩=false
 f:∀i,W.frozen? ⟨w.heap.size+1,i,none⟩=false
theorem ReadW.new (w:World)(t t':TypeId):ReadW w ((w.alloc (.cells #[.string ⟨#[]⟩,.int .i64 0,.int .u32 0,.slice none 0 0] t)).alloc (.cells #[.int .i64 0,.int .i64 0] t')) where
 below:=((Below.refl _ w).alloc wz _).alloc (by simp) _
 size:=by simp
 r0:=by rw[World.cell?_alloc_lt _ _ ⟨w.heap.size,0,none⟩ (by simp)];simp
 r1:=by rw[World.cell?_alloc_lt _ _ ⟨w.heap.size,1,none⟩ (by simp)];simp
 r2:=by rw[World.cell?_alloc_lt _ _ ⟨w.heap.size,2,none⟩ (by simp)];simp
 r3:=by rw[World.cell?_alloc_lt _ _ ⟨w.heap.size,3,none⟩ (by simp)];simp
 k0:=by simp
 k1:=by simp
 g:=fun i=>by rw[X3 _ _ (by simp)];exact Yh w _ _ rfl
 f:=fun i=>Yh _ _ _ (by simp)
theorem ReadW.next {w W W':World}(h:ReadW w W)(hb:Below W.heap.size W W'):ReadW w W':=by
 have hs:=h.size;have hs':=hb.size;exact⟨h.below.trans (hb.mono h.below.size),by omega,(hb.cell (p:=⟨_,0,none⟩) (by simp;omega)).trans h.r0,(hb.cell (p:=⟨_,1,none⟩) (by simp;omega)).trans h.r1,(hb.cell (p:=⟨_,2,none⟩) (by simp;omega)).trans h.r2,(hb.cell (p:=⟨_,3,none⟩) (by simp;omega)).trans h.r3,
  (hb.cell (p:=⟨_,0,none⟩) (by simp;omega)).trans h.k0,(hb.cell (p:=⟨_,1,none⟩) (by simp;omega)).trans h.k1,fun i=>(hb.frozen (p:=⟨_,i,none⟩) (by simp;omega)).trans (h.g i),fun i=>(hb.frozen (p:=⟨_,i,none⟩) (by simp;omega)).trans (h.f i)⟩
def Qfs (s:ByteArray)(w:World)(e:Ending)(w':World):Prop:=∃v,e=.returned (.tuple #[rcpV ⟨(Qs s.data.toList).1.1.toArray⟩ (Qs s.data.toList).1.2.1 ((Qs s.data.toList).1.2.2.1:Nat) v,Qwc (Qs s.data.toList).2.1 (Qs s.data.toList).2.2])∧Zb w.heap.size w' v (Qs s.data.toList).1.2.2.2∧Below w.heap.size w w'
abbrev stored (W:World)(h:Nat)(c a:Int):World:=(((((W.setCell ⟨h,0,none⟩ (.string ⟨#[]⟩)).setCell ⟨h,1,none⟩ (.int .i64 0)).setCell ⟨h,2,none⟩ (.int .u32 0)).setCell ⟨h,3,none⟩ (.slice none 0 0)).setCell ⟨h+1,0,none⟩ (.int .i64 c)).setCell ⟨h+1,1,none⟩ (.int .i64 a)
theorem Qfs.drew {s:ByteArray}{w w':World}{e:Ending}(h:Qfs s w e w'):Qfs s w e w'.drew:=by
 obtain⟨v,h1,h2,h3⟩:=h;exact⟨v,h1,h2.below (Below.refl _ _).drew,h3.drew⟩
abbrev Qw1 (W:World)(h:Nat)(a b c d:Value)(x y:Int):World:=(((((W.setCell ⟨h,0,none⟩ a).setCell ⟨h,1,none⟩ b).setCell ⟨h,2,none⟩ c).setCell ⟨h,3,none⟩ d).setCell ⟨h+1,0,none⟩ (.int .i64 x)).setCell ⟨h+1,1,none⟩ (.int .i64 y)
theorem Qmj:∀(l:List UInt8),l≠[]→16*((pieces l).length - 1)+1≤l.length:=by
 refine Uq (fun h=>(h rfl).elim) ?_;intro l hl ih _;have hp:=Ke l hl;have hle:=Qcq l;rw[Ka l hl,List.length_cons,Nat.add_sub_cancel];by_cases hd:l.drop (first l)=[]
 ·rw[hd,pieces_nil];have:=List.length_pos_iff.2 hl;simp;omega
 ·have h16:=Qe3 l (qz hd);have hlt:=qz hd;have:=ih hd;rw[List.length_drop]at this;have hn:1≤(pieces (l.drop (first l))).length:=by
   rcases Nat.eq_zero_or_pos (pieces (l.drop (first l))).length with h|h
   ·exact(hd ((Qhx _).1 (List.eq_nil_of_length_eq_zero h))).elim
   ·exact h
  omega
theorem U9 (l:List UInt8)(h:l.length≤4000):(pieces l).length≤250:=by
 by_cases e:l=[]
 ·subst e;decide
 ·have:=Qmj l e;omega
theorem X6 (l:List UInt8):(idsOf l).length=(pieces l).length:=List.length_map _
theorem Qmk (l:List UInt8)(i:Nat)(h:i<(idsOf l).length):(idsOf l)[i]=Qc ((pieces l)[i]'(by rw[←X6];exact h)):=by
 simp only[idsOf,List.getElem_map];rfl
theorem Qbj:∀(ps:List (List UInt8)),Jr (ps.map fun p=>(pmore 2166136261 p,(p.length:Int)))=(ps.flatten.length:Int)
 | []=>rfl
 | p::r=>by have ih:=Qbj r;simp only[Jr,List.map_cons,List.sum_cons,List.flatten_cons,List.length_append]at ih ⊢;rw[ih];omega
theorem Gd (nm l:List UInt8)(hn:Qj nm=true)(hl:l.length≤4000):Qb nm l.length (idsOf l)=(0,-1):=by
 refine Qbe hn (by omega) (by have:=U9 l hl;rw[X6];omega) (Gw _ _ fun j hj => ?_) ?_
 ·have hj':j<(pieces l).length:=by rw[←X6];exact hj
  have:=Vr l j hj';rw[Qmk];unfold qo Qc;exact decide_eq_true ⟨by show(1:Int)≤((pieces l)[j].length:Int);omega,by show((pieces l)[j].length:Int)≤64;omega⟩
 ·rw[idsOf,Qbj,Y4]
theorem Qhr (nm l:List UInt8)(hn:Qj nm=true)(hl:l.length≤4000):X9 nm l.length (pmore 2166136261 l) (idsOf l) (pieces l)=(l,(0,-1)):=by
 unfold X9;rw[if_neg (by rw[Gd nm l hn hl];simp),if_neg (by rw[X6];simp),Gu (pieces l) (idsOf l) 0 (fun j hj hj'=>(Qmk l j hj').symm),Y4];simp
theorem Qlp (c:UInt8)(hc:undec1 c=none):∀(q:List UInt8) (n v:Nat),undec n q=some v→c ∉ q
 | [],_,_,_=>by simp
 | x::q,n,v,h=>by
  rw[undec]at h;split at h
  ·rename_i d hd
   have ih:=Qlp c hc q _ _ h;intro hm;rcases List.mem_cons.1 hm with e|hm
   ·rw[←e,hc]at hd;cases hd
   ·exact ih hm
  ·cases h
theorem Qmc (c:UInt8)(hc:unhex1 c=none):∀(q:List UInt8) (n v:Nat),unhex n q=some v→c ∉ q
 | [],_,_,_=>by simp
 | x::q,n,v,h=>by
  rw[unhex]at h;split at h
  ·rename_i d hd
   have ih:=Qmc c hc q _ _ h;intro hm;rcases List.mem_cons.1 hm with e|hm
   ·rw[←e,hc]at hd;cases hd
   ·exact ih hm
  ·cases h
theorem Qiv (u:Nat):(32:UInt8) ∉ Lib.decDigits u:=Qlp 32 (by decide) _ 0 u (K4 u)
theorem pow16:(16:Nat) ^ 8=4294967296:=by decide
theorem Qa0 (n:Nat)(h:n<4294967296):unhex 0 (hexLast n 8)=some n:=by
 rw[Qbm 0 n 8 (by rw[pow16];exact h),Nat.zero_mul,Nat.zero_add]
theorem Qib (n:Nat)(h:n<4294967296):(32:UInt8) ∉ hexLast n 8:=Qmc 32 (by decide) _ 0 n (Qa0 n h)
theorem Qry (n l:Nat)(h:n<4294967296):(32:UInt8) ∉ idText n l:=by
 intro hm;rcases List.mem_append.1 hm with hm|hm
 ·exact Qib n h hm
 ·rcases List.mem_cons.1 hm with e|hm
  ·exact absurd e (by decide)
  ·exact Qiv l hm
theorem Qnw (nm:List UInt8)(h:Qj nm=true):(32:UInt8) ∉ nm:=by
 intro hm;unfold Qj at h;rw[Bool.and_eq_true]at h;have:=List.all_eq_true.1 h.1 32 hm;exact absurd this (by decide)
theorem Qpi:∀(ids:List (Nat×Int)) (X:List UInt8),(32:UInt8) ∉ X→(∀x∈ids,x.1<4294967296)→cutBy 32 (X++idsText ids)=X::ids.map fun x=>idText x.1 x.2.toNat
 | [],X,hX,_=>by rw[show idsText []=[] from rfl,List.append_nil,Qim _ _ hX];rfl
 | x::r,X,hX,h=>by rw[show idsText (x::r)=32::(idText x.1 x.2.toNat++idsText r) from rfl,Gn _ _ _ hX,Qpi r _ (Qry _ _ (h x (by simp))) (fun y hy=>h y (by simp[hy]))];rfl
theorem Qk0:∀(ids:List (Nat×Int)),(∀x∈ids,x.1<4294967296)→(∀x∈ids,qo x=true)→Ze (ids.map fun x=>idText x.1 x.2.toNat)=some ids
 | [],_,_=>rfl
 | x::r,h,ho=>by
  have h0:=ho x (by simp);simp only[qo,decide_eq_true_eq]at h0;have e:=Qbv x.1 x.2.toNat (h x (by simp)) (by omega);rw[List.map_cons,Ze,e,Qk0 r (fun y hy=>h y (by simp[hy])) (fun y hy=>ho y (by simp[hy]))];simp only[Option.some.injEq,List.cons.injEq,and_true];apply Prod.ext
  ·rfl
  ·simp only;omega
theorem Uw:∀(ids:List (Nat×Int)) (i:Nat),Ji i ids=none→∀x∈ids,qo x=true
 | [],_,_,x,hx=>by simp at hx
 | y::r,i,h,x,hx=>by
  rw[Ji]at h;split at h
  ·rename_i hy
   rcases List.mem_cons.1 hx with e|hx
   ·rw[e];exact hy
   ·exact Uw r (i+1) h x hx
  ·cases h
theorem Qjc (nm:List UInt8)(len:Int)(p:Nat)(ids:List (Nat×Int))(hf:Qb nm len ids=(0,-1))(hp:p<4294967296)(h32:∀x∈ids,x.1<4294967296):Qs (Zy nm len p ids)=((nm,len,p,ids),(0,-1)):=by
 obtain⟨h1,⟨h2,h2'⟩,_,h4,_⟩:=Yc hf;have hcut:cutBy 32 (Zy nm len p ids)=nm::Lib.decDigits len.toNat::hexLast p 8::ids.map fun x=>idText x.1 x.2.toNat:=by
  have e:Zy nm len p ids=nm++32::(Lib.decDigits len.toNat++32::(hexLast p 8++idsText ids)):=by simp[Zy]
  rw[e,Gn _ _ _ (Qnw nm h1),Gn _ _ _ (Qiv _),Qpi ids _ (Qib p hp) h32]
 have hlen:((len.toNat:Nat):Int)=len:=Int.toNat_of_nonneg h2;have h6:(10:Nat) ^ 6=1000000:=by decide
 have hn:numOf (Lib.decDigits len.toNat) 6=some len.toNat:=Xe len.toNat 6 (by decide) (by rw[h6];omega);have hu:unhex8 (hexLast p 8)=some p:=by rw[unhex8,if_pos (Qm p 8),Qa0 p hp]
 have hr:=Qk0 ids h32 (Uw ids 0 h4);rw[Gc hcut hn hu hr,hlen,if_pos hf]
theorem lesser_mem (m y:Nat×Int):lesser m y=m∨lesser m y=y:=by
 unfold lesser;split
 ·exact .inr rfl
 ·exact .inl rfl
theorem fold_mem:∀(r:List (Nat×Int)) (m:Nat×Int),r.foldl lesser m=m∨r.foldl lesser m∈r
 | [],_=>.inl rfl
 | y::r,m=>by
  rcases fold_mem r (lesser m y)with h|h
  ·rcases lesser_mem m y with e|e
   ·exact .inl (h.trans e)
   ·exact .inr (by rw[List.foldl_cons,h,e];simp)
  ·exact .inr (List.mem_cons.2 (.inr h))
theorem Qqy (ids:List (Nat×Int))(h:ids≠[]):Zq ids∈ids:=by
 cases ids with
 | nil=>exact(h rfl).elim
 | cons x r=>
  rcases fold_mem r x with e|e
  ·exact List.mem_cons.2 (.inl e)
  ·exact List.mem_cons.2 (.inr e)
abbrev qg (d:Qhf)(v:Value):Value:=rcpV ⟨d.1.toArray⟩ d.2.1 (d.2.2.1:Nat) v
def ofR (nm l:List UInt8):Qhf×Int:=if Qj nm=false then (([],0,0,[]),4) else if 4000<l.length then (([],0,0,[]),2) else ((nm,(l.length:Int),pmore 2166136261 l,idsOf l),0)
def Ud (nm:List UInt8)(len:Int)(p:Nat)(ids:List (Nat×Int)):List UInt8:=if Qb nm len ids=(0,-1) then Zy nm len p ids else []
structure Qw2 (a:Nat→Addr)(Env:World→Prop):Prop where
 stable:∀{w w':World},Env w→Below w.heap.size w w'→Env w'
 err:∀{w:World},Env w→J6 w a
 name:∀(s:ByteArray) (w:World),s.size≤50000→Env w→Calls Tryz.prog 173 #[.string s] w fun e w'=>e=.returned (.bool (Qj s.data.toList))∧Below w.heap.size w w'
 of':∀(nm s:ByteArray) (w:World),nm.size≤50000→s.size≤50000→Env w→Calls Tryz.prog 95 #[.string nm,.string s] w fun e w'=>∃v ev,e=.returned (.tuple #[qg (ofR nm.data.toList s.data.toList).1 v,ev])∧Zb w.heap.size w' v (ofR nm.data.toList s.data.toList).1.2.2.2∧Qp w.heap.size w' a ev ((ofR nm.data.toList s.data.toList).2,-1)∧Below w.heap.size w w'
 check:∀(nm:ByteArray) (len:Int) (p:Nat) (v:Value) (ids:List (Nat×Int)) (w:World),nm.size≤50000→ids.length≤50000→Env w→Q3 w v ids→Calls Tryz.prog 166 #[rcpV nm len (p:Nat) v] w fun e w'=>∃ev,e=.returned ev∧Qp w.heap.size w' a ev (Qb nm.data.toList len ids)∧Below w.heap.size w w'
 rep:∀(nm:ByteArray) (len:Int) (p:Nat) (v:Value) (ids:List (Nat×Int)) (w:World),ids.length≤50000→Env w→Q3 w v ids→Calls Tryz.prog 96 #[rcpV nm len (p:Nat) v] w fun e w'=>e=.returned (idV ((Zq ids).1:Nat) (Zq ids).2)∧Below w.heap.size w w'
 text:∀(nm:ByteArray) (len:Int) (p:Nat) (v:Value) (ids:List (Nat×Int)) (w:World),nm.size≤50000→ids.length≤50000→p<4294967296→(∀j (hj:j<ids.length),ids[j].1<4294967296)→Env w→Q3 w v ids→Calls Tryz.prog 190 #[rcpV nm len (p:Nat) v] w fun e w'=>∃ev,e=.returned (.tuple #[.string ⟨(Ud nm.data.toList len p ids).toArray⟩,ev])∧Qp w.heap.size w' a ev (Qb nm.data.toList len ids)∧Below w.heap.size w w'
 read:∀(t:ByteArray) (w:World),t.size≤40000→(Qs t.data.toList).2=(0,-1)→Env w→Calls Tryz.prog 270 #[.string t] w fun e w'=>∃v ev,e=.returned (.tuple #[qg (Qs t.data.toList).1 v,ev])∧Zb w.heap.size w' v (Qs t.data.toList).1.2.2.2∧Qp w.heap.size w' a ev (Qs t.data.toList).2∧Below w.heap.size w w'
 join:∀(nm:ByteArray) (len:Int) (p:Nat) (v vl:Value) (ids:List (Nat×Int)) (ls:List (List UInt8)) (w:World),nm.size≤50000→ids.length≤50000→ls.length≤50000→(∀i (h:i<ls.length),ls[i].length≤100)→Env w→Q3 w v ids→Zj w vl (ls.map Qcd)→Calls Tryz.prog 120 #[rcpV nm len (p:Nat) v,vl] w fun e w'=>∃ev,e=.returned (.tuple #[.string ⟨(X9 nm.data.toList len p ids ls).1.toArray⟩,ev])∧Qp w.heap.size w' a ev (X9 nm.data.toList len p ids ls).2∧Below w.heap.size w w'
theorem Qhy {P:Program}{ops:Array Oper}{o:Oper}{a:Act}{w:World}{K:Act→World→Prop}{Q:Exit→Act→World→Prop}{E:Prop}(hgd:o.guard=none)(f:FuncId)(x:Operand)(t:TypeId)
 (ho:o.op=.call { callee:=.value (.func f),args := #[x],argTypes := #[t] })(eg:∀args w,(callFunc f args).run P w=.ok (.enter f args) w)(vx:Value)(hx:a.eval x=vx){R:Value→World→Prop}
 (hc:Calls P f #[vx] w fun e w'=>∃v,e=.returned v∧R v w')(h:∀v w',R v w'→K (a.put o.dst v) w') :
 if Region.wanted o (yielded ops a.tmps)=true then Oper.wp P o a w K Q else E:=by
 have hw:Region.wanted o (yielded ops a.tmps)=true:=by simp[Region.wanted,hgd]
 rw[if_pos hw];unfold Oper.wp execOp;have hf:a.eval (.func f)=.func (.func f) #[] #[]:=rfl;have hc2:Calls P f #[vx] w fun|.returned v,w''=>K (a.put o.dst v) w''|.panicked chain,w''=>Q (.panic chain) a w''|.outgrown,_=>LetsOut Q:=hc.mono (by rintro e w' ⟨v,rfl,hR⟩;exact h v w' hR);simp only[ho,resolve,invoke,Sem.run_bind,Sem.run_pure,Result.andThen_ok,List.map_toArray,List.map_cons,List.map_nil,hf,hx,Deferred.ofValue,eg,Array.append_empty];exact hc2
theorem q9 {nm l:List UInt8}(h:Qj nm=false):ofR nm l=(([],0,0,[]),4):=by unfold ofR;rw[if_pos h]
theorem G8 {nm l:List UInt8}(h:Qj nm=true)(h2:4000<l.length):ofR nm l=(([],0,0,[]),2):=by unfold ofR;rw[if_neg (by rw[h];simp),if_pos h2]
theorem Qgr {nm l:List UInt8}(h:Qj nm=true)(h2:¬4000<l.length):ofR nm l=((nm,(l.length:Int),pmore 2166136261 l,idsOf l),0):=by unfold ofR;rw[if_neg (by rw[h];simp),if_neg h2]
def Qfm (a:Nat→Addr)(nm s:ByteArray)(w:World)(e:Ending)(w':World):Prop:=∃v ev,e=.returned (.tuple #[qg (ofR nm.data.toList s.data.toList).1 v,ev])∧Zb w.heap.size w' v (ofR nm.data.toList s.data.toList).1.2.2.2∧Qp w.heap.size w' a ev ((ofR nm.data.toList s.data.toList).2,-1)∧Below w.heap.size w w'
theorem Quy (a:Nat→Addr)(nm s:ByteArray)(hnm:nm.size≤maxLen)(h:Qj nm.data.toList=false)(w:World)(hE:Je [1,3] w a) :
 Calls Tryz.prog 95 #[.string nm,.string s] w fun e w'=>Qfm a nm s w e w':=by
 have HN:Hid (nm.size≤maxLen):=hnm;have HR:Hid (ofR nm.data.toList s.data.toList=(([],0,0,[]),4)):=q9 h;have HH:Hid (Qj nm.data.toList=false):=h;have hb:∀o,Below w.heap.size w (w.alloc o):=fun o=>(Below.refl _ w).alloc wz o;have hg:∀o,(w.alloc o).cell? ⟨Xn 3,0,none⟩=some (sentV a 3):=fun o=>(hE.below (hb o) wz).glob 3 (by decide);dsimp only[Xn]at hg;clear hnm h hE;go_enter Tryz.func95,Tryz.ntmps95;go_wp2_with fail;refine(Qcu nm HN.out _).mono ?_;rintro e w1 ⟨rfl,hw1⟩;subst hw1;rw[HH.out];go_wp2_with fail;go_region
 all_goals go_wp2
 all_goals refine bodyPost_ret (v:=.tuple #[rcpV ⟨#[]⟩ 0 0 (.slice none 0 0),sentV a 3]) (by simp[results,Tryz.results95,go_sem]) rfl ?_
 all_goals exact⟨.slice none 0 0,sentV a 3,by rw[HR.out];rfl,by rw[HR.out];exact Zb.nil _ _,by rw[HR.out];exact Qp.sent _ _ a 3 (by decide) rfl,(hb _).drew⟩
theorem Qru (a:Nat→Addr)(nm s:ByteArray)(hnm:nm.size≤maxLen)(h:Qj nm.data.toList=true)(hs:4000<s.size)(w:World)(hE:Je [1,3] w a) :
 Calls Tryz.prog 95 #[.string nm,.string s] w fun e w'=>Qfm a nm s w e w':=by
 have HN:Hid (nm.size≤maxLen):=hnm;have HR:Hid (ofR nm.data.toList s.data.toList=(([],0,0,[]),2)):=G8 h (by rw[Array.length_toList];exact hs);have HH:Hid (Qj nm.data.toList=true):=h;have hs':(4000:Int)<(s.size:Int):=by omega
 have hb:∀o,Below w.heap.size w (w.alloc o):=fun o=>(Below.refl _ w).alloc wz o;have hg:∀o,(w.alloc o).cell? ⟨Xn 1,0,none⟩=some (sentV a 1):=fun o=>(hE.below (hb o) wz).glob 1 (by decide);dsimp only[Xn]at hg;clear hnm h hE hs;go_enter Tryz.func95,Tryz.ntmps95;go_wp2_with fail;refine(Qcu nm HN.out _).mono ?_;rintro e w1 ⟨rfl,hw1⟩;subst hw1;rw[HH.out];go_wp2_with fail;go_region
 all_goals go_wp2
 all_goals refine bodyPost_ret (v:=.tuple #[rcpV ⟨#[]⟩ 0 0 (.slice none 0 0),sentV a 1]) (by simp[results,Tryz.results95,go_sem]) rfl ?_
 all_goals exact⟨.slice none 0 0,sentV a 1,by rw[HR.out];rfl,by rw[HR.out];exact Zb.nil _ _,by rw[HR.out];exact Qp.sent _ _ a 1 (by decide) rfl,(hb _).drew⟩
theorem Qu4 (a:Nat→Addr)(nm s:ByteArray)(hnm:nm.size≤maxLen)(h:Qj nm.data.toList=true)(hs:s.size≤4000)(w:World) :
 Calls Tryz.prog 95 #[.string nm,.string s] w fun e w'=>Qfm a nm s w e w':=by
 obtain⟨i0,hi,hz0,hz1,hz2⟩:=info_parts Qj5;have HN:Hid (nm.size≤maxLen):=hnm;have HH:Hid (Qj nm.data.toList=true):=h;have hs':¬(4000:Int)<(s.size:Int):=by omega
 have HS:Hid (s.size≤4000):=hs;have HSM:Hid (s.size≤maxLen):=by show _≤_;unfold maxLen;omega
 have HPL:Hid ((pieces s.data.toList).length≤4000):=Nat.le_trans (Qy _) (by rw[Array.length_toList];exact hs);have HPS:Hid (∀i (h:i<(pieces s.data.toList).length),((pieces s.data.toList)[i]).length≤64):=fun i h=>(Vr _ i h).2.1;have HR:Hid (ofR nm.data.toList s.data.toList=((nm.data.toList,(s.size:Int),pmore 2166136261 s.data.toList,(pieces s.data.toList).map fun p=>(pmore 2166136261 p,(p.length:Int))),0)):=by show _=_;rw[Qgr h (by rw[Array.length_toList];show ¬4000<s.size;omega),Array.length_toList];rfl
 clear hnm hs h;have hP:=Qf3 s (by have:=HS.out;omega);generalize pieces s.data.toList=qs at *;have HP:Hid (∀(w:World),Calls Tryz.prog 99 #[.string s] w fun e w'=>∃v,e=.returned v∧w'.ownsRow w.heap.size 9 1 v qs.length (qs.map Vz)∧Below w.heap.size w w'):=hP;clear hP;go_enter Tryz.func95,Tryz.ntmps95;go_wp2_with fail;refine(Qcu nm HN.out _).mono ?_;rintro e w1 ⟨rfl,hw1⟩;subst hw1;rw[HH.out];go_wp2_with fail;refine(Qdn s _ HSM.out).mono ?_;rintro e w1 ⟨rfl,hw1⟩;subst hw1;obtain⟨P,hP⟩:∃P,pmore 2166136261 s.data.toList=P:=⟨_,rfl⟩;have HPP:Hid (pmore 2166136261 s.data.toList=P):=hP;rw[hP];clear hP;go_wp2_with fail;refine(HP.out _).mono ?_;clear HP;rintro e w0 ⟨v0,rfl,ho0,hb0⟩;have hR1:=Blk.new w #[.string ⟨#[]⟩,.int .i64 0,.int .u32 0,.slice none 0 0] 40;have hX1:=Blk.new (w.alloc (.cells #[.string ⟨#[]⟩,.int .i64 0,.int .u32 0,.slice none 0 0] 40)) #[.string nm,.int .i64 (s.size:Int),.int .u32 (P:Nat),.slice none 0 0] 40;rw[World.size_alloc]at hX1;have hal1:Below w.heap.size w (w.alloc (.cells #[.string ⟨#[]⟩,.int .i64 0,.int .u32 0,.slice none 0 0] 40)):=(Below.refl _ w).alloc wz _;have hal2:=(Below.refl (w.alloc (.cells #[.string ⟨#[]⟩,.int .i64 0,.int .u32 0,.slice none 0 0] 40)).heap.size (w.alloc (.cells #[.string ⟨#[]⟩,.int .i64 0,.int .u32 0,.slice none 0 0] 40))).alloc wz (.cells #[.string nm,.int .i64 (s.size:Int),.int .u32 (P:Nat),.slice none 0 0] 40);replace hR1:=(hR1.next hal2).next hb0;replace hX1:=hX1.next hb0;have hbw0:Below w.heap.size w w0:=(hal1.trans (hal2.mono (by simp))).trans (hb0.mono (by simp;omega));have hszz:w.heap.size+2≤w0.heap.size:=by have:=hb0.size;simp at this;omega
 obtain⟨p0,c0,rfl,hcell⟩:=Zj.of_row ho0;simp only[List.length_map,List.getElem_map]at hcell ⊢;have hnew:∀i (h:i<qs.length),∃b o,p0=some ⟨b,o,none⟩∧w.heap.size+2≤b∧b<w0.heap.size∧w0.cell? ⟨b,o+i,none⟩=some (Vz qs[i]):=fun i hi=>by obtain⟨b,o,hp,hl,hc⟩:=hcell i hi;refine⟨b,o,hp,?_,hl.1,hc⟩;have:=Xf ho0 (j:=b) (by rw[hp];rfl);simpa using this
 have HCELL:Hid (∀i (h:i<qs.length),∃b o,p0=some ⟨b,o,none⟩∧∀W',X0 (w.heap.size+2) w0.heap.size w0 W'→W'.cell? ⟨b,o+i,none⟩=some (Vz qs[i])):=fun i hi=>by obtain⟨b,o,hp,h1,h2,hc⟩:=hnew i hi;exact⟨b,o,hp,fun W' hb=>(hb.cell h1 h2 _).trans hc⟩
 have hql:(qs.length:Int)≤4000:=by have:=HPL.out;omega
 clear hcell ho0 hb0 hal1 hal2 hnew;go_wp2_with fail
 go_loopw [28] (fun i wr=>∃(k:Nat) (v:Value),k≤qs.length∧i=.int .i64 k∧wr.ownsRow w0.heap.size 25 2 v k (idCells ((qs.take k).map fun p=>(pmore 2166136261 p,(p.length:Int))))∧Below (w.heap.size+1) w0 wr∧X0 (w.heap.size+2) w0.heap.size w0 wr∧Blk wr (w.heap.size+1) #[.string nm,.int .i64 (s.size:Int),.int .u32 (P:Nat),v] 40) (fun i _=>qs.length - (intOf i).toNat)
 case atStart=>exact⟨0,.slice none 0 0,Nat.zero_le _,rfl,World.ownsRow_nil _ _ _ _,Below.refl _ _,X0.refl _ _ _,hX1⟩
 case round=>
  obtain⟨k,v,hk,rfl,hown,hbr,hsm,hX⟩:=hrel;clear hX1;by_cases hlt:k<qs.length
  ·have hlt':(k:Int)<(qs.length:Int):=(by omega);obtain⟨b,o,rfl,hc⟩:=HCELL.out k hlt;have hc':=hc wr hsm;have HNX:Hid (idCells ((qs.take (k+1)).map fun p=>(pmore 2166136261 p,(p.length:Int)))=idCells ((qs.take k).map fun p=>(pmore 2166136261 p,(p.length:Int)))++[.int .u32 (pmore 2166136261 qs[k]:Nat),.int .i64 (qs[k].length:Int)]):=(by show _=_;rw[List.take_succ_eq_append_getElem hlt,List.map_append,Xy];rfl);obtain⟨q,hq⟩:∃q:ByteArray,(⟨qs[k].toArray⟩:ByteArray)=q:=⟨_,rfl⟩;have hqd:q.data.toList=qs[k]:=(by rw[←hq]);have hqs:(q.size:Int)=(qs[k].length:Int):=(by rw[←hq];rfl);have HQM:Hid (q.size≤maxLen):=(by show _≤_;have:=HPS.out k hlt;unfold maxLen;omega);rw[Vz,hq]at hc';rw[←hqd]at HNX;obtain⟨Q,hQ⟩:∃Q,pmore 2166136261 q.data.toList=Q:=⟨_,rfl⟩;have HQQ:Hid (pmore 2166136261 q.data.toList=Q):=hQ;rw[hQ]at HNX;rw[hqd,←hqs]at HNX;obtain⟨L,hL⟩:∃L:Int,(q.size:Int)=L:=⟨_,rfl⟩;have HLL:Hid ((q.size:Int)=L):=hL;rw[hL]at HNX;clear hc hqs hqd hq hQ hL;obtain⟨pv,cv,rfl⟩:∃pv cv,v=.slice pv k cv:=by
    obtain⟨_,h⟩:=hown;rcases h with⟨rfl,h0⟩|⟨g,cap,cur,rfl,_⟩
    ·exact⟨none,0,by rw[h0]⟩
    ·exact⟨_,_,rfl⟩
   have x3:=hX.cell (i:=3) rfl;have f3:=hX.frozen 3;have hXl:=hX.lt;have hwz:w0.heap.size≤wr.heap.size:=hbr.size;have hne:(Value.slice pv k cv).ownBlock≠some (w.heap.size+1):=fun e=>by have:=Xf hown e;omega
   go_wp2_with fail;have HID:Hid (∀W:World,Calls Tryz.prog 168 #[.string q] W fun e w'=>∃u,e=.returned u∧(u=idV (Q:Nat) L∧Below W.heap.size W w')):=fun W=>(Y0 q W HQM.out).mono fun e w' ⟨h1,h2⟩=>⟨_,h1,by rw[HQQ.out,HLL.out],h2⟩
   go_region_law (first|(refine Qhy (by rfl) 168 _ _ (by rfl) (enters_of Tryz.func168 (by kernel_rfl) rfl) (.string q) (by rfl) (HID.out _) ?_;rintro u w2 ⟨rfl,hb2⟩;have hw2:w.heap.size+1<w2.heap.size:=Nat.lt_of_lt_of_le hXl hb2.size;have hw3:w0.heap.size≤w2.heap.size:=Nat.le_trans hwz hb2.size;have hX2:=Blk.next (W:=wr.drew) hX hb2;have hX2a:=fun o=>hX2.next ((Below.refl _ w2).alloc wz o);have x32:=hX2.cell (i:=3) rfl;have f32:=hX2.frozen 3)|(refine step_append_lies _ (by rfl) _ _ _ (by rfl) w0.heap.size 25 i0 _ 2 16 Tryz.underlying38 hi hz0 hz1 hz2 rfl (by decide) (.slice pv k cv) k _ (by rfl) (((Qi hown.drew hb2).alloc _)) ⟨w2.heap.size,0,none⟩ 1 1 [.int .u32 (Q:Nat),.int .i64 L] (by rfl) (by rfl) (World.news_of_block (cs := #[.int .u32 (Q:Nat),.int .i64 L]) (t:=25) (fr:=(0,0)) (heap_alloc_new w2 _)) (by simp[Value.oneCell']) (by omega) (by unfold maxLen;omega) (by omega) (by simp;omega) (w2.heap.size+1) (by simp) ?_;intro gg cap w3 hown3 hgrow hat hglt;have hX3:Blk w3 (w.heap.size+1) #[.string nm,.int .i64 (s.size:Int),.int .u32 (P:Nat),.slice pv k cv] 40:=(hgrow.block _ (by rw[World.size_alloc];exact Nat.lt_succ_of_lt hw2) (fun e=>hne e.symm)).trans (hX2a _);have x33:=hX3.cell (i:=3) rfl;have f33:=hX3.frozen 3))
   all_goals
    have hB3:Below w0.heap.size wr w3:=(((Below.refl w0.heap.size wr).drew.trans (hb2.mono hwz)).alloc hw3 _).grown hgrow (by rw[World.size_alloc];omega) (fun j e=>Xf hown e);have hX4:=hX3.set 3 (.slice (some ⟨gg,0,none⟩) (k+1) cap);have hr4:=ownsRow_setCell_below hown3 (a:=⟨w.heap.size+1,3,none⟩) (show w.heap.size+1<w0.heap.size by omega) (.slice (some ⟨gg,0,none⟩) (k+1) cap);have hb4:=(hbr.trans (hB3.mono (by omega))).setCell (p:=⟨w.heap.size+1,3,none⟩) wz (.slice (some ⟨gg,0,none⟩) (k+1) cap);have hs4:=(hsm.below wz hB3).setCell (a:=⟨w.heap.size+1,3,none⟩) (.inl (Nat.lt_succ_self _)) (.slice (some ⟨gg,0,none⟩) (k+1) cap);obtain⟨W4,hW4⟩:∃W4,w3.setCell ⟨w.heap.size+1,3,none⟩ (.slice (some ⟨gg,0,none⟩) (k+1) cap)=W4:=⟨_,rfl⟩;rw[hW4]at hX4 hr4 hb4 hs4 ⊢;clear hW4 hX3 hX2 hX2a x32 f32 x33 f33 hgrow hown3 hb2 hB3 x3 f3 hX hown;go_wp2_with fail;go_roundw
    case rel=>exact⟨k+1,.slice (some ⟨gg,0,none⟩) (k+1) cap,by omega,by go_num,by rw[HNX.out];exact hr4,hb4,hs4,hX4⟩
    case measure=>simp[intOf];omega
  ·have hge:(qs.length:Int)≤(k:Int):=(by omega);rw[List.take_of_length_le (by omega)]at hown;obtain rfl:k=qs.length:=(by omega);have hRr:=hR1.below hbr (Nat.lt_succ_self _);have x0:=hX.cell (i:=0) rfl;have x1:=hX.cell (i:=1) rfl;have x2:=hX.cell (i:=2) rfl;have x3:=hX.cell (i:=3) rfl;have r0:=hRr.cell (i:=0) rfl;have r1:=hRr.cell (i:=1) rfl;have r2:=hRr.cell (i:=2) rfl;have r3:=hRr.cell (i:=3) rfl;have g0:=hRr.frozen 0;have g1:=hRr.frozen 1;have g2:=hRr.frozen 2;have g3:=hRr.frozen 3;have hRl:=hRr.lt;obtain⟨pv,cv,rfl⟩:∃pv cv,v=.slice pv qs.length cv:=by
    obtain⟨_,h⟩:=hown;rcases h with⟨rfl,h0⟩|⟨g,cap,cur,rfl,_⟩
    ·exact⟨none,0,by rw[h0]⟩
    ·exact⟨_,_,rfl⟩
   have HROW:Hid (wr.ownsRow w0.heap.size 25 2 (.slice pv qs.length cv) qs.length (idCells (qs.map fun p=>(pmore 2166136261 p,(p.length:Int))))):=hown;have hbw:Below w.heap.size w wr:=hbw0.trans (hbr.mono (Nat.le_succ _));have hR0:w.heap.size<w0.heap.size:=(by omega);clear hown hRr;go_wp2_with fail;refine bodyPost_ret (v:=.tuple #[rcpV nm s.size (P:Nat) (.slice pv qs.length cv),.nilIface]) (by simp[results,Tryz.results95,go_sem,r0,r1,r2,r3]) rfl ⟨.slice pv qs.length cv,.nilIface,by rw[HR.out,HPP.out],?_,by rw[HR.out];exact Qp.mkNil _ _ a,(((hbw.setCell (p:=⟨w.heap.size,0,none⟩) wz _).setCell (p:=⟨w.heap.size,1,none⟩) wz _).setCell (p:=⟨w.heap.size,2,none⟩) wz _).setCell (p:=⟨w.heap.size,3,none⟩) wz _⟩;rw[HR.out];refine(Zb.of_row (base:=w0.heap.size) (e:=25) ?_).low (Nat.le_of_lt hR0);rw[List.length_map];exact ownsRow_setCell_below (ownsRow_setCell_below (ownsRow_setCell_below (ownsRow_setCell_below HROW.out (a:=⟨w.heap.size,0,none⟩) hR0 _) (a:=⟨w.heap.size,1,none⟩) hR0 _) (a:=⟨w.heap.size,2,none⟩) hR0 _) (a:=⟨w.heap.size,3,none⟩) hR0 _
theorem Qv6 (a:Nat→Addr)(nm s:ByteArray)(hnm:nm.size≤maxLen)(w:World)(hE:Je [1,3] w a) :
 Calls Tryz.prog 95 #[.string nm,.string s] w fun e w'=>Qfm a nm s w e w':=by
 by_cases h:Qj nm.data.toList=true
 ·by_cases h2:4000<s.size
  ·exact Qru a nm s hnm h h2 w hE
  ·exact Qu4 a nm s hnm h (by omega) w
 ·exact Quy a nm s hnm (by simpa using h) w hE
def Xb (Br:Nat)(W W':World):Prop:=∀b o,W.heap[b]? = some o→b≠Br→W'.heap[b]? = some o
theorem Xb.refl (Br:Nat)(W:World):Xb Br W W:=fun _ _ h _=>h
theorem Xb.trans {Br:Nat}{A B C:World}(h:Xb Br A B)(k:Xb Br B C):Xb Br A C:=fun b o hb hn=>k b o (h b o hb hn) hn
theorem Xb.alloc (Br:Nat)(W:World)(o:Obj):Xb Br W (W.alloc o):=fun b _ hb _=>(Below.heap_alloc W o b (Array.getElem?_eq_some_iff.1 hb).1).trans hb
theorem Xb.setCell (W:World)(a:Addr)(u:Value):Xb a.block W (W.setCell a u):=fun b _ hb hn=>(Below.heap_setCell W a u b hn).trans hb
def Yr (Br:Nat)(W W':World):Prop:=∀b o,W.heap[b]? = some o→o.isCells=true→b≠Br→W'.heap[b]? = some o
theorem Vp {B l:Nat}(A:World)(o:Obj)(h:B≤l):Below B A (A.putObj l o):=⟨rfl,rfl,rfl,by simp,fun k hk=>World.putObj_heap_other (by omega)⟩
def Qt8 {α:Type}(F:Fence)(n:Nat)(P:Program)(g:Nat)(lb:Array Value)(encs:α→Array Value)(Br:Nat)(S:List α→Prop)(N:Nat)(w:World):Prop:=
 ∀(l:Nat) (J:List α→World→Prop) (W:World),Below w.heap.size w W→(∀pre A B,J pre A→Below W.heap.size A B→J pre B) →
  (∀pre x W1,J pre W1→pre.length<N→YieldAt F (n - 1) P l (encs x) W1 fun e W'=>e=.returned (.bool true)∧J (pre++[x]) W'∧Yr Br W1 W') →
  J [] W→CallsIn F n P g (#[.func (.yield l) #[] #[]]++lb) W fun e W'=>(∃v,e=.returned v)∧∃xs,S xs∧J xs W'
theorem Qp0 {α:Type}{F:Fence}{n:Nat}{P:Program}{g:Operand}{ps:Array Tmp}{assign body:Code}{Q:Exit→Act→World→Prop}{a:Act}{w:World}
 (hro:F.round=none)(h1:1≤n){gf:Nat}{lb:Array Value}(hg:a.eval g=.func (.func gf) #[] lb)(hFg:F.fn gf)(eg:∀args w,(callFunc gf args).run P w=.ok (.enter gf args) w)
 {encs:α→Array Value}{Br:Nat}{S:List α→Prop}{N:Nat}{w0:World}(hseq:Qt8 F (n - 1) P gf lb encs Br S N w0)
 (hBr:Br<w.heap.size)(hb0:Below w0.heap.size w0 w)(hps:∀x,(encs x).size=ps.size)
 (I:List α→World→Prop)(hI:∀pre A B,I pre A→Below w.heap.size A B→I pre B)(h0:I [] w)
 (Ax:α→Act→World→Prop)(hAx:∀x a' A l o,(∃r,A.heap[l]? = some (.loop r))→Ax x a' A→Ax x a' (A.putObj l o))
 (hassign:∀(l:Nat) (pre:List α) (x:α) (W:World) (K:Act→World→Prop),w.heap.size≤W.heap.size→I pre W→(∀a' W',Xb Br W W'→I pre W'→Ax x a' W'→K a' W') →
  assign.wpIn (F.inRound l) (n - 1 - 1) P (Exit.then K (fun _ _ _=>False)) { tmps:=(ps.zip (encs x)).foldl (fun t (p,v)=>t.setIfInBounds p v) a.tmps,defers:=[] } W)
 (hbody:∀(l:Nat) (pre:List α) (x:α) (a':Act) (W:World),I pre W→Ax x a' W→pre.length<N→body.wpIn (F.inRound l) (n - 1 - 1) P (fun e _ W'=>e=.normal∧Xb Br W W'∧I (pre++[x]) W') a' W)
 (hdone:∀(D:Nat) (xs:List α) (W:World),w.heap.size≤D→S xs→I xs W→W.heap[D]? = some (.deferred (some []))→Q .normal { a with defers:={ target:=.collected D,args := #[] }::a.defers } W) :
 (Code.rangeFunc g ps assign body).wpIn F n P Q a w:=by
 refine wpIn_rangeFunc ?_;intro fn hfn;rw[hro];obtain⟨lp,hlp⟩:∃lp:LoopState→Loop,lp=fun st=>{ state:=st,pending:=none,fn,tmps:=a.tmps,params:=ps,assign,body,defers:=w.heap.size }:=⟨_,rfl⟩;obtain⟨V,hV⟩:∃V,(w.alloc (.deferred (some []))).alloc (.loop (lp .ready))=V:=⟨_,rfl⟩;have hVs:V.heap.size=w.heap.size+2:=by rw[←hV];simp
 have hVl:V.heap[w.heap.size+1]? = some (.loop (lp .ready)):=by rw[←hV];have:=World.alloc_heap_new (w.alloc (.deferred (some []))) (.loop (lp .ready));rwa [World.size_alloc]at this
 have hVd:V.heap[w.heap.size]? = some (.deferred (some [])):=by rw[←hV];exact(Below.heap_alloc _ _ _ (by simp)).trans (World.alloc_heap_new w _)
 have hVb:Below w.heap.size w V:=by rw[←hV];exact((Below.refl _ w).alloc wz _).alloc (by simp) _
 refine⟨w.heap.size+1,[{ target:=.collected w.heap.size,args := #[] }],V,{ target:=.fn (.func gf) lb,args := #[.func (.yield (w.heap.size+1)) #[] #[]] },V,gf,
  #[.func (.yield (w.heap.size+1)) #[] #[]]++lb,V,?_,?_,?_,?_,fun _=>h1,?_⟩
 ·rw[←hV,hlp];exact run_enterLoop_outer _ _ _ _ _
 ·simp only[resolve,hg];simp[go_sem]
 ·intro f' hf';simp[Target.leads]at hf';subst hf';exact hFg
 ·simp[invoke,go_sem,eg]
 refine(hseq (w.heap.size+1) (fun pre W=>I pre W∧W.heap[w.heap.size+1]? = some (.loop (lp .ready))∧W.heap[w.heap.size]? = some (.deferred (some []))) V (hb0.trans (hVb.mono hb0.size))
  (fun pre A B h hb=>⟨hI pre A B h.1 (hb.mono (by omega)),(hb.block _ (by omega)).trans h.2.1,(hb.block _ (by omega)).trans h.2.2⟩) ?_ ⟨hI [] w V h0 hVb,hVl,hVd⟩).mono ?_
 ·rintro pre x W ⟨hi,hl,hd⟩ hlen;have hlt:w.heap.size+1<W.heap.size:=(Array.getElem?_eq_some_iff.1 hl).1;have hy:=run_yield (P:=P) (args:=encs x) hl (by rw[hlp];exact hps x);rw[hlp]at hy;refine⟨fn,_,assign,body,hy,roundIn_of_wpIn hfn (hassign _ pre x W _ (by omega) hi ?_)⟩;clear hy;intro a' Wa hka hia hax;have hla:=hka _ _ hl (by omega);have hda:=hka _ _ hd (by omega);have hlta:w.heap.size+1<Wa.heap.size:=(Array.getElem?_eq_some_iff.1 hla).1;refine⟨_,run_beginRound hla (by rw[hlp]),?_⟩;refine wpIn_mono (hbody _ pre x a' _ (hI _ _ _ hia (Vp Wa _ (by omega))) (hAx x a' Wa _ _ ⟨_,hla⟩ hax) hlen) ?_;rintro e a3 W3 ⟨rfl,hkb,hi3⟩;have hlb:=hkb _ _ (World.putObj_heap_same hlta) (by omega);have hdb:=hkb _ _ ((World.putObj_heap_other (w:=Wa) (r:=w.heap.size+1) (k:=w.heap.size) (by omega)).trans hda) (by omega);have hr:=run_endRound (P:=P) none hlb;have hlt3:w.heap.size+1<W3.heap.size:=(Array.getElem?_eq_some_iff.1 hlb).1;refine⟨_,_,hr,rfl,⟨hI _ _ _ hi3 (Vp W3 _ (by omega)),?_,(World.putObj_heap_other (by omega)).trans hdb⟩,?_⟩
  ·rw[World.putObj_heap_same hlt3,hlp];rfl
  ·intro b o hb hc hn;have hbl:b≠w.heap.size+1:=fun e=>by subst e;rw[hl]at hb;cases hb;cases hc
   exact(World.putObj_heap_other hbl).trans (hkb _ _ ((World.putObj_heap_other hbl).trans (hka _ _ hb hn)) hn)
 ·rintro e W2 ⟨⟨v,rfl⟩,xs,hS,hi,hl,hd⟩;have he:=run_endLoop (P:=P) hl (by rw[hlp];simp);rw[hlp]at he;exact⟨none,_,he,hdone _ xs _ wz hS (hI _ _ _ hi (Vp W2 _ (by omega))) ((World.putObj_heap_other (by omega)).trans hd)⟩
open Go.RowKit Go.Shelf
attribute [local go_sem] Oper.semAt_some
theorem Yr.blk {Br:Nat}{W W':World}(h:Yr Br W W'){B:Nat}{cs:Array Value}{t:TypeId}(hB:Blk W B cs t)(hn:B≠Br):Blk W' B cs t:=h B _ hB rfl hn
theorem Yr.cell {Br:Nat}{W W':World}(h:Yr Br W W'){b o:Nat}{v:Value}(hc:W.cell? ⟨b,o,none⟩=some v)(hn:b≠Br):W'.cell? ⟨b,o,none⟩=some v:=by
 have hb:∃x,W.heap[b]? = some x∧x.isCells=true:=by
  cases hx:W.heap[b]? with
  | none=>simp[World.cell?,hx]at hc
  | some x=>
   refine⟨x,rfl,?_⟩;cases x with
   | cells=>rfl
   | _=>simp[World.cell?,hx]at hc
 obtain⟨x,hx,hi⟩:=hb;exact(World.cell?_of_block (w:=W) ((h b x hx hi hn).trans hx.symm)).trans hc
def zeroRep:Nat×Int:=(2166136261,0)
def lastOf (l:List (Nat×Int)):Nat×Int:=l.getLastD zeroRep
theorem qj (l:List (Nat×Int))(x:Nat×Int):lastOf (l++[x])=x:=by simp[lastOf]
theorem Qna (n:Nat)(v:Value)(w:World)(p:Option Addr)(k c:Nat)(hv:v=.slice p k c) :
 CallsIn Fence.wide n Tryz.prog 175 #[v] w fun e w'=>e=.returned (.func (.func 236) #[] #[.pointer (some ⟨w.heap.size,0,none⟩)])∧w'=w.alloc (.cells #[v] 38):=by
 subst hv;refine callsIn_of_wp Tryz.func175 rfl trivial ?_ rfl;simp only[Tryz.ntmps175,List.size_toArray,List.length_cons,List.length_nil,Nat.reduceAdd,Nat.reduceSub,Array.replicate_succ,Array.replicate_zero,List.push_toArray,List.append_toArray,List.nil_append,List.cons_append]
 gi_wp2
 go_ret;exact⟨rfl,rfl⟩
theorem Ql8 (n:Nat)(hn:1≤n)(l Bs Br:Nat)(pa:Option Addr)(c:Nat)(ids:List (Nat×Int))(hlen:ids.length≤maxLen)(J:List (Nat×Int)→World→Prop)(W:World)
 (hJ:∀pre A B,J pre A→Below W.heap.size A B→J pre B)
 (hY:∀pre x W1,J pre W1→pre.length<ids.length→YieldAt Fence.wide (n - 1) Tryz.prog l #[idV (x.1:Nat) x.2] W1 fun e W'=>e=.returned (.bool true)∧J (pre++[x]) W'∧Yr Br W1 W')
 (hs:W.cell? ⟨Bs,0,none⟩=some (.slice pa ids.length c))(hBr:Br<W.heap.size)
 (hids:∀i (h:i<ids.length),∃b o,pa=some ⟨b,o,none⟩∧b≠Br∧W.cell? ⟨b,o+i*2,none⟩=some (.int .u32 (ids[i].1:Nat))∧W.cell? ⟨b,o+i*2+1,none⟩=some (.int .i64 ids[i].2))(h0:J [] W) :
 CallsIn Fence.wide n Tryz.prog 236 #[.func (.yield l) #[] #[],.pointer (some ⟨Bs,0,none⟩)] W fun e W'=>(∃v,e=.returned v)∧∃xs,lastOf xs=Zq ids∧J xs W':=by
 have hl2:(ids.length:Int)≤9223372036854775807:=by unfold maxLen at hlen;omega
 have HJ:Hid (∀pre A B,J pre A→Below W.heap.size A B→J pre B):=hJ;have HY:Hid (∀pre x W1,J pre W1→pre.length<ids.length→YieldAt Fence.wide (n - 1) Tryz.prog l #[idV (x.1:Nat) x.2] W1 fun e W'=>e=.returned (.bool true)∧J (pre++[x]) W'∧Yr Br W1 W'):=hY;have hBl:=lt_of_cell hs;have HID:Hid (∀i (h:i<ids.length),∃b o,pa=some ⟨b,o,none⟩∧b≠Br∧b<W.heap.size):=fun i h=>by obtain⟨b,o,h1,h2,h3,_⟩:=hids i h;exact⟨b,o,h1,h2,lt_of_cell h3⟩
 have hal:Below W.heap.size W (W.alloc (.cells #[.int .u32 0,.int .i64 0] 25)):=(Below.refl _ W).alloc wz _;have hL0:=Blk.new W #[.int .u32 0,.int .i64 0] 25;have HIA:Hid (∀i (h:i<ids.length),∃b o,pa=some ⟨b,o,none⟩∧b≠Br∧b<W.heap.size∧(W.alloc (.cells #[.int .u32 0,.int .i64 0] 25)).cell? ⟨b,o+i*2,none⟩=some (.int .u32 (ids[i].1:Nat))∧(W.alloc (.cells #[.int .u32 0,.int .i64 0] 25)).cell? ⟨b,o+i*2+1,none⟩=some (.int .i64 ids[i].2)):=fun i h=>by obtain⟨b,o,h1,h2,h3,h4⟩:=hids i h;exact⟨b,o,h1,h2,lt_of_cell h3,(hal.cell (p:=⟨b,o+i*2,none⟩) (lt_of_cell h3)).trans h3,(hal.cell (p:=⟨b,o+i*2+1,none⟩) (lt_of_cell h4)).trans h4⟩
 have h0':=hJ _ _ _ h0 hal;clear hJ hY hids hlen;refine callsIn_of_wp Tryz.func236 rfl trivial ?_ rfl;simp only[Tryz.ntmps236,List.size_toArray,List.length_cons,List.length_nil,Nat.reduceAdd,Nat.reduceSub,Array.replicate_succ,Array.replicate_zero,List.push_toArray,List.append_toArray,List.nil_append,List.cons_append]
 gi_wp2
 gi_loopw [8] (fun i wr=>∃(k:Nat) (pre:List (Nat×Int)) (m:Nat×Int),k≤ids.length∧i=.int .i64 k∧pre.length≤k∧lastOf pre=Zq (ids.take k)∧(1≤k→m=Zq (ids.take k))∧Blk wr W.heap.size #[.int .u32 (m.1:Nat),.int .i64 m.2] 25 ∧
  (∀i (h:i<ids.length),∃b o,pa=some ⟨b,o,none⟩∧b≠Br∧b<W.heap.size∧wr.cell? ⟨b,o+i*2,none⟩=some (.int .u32 (ids[i].1:Nat))∧wr.cell? ⟨b,o+i*2+1,none⟩=some (.int .i64 ids[i].2))∧J pre wr) (fun i _=>ids.length - (intOf i).toNat)
 case atStart=>exact⟨0,[],(0,0),Nat.zero_le _,rfl,wz,rfl,fun h=>by omega,hL0,HIA.out,h0'⟩
 case round=>
  clear hL0 h0 h0' hs hal HIA;obtain⟨k,pre,m,hk,rfl,hpl,hlast,hm,hL,hcell,hJp⟩:=hrel;have HLA:Hid (lastOf pre=Zq (ids.take k)):=hlast;have HM:Hid (1≤k→m=Zq (ids.take k)):=hm;have HPL:Hid (pre.length≤k):=hpl;have HC:Hid (∀i (h:i<ids.length),∃b o,pa=some ⟨b,o,none⟩∧b≠Br∧b<W.heap.size∧wr.cell? ⟨b,o+i*2,none⟩=some (.int .u32 (ids[i].1:Nat))∧wr.cell? ⟨b,o+i*2+1,none⟩=some (.int .i64 ids[i].2)):=hcell;clear hlast hm hpl hcell;by_cases hlt:k<ids.length
  ·have hlt':(k:Int)<(ids.length:Int):=(by omega);obtain⟨b,o,rfl,hbr,hbw,hc0,hc1⟩:=HC.out k hlt;have HRN:Hid (1≤k→Zq (ids.take (k+1))=lesser (Zq (ids.take k)) ids[k]):=fun h=>Qfj ids k hlt h;have HR1:Hid (k=0→Zq (ids.take (k+1))=ids[k]):=fun h=>by
    subst h;cases ids with
    | nil=>simp at hlt
    | cons x r=>rfl
   obtain⟨y,hy⟩:∃y,ids[k]=y:=⟨_,rfl⟩;rw[hy]at hc0 hc1 HRN HR1;clear hy;have hLl:=hL.lt;have q0:=hL.cell (i:=0) rfl;have q1:=hL.cell (i:=1) rfl;have g0:=hL.frozen 0;have g1:=hL.frozen 1;have hLn:W.heap.size≠wr.heap.size:=(by omega);have hwz:W.heap.size≤wr.heap.size:=(by omega);have hpk:pre.length<ids.length:=(by have:=HPL.out;omega);have HW:Hid (∀V,Below wr.heap.size wr V→(Blk ((V.setCell ⟨W.heap.size,0,none⟩ (.int .u32 (y.1:Nat))).setCell ⟨W.heap.size,1,none⟩ (.int .i64 y.2)) W.heap.size #[.int .u32 (y.1:Nat),.int .i64 y.2] 25)∧Below W.heap.size wr ((V.setCell ⟨W.heap.size,0,none⟩ (.int .u32 (y.1:Nat))).setCell ⟨W.heap.size,1,none⟩ (.int .i64 y.2))):=fun V hb=>
    ⟨((hL.next hb).set 0 (.int .u32 (y.1:Nat))).set 1 (.int .i64 y.2),(((Below.refl W.heap.size wr).trans (hb.mono hwz)).setCell (p:=⟨W.heap.size,0,none⟩) wz _).setCell (p:=⟨W.heap.size,1,none⟩) wz _⟩
   have HN:Hid (∀V W3,Below W.heap.size wr V→Yr Br V W3→∀i (h:i<ids.length),∃b' o',(some ⟨b,o,none⟩:Option Addr)=some ⟨b',o',none⟩∧b'≠Br∧b'<W.heap.size∧W3.cell? ⟨b',o'+i*2,none⟩=some (.int .u32 (ids[i].1:Nat))∧W3.cell? ⟨b',o'+i*2+1,none⟩=some (.int .i64 ids[i].2)):=fun V W3 hb hk i hi=>by obtain⟨b',o',h1,h2,h3,h4,h5⟩:=HC.out i hi;exact⟨b',o',h1,h2,h3,hk.cell ((hb.cell (p:=⟨b',o'+i*2,none⟩) h3).trans h4) h2,hk.cell ((hb.cell (p:=⟨b',o'+i*2+1,none⟩) h3).trans h5) h2⟩
   have HS:Hid (∀V,Below W.heap.size wr V→∀i (h:i<ids.length),∃b' o',(some ⟨b,o,none⟩:Option Addr)=some ⟨b',o',none⟩∧b'≠Br∧b'<W.heap.size∧V.cell? ⟨b',o'+i*2,none⟩=some (.int .u32 (ids[i].1:Nat))∧V.cell? ⟨b',o'+i*2+1,none⟩=some (.int .i64 ids[i].2)):=fun V hb i hi=>by obtain⟨b',o',h1,h2,h3,h4,h5⟩:=HC.out i hi;exact⟨b',o',h1,h2,h3,(hb.cell (p:=⟨b',o'+i*2,none⟩) h3).trans h4,(hb.cell (p:=⟨b',o'+i*2+1,none⟩) h3).trans h5⟩
   have hLB:W.heap.size≠Br:=(by omega);have hal:Below wr.heap.size wr (wr.alloc (.cells #[.int .u32 (y.1:Nat),.int .i64 y.2] 25)):=(Below.refl _ wr).alloc wz _;by_cases hk0:k=0
   ·have hz:¬(0:Int)<(k:Int):=(by omega);have HRR:Hid (Zq (ids.take (k+1))=y):=HR1.out hk0;clear hk0
    gi_wp2
    refine⟨trivial,?_⟩;have hI0:=Blk.new wr #[.int .u32 (y.1:Nat),.int .i64 y.2] 25;obtain⟨V,hV⟩:∃V,wr.alloc (.cells #[.int .u32 (y.1:Nat),.int .i64 y.2] 25)=V:=⟨_,rfl⟩;rw[hV]at hI0 hal ⊢;obtain⟨Bi,hBi⟩:∃Bi,wr.heap.size=Bi:=⟨_,rfl⟩;rw[hBi]at hI0 hLn ⊢;have i0:=hI0.cell (i:=0) rfl;have i1:=hI0.cell (i:=1) rfl;have hLV:=hL.next hal;have u0:=hLV.cell (i:=0) rfl;have u1:=hLV.cell (i:=1) rfl;have v0:=hLV.frozen 0;have v1:=hLV.frozen 1;have hVl:=hLV.lt;obtain⟨hLy,hBy⟩:=HW.out V hal;obtain⟨fn,tmps,assign,body,hy,hR⟩:=HY.out pre y _ (HJ.out _ _ _ hJp hBy) hpk;dsimp only[idV]at hy;have HLY:Hid (Blk ((V.setCell ⟨W.heap.size,0,none⟩ (.int .u32 (y.1:Nat))).setCell ⟨W.heap.size,1,none⟩ (.int .i64 y.2)) W.heap.size #[.int .u32 (y.1:Nat),.int .i64 y.2] 25):=hLy;have HBY:Hid (Below W.heap.size wr ((V.setCell ⟨W.heap.size,0,none⟩ (.int .u32 (y.1:Nat))).setCell ⟨W.heap.size,1,none⟩ (.int .i64 y.2))):=hBy;clear hLy hBy hV hLV hI0 hal hBi q0 q1 g0 g1 hc0 hc1 hL hJp
    gi_wp2
    refine hR.mono ?_;rintro e W3 ⟨rfl,hJ3,hk3⟩
    gi_wp2
    go_roundw
    case rel=>exact⟨k+1,pre++[y],y,by omega,by go_num,by have:=HPL.out;simp;omega,by rw[qj,HRR.out],fun _=>HRR.out.symm,hk3.blk HLY.out hLB,HN.out _ _ HBY.out hk3,hJ3⟩
    case measure=>simp[intOf];omega
   ·have hz:(0:Int)<(k:Int):=(by omega);obtain rfl:=HM.out (by omega);have HRR:Hid (Zq (ids.take (k+1))=lesser (Zq (ids.take k)) y):=HRN.out (by omega);clear hk0;generalize Zq (ids.take k)=m at *;have hI0:=Blk.new wr #[.int .u32 (y.1:Nat),.int .i64 y.2] 25;obtain⟨Lb,hLb⟩:∃Lb,(if (y.1:Int)=(m.1:Int) then decide (y.2<m.2) else decide ((y.1:Int)<(m.1:Int)))=Lb:=⟨_,rfl⟩
    have HLB:Hid ((if (y.1:Int)=(m.1:Int) then decide (y.2<m.2) else decide ((y.1:Int)<(m.1:Int)))=Lb):=hLb
    have HLS:Hid (lesser m y=if Lb=true then y else m):=(by show _=_;unfold lesser Qo;rw[hLb])
    clear hLb;cases Lb with
    | true=>
     gi_wp2_with (refine⟨trivial,?_⟩;gi_at_call 110;refine(callsIn_wide.2 (Kn _ _ _ _ _)).mono ?_;rintro e w1 ⟨rfl,hb1⟩;rw[HLB.out];have hB1:Below wr.heap.size wr w1:=hal.trans (hb1.mono hal.size);have hI1:=hI0.next hb1;have i0:=hI1.cell (i:=0) rfl;have i1:=hI1.cell (i:=1) rfl;have hLV:=hL.next hB1;have u0:=hLV.cell (i:=0) rfl;have u1:=hLV.cell (i:=1) rfl;have v0:=hLV.frozen 0;have v1:=hLV.frozen 1;have hVl:=hLV.lt;obtain⟨hLy,hBy⟩:=HW.out w1 hB1;obtain⟨fn,tmps,assign,body,hy,hR⟩:=HY.out pre y _ (HJ.out _ _ _ hJp hBy) hpk;dsimp only[idV]at hy);refine hR.mono ?_;rintro e W3 ⟨rfl,hJ3,hk3⟩;have HLY:Hid (Blk W3 W.heap.size #[.int .u32 (y.1:Nat),.int .i64 y.2] 25):=hk3.blk hLy hLB;have HNN:=HN.out _ _ hBy hk3;have HN2:Hid (∀i (h:i<ids.length),∃b' o',(some ⟨b,o,none⟩:Option Addr)=some ⟨b',o',none⟩∧b'≠Br∧b'<W.heap.size∧W3.cell? ⟨b',o'+i*2,none⟩=some (.int .u32 (ids[i].1:Nat))∧W3.cell? ⟨b',o'+i*2+1,none⟩=some (.int .i64 ids[i].2)):=HNN;clear hLy hBy hLV hI1 hI0 hal q0 q1 g0 g1 hc0 hc1 hL hJp hb1 hB1 HNN hk3 i0 i1 u0 u1 v0 v1
     gi_wp2
     go_roundw
     case rel=>exact⟨k+1,pre++[y],y,by omega,by go_num,by have:=HPL.out;simp;omega,by rw[qj,HRR.out,HLS.out];rfl,fun _=>by rw[HRR.out,HLS.out];rfl,HLY.out,HN2.out,hJ3⟩
     case measure=>simp[intOf];omega
    | false=>
     gi_wp2_with (refine⟨trivial,?_⟩;gi_at_call 110;refine(callsIn_wide.2 (Kn _ _ _ _ _)).mono ?_;rintro e w1 ⟨rfl,hb1⟩;rw[HLB.out];have hB1:Below wr.heap.size wr w1:=hal.trans (hb1.mono hal.size);have hLV:=hL.next hB1);have hBW:Below W.heap.size wr w1:=hB1.mono hwz;have hJ1:=HJ.out _ _ _ hJp hBW;have HS1:=HS.out _ hBW;go_roundw
     case rel=>exact⟨k+1,pre,m,by omega,by go_num,by have:=HPL.out;omega,by rw[HLA.out,HRR.out,HLS.out];rfl,fun _=>by rw[HRR.out,HLS.out];rfl,hLV,HS1,hJ1⟩
     case measure=>simp[intOf];omega
  ·have hge:(ids.length:Int)≤(k:Int):=by omega
   gi_wp2
   go_end0
   refine⟨⟨_,rfl⟩,pre,?_,hJp⟩;have:=HLA.out;rwa [List.take_of_length_le (by omega)]at this
def Qvf (w:World)(R Br:Nat)(pre:List (Nat×Int))(W:World):Prop:=
 Below w.heap.size w W∧Blk W R #[.int .u32 0,.int .i64 0] 25∧Blk W Br #[.int .u32 ((lastOf pre).1:Nat),.int .i64 (lastOf pre).2] 25
theorem Ga (nm:ByteArray)(len p:Int)(v:Value)(ids:List (Nat×Int))(w:World)(hv:Q3 w v ids)(hlen:ids.length≤maxLen) :
 Calls Tryz.prog 96 #[rcpV nm len p v] w fun e w'=>e=.returned (idV ((Zq ids).1:Nat) (Zq ids).2)∧Below w.heap.size w w':=by
 obtain⟨pa,c,rfl,hcell⟩:=hv;have HC:Hid (∀W',Below w.heap.size w W'→∀i (h:i<ids.length),∃b o,pa=some ⟨b,o,none⟩∧b<w.heap.size∧W'.cell? ⟨b,o+i*2,none⟩=some (.int .u32 (ids[i].1:Nat))∧W'.cell? ⟨b,o+i*2+1,none⟩=some (.int .i64 ids[i].2)):=fun W' hb i hi=>by obtain⟨b,o,hp,hlt,h1,h2⟩:=hcell i hi;exact⟨b,o,hp,hlt,(hb.cell (p:=⟨b,o+i*2,none⟩) hlt).trans h1,(hb.cell (p:=⟨b,o+i*2+1,none⟩) hlt).trans h2⟩
 have HLEN:Hid (ids.length≤maxLen):=hlen;clear hcell hlen;refine(callsIn_wide (n:=8)).1 ?_;refine callsIn_of_wp_marks Tryz.func96 rfl trivial ?_ rfl;simp only[Tryz.ntmps96,List.size_toArray,List.length_cons,List.length_nil,Nat.reduceAdd,Nat.reduceSub,Array.replicate_succ,Array.replicate_zero,List.push_toArray,List.append_toArray,List.nil_append,List.cons_append];gi_wp2_with (first|(refine⟨trivial,?_⟩;gi_at_call 168;refine(callsIn_wide.2 (Y0 ⟨#[]⟩ _ (by unfold maxLen;decide))).mono ?_;rintro e w1 ⟨rfl,hb1⟩;have hX1:=((Blk.new w #[.string nm,.int .i64 len,.int .u32 p,.slice pa ids.length c] 40).next ((Below.refl _ _).alloc wz (.cells #[.int .u32 0,.int .i64 0] 25))).next hb1;have x3:=hX1.cell (i:=3) rfl;have hXl:=hX1.lt)|(refine⟨trivial,?_⟩;gi_at_call 175;refine(Qna _ _ _ pa ids.length c rfl).mono ?_;rintro e w2 ⟨rfl,rfl⟩));have hz:pmore 2166136261 []=2166136261:=Ue _;rw[hz];have hR1:=(Blk.new (w.alloc (.cells #[.string nm,.int .i64 len,.int .u32 p,.slice pa ids.length c] 40)) #[.int .u32 0,.int .i64 0] 25).next hb1;rw[World.size_alloc]at hR1;have hB1:Below w.heap.size w w1:=(((Below.refl _ w).alloc wz (.cells #[.string nm,.int .i64 len,.int .u32 p,.slice pa ids.length c] 40)).alloc (by simp) (.cells #[.int .u32 0,.int .i64 0] 25)).trans (hb1.mono (by simp;omega));have hal1:Below w1.heap.size w1 (w1.alloc (.cells #[.int .u32 (2166136261:Nat),.int .i64 0] 25)):=(Below.refl _ w1).alloc wz _;have hQ1:=Blk.new w1 #[.int .u32 (2166136261:Nat),.int .i64 0] 25;have hal2:=(Below.refl (w1.alloc (.cells #[.int .u32 (2166136261:Nat),.int .i64 0] 25)).heap.size (w1.alloc (.cells #[.int .u32 (2166136261:Nat),.int .i64 0] 25))).alloc wz (.cells #[.slice pa ids.length c] 38);have hQ2:=hQ1.next hal2;have hS2:=Blk.new (w1.alloc (.cells #[.int .u32 (2166136261:Nat),.int .i64 0] 25)) #[.slice pa ids.length c] 38;rw[World.size_alloc]at hS2;have hR2:=(hR1.next hal1).next hal2;have hB2:Below w.heap.size w ((w1.alloc (.cells #[.int .u32 (2166136261:Nat),.int .i64 0] 25)).alloc (.cells #[.slice pa ids.length c] 38)):=(hB1.trans (hal1.mono hB1.size)).trans (hal2.mono (Nat.le_trans hB1.size hal1.size));have hsz:((w1.alloc (.cells #[.int .u32 (2166136261:Nat),.int .i64 0] 25)).alloc (.cells #[.slice pa ids.length c] 38)).heap.size=w1.heap.size+2:=by simp
 obtain⟨V,hV⟩:∃V,(w1.alloc (.cells #[.int .u32 (2166136261:Nat),.int .i64 0] 25)).alloc (.cells #[.slice pa ids.length c] 38)=V:=⟨_,rfl⟩;have hRl:=hR1.lt;have hwz:w.heap.size≤w1.heap.size:=hB1.size;rw[hV]at hQ2 hS2 hR2 hB2 hsz ⊢;clear hV hal1 hal2 hQ1 hR1 hX1 x3 hXl hb1;have hI0:Qvf w (w.heap.size+1) w1.heap.size [] V:=⟨hB2,hR2,hQ2⟩;have hstab:∀(pre:List (Nat×Int)) (A B:World),Qvf w (w.heap.size+1) w1.heap.size pre A→Below V.heap.size A B→Qvf w (w.heap.size+1) w1.heap.size pre B:=fun pre A B h hb=>⟨h.1.trans (hb.mono (by omega)),h.2.1.below hb (by omega),h.2.2.below hb (by omega)⟩;have hseq:Qt8 Fence.wide (8 - 1) Tryz.prog 236 #[.pointer (some ⟨w1.heap.size+1,0,none⟩)] (fun x:Nat×Int => #[idV (x.1:Nat) x.2]) w1.heap.size (fun xs=>lastOf xs=Zq ids) ids.length V:=fun l J W hW hJ hY h0=>by have hBW:Below w.heap.size w W:=hB2.trans (hW.mono (by omega));refine Ql8 (8 - 1) (by decide) l (w1.heap.size+1) w1.heap.size pa c ids HLEN.out J W hJ hY ((hS2.next hW).cell (i:=0) rfl) (by have:=hW.size;omega) (fun i hi => ?_) h0;obtain⟨b,o,h1,h2,h3,h4⟩:=HC.out W hBW i hi;exact⟨b,o,h1,by omega,h3,h4⟩
 refine Qp0 rfl (by decide) (gf:=236) (lb := #[.pointer (some ⟨w1.heap.size+1,0,none⟩)]) rfl trivial (enters_of Tryz.func236 (by kernel_rfl) rfl) hseq (by omega) (Below.refl _ _) (fun _=>rfl)
  (Qvf w (w.heap.size+1) w1.heap.size) hstab hI0
  (fun x a' W=>∃Bx,V.heap.size≤Bx∧Blk W Bx #[.int .u32 (x.1:Nat),.int .i64 x.2] 25∧a'={ tmps := #[rcpV nm len p (.slice pa ids.length c),.pointer (some ⟨w.heap.size,0,none⟩),.pointer (some ⟨w.heap.size+1,0,none⟩),.pointer (some ⟨w1.heap.size,0,none⟩),.pointer (some ⟨Bx,0,none⟩),idV (2166136261:Nat) 0,.pointer (some ⟨w.heap.size,3,none⟩),.slice pa ids.length c,.func (.func 236) #[] #[.pointer (some ⟨w1.heap.size+1,0,none⟩)],idV (x.1:Nat) x.2,undef,undef],defers:=[] }) ?ax ?assign ?body ?done
 case ax=>
  rintro x a' A l o ⟨r,hr⟩ ⟨Bx,h1,h2,h3⟩;refine⟨Bx,h1,(World.putObj_heap_other (fun e => ?_)).trans h2,h3⟩;subst e;have:A.heap[Bx]? = some (.cells #[.int .u32 (x.1:Nat),.int .i64 x.2] 25 (0,0)):=h2;rw[hr]at this;cases this
 case assign=>
  intro l pre x W K hW hi hK
  gi_wp2
  exact hK _ _ (Xb.alloc _ _ _) (hstab _ _ _ hi ((Below.refl _ W).alloc hW _)) ⟨W.heap.size,hW,Blk.new W _ _,rfl⟩
 case body=>
  rintro l pre x a' W ⟨hi1,hi2,hi3⟩ ⟨Bx,hBx,hX,rfl⟩ _;have x0:=hX.cell (i:=0) rfl;have x1:=hX.cell (i:=1) rfl;have q0:=hi3.cell (i:=0) rfl;have q1:=hi3.cell (i:=1) rfl;have g0:=hi3.frozen 0;have g1:=hi3.frozen 1
  gi_wp2
  refine⟨(Xb.setCell W ⟨w1.heap.size,0,none⟩ _).trans (Xb.setCell _ ⟨w1.heap.size,1,none⟩ _),(hi1.setCell (p:=⟨w1.heap.size,0,none⟩) hwz _).setCell (p:=⟨w1.heap.size,1,none⟩) hwz _,(hi2.other (a:=⟨w1.heap.size,0,none⟩) (show w.heap.size+1≠w1.heap.size by omega) _).other (a:=⟨w1.heap.size,1,none⟩) (show w.heap.size+1≠w1.heap.size by omega) _,?_⟩;rw[qj];exact(hi3.set 0 (.int .u32 (x.1:Nat))).set 1 (.int .i64 x.2)
 case done=>
  rintro D xs W hD hS ⟨hi1,hi2,hi3⟩ hd;have hS':lastOf xs=Zq ids:=hS;rw[hS']at hi3;obtain⟨m,hm⟩:∃m,Zq ids=m:=⟨_,rfl⟩;have HM:Hid (Zq ids=m):=hm;rw[hm]at hi3;clear hm hS hS';have q0:=hi3.cell (i:=0) rfl;have q1:=hi3.cell (i:=1) rfl;have r0:=hi2.cell (i:=0) rfl;have r1:=hi2.cell (i:=1) rfl;have g0:=hi2.frozen 0;have g1:=hi2.frozen 1;have hR4:=(hi2.set 0 (.int .u32 (m.1:Nat))).set 1 (.int .i64 m.2);have hb4:=(hi1.setCell (p:=⟨w.heap.size+1,0,none⟩) (Nat.le_succ _) (.int .u32 (m.1:Nat))).setCell (p:=⟨w.heap.size+1,1,none⟩) (Nat.le_succ _) (.int .i64 m.2);have hd4:((W.setCell ⟨w.heap.size+1,0,none⟩ (.int .u32 (m.1:Nat))).setCell ⟨w.heap.size+1,1,none⟩ (.int .i64 m.2)).heap[D]? = some (.deferred (some [])):=(Below.heap_setCell _ ⟨w.heap.size+1,1,none⟩ _ D (show D≠w.heap.size+1 by omega)).trans ((Below.heap_setCell _ ⟨w.heap.size+1,0,none⟩ _ D (show D≠w.heap.size+1 by omega)).trans hd)
  gi_wp2
  refine⟨by simp,.inl ⟨_,_,rfl,run_takeDeferred hd4,?_⟩⟩;have hR5:Blk (((W.setCell ⟨w.heap.size+1,0,none⟩ (.int .u32 (m.1:Nat))).setCell ⟨w.heap.size+1,1,none⟩ (.int .i64 m.2)).putObj D (.deferred none)) (w.heap.size+1) #[.int .u32 (m.1:Nat),.int .i64 m.2] 25:=(World.putObj_heap_other (show w.heap.size+1≠D by omega)).trans hR4;have c0:=hR5.cell (i:=0) rfl;have c1:=hR5.cell (i:=1) rfl;refine⟨idV (m.1:Nat) m.2,by simp[results,Tryz.results96,go_sem,c0,c1],by rw[HM.out],hb4.trans (Vp _ _ (by omega))⟩
end Go.Proofs.YtjngnnbondejaabGreatDoor
