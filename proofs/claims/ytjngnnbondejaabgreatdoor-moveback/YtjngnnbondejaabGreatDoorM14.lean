/- A part. -/
import Derived.Test.YtjngnnbondejaabGreatDoorM10
set_option maxHeartbeats 4000000
set_option maxRecDepth 100000
namespace Go.Proofs.YtjngnnbondejaabGreatDoor
open Go.RowKit
theorem index_one (a b:List UInt8)(c:UInt8)(h:c ∉ a):Lib.index (a++c::b) [c]=(a.length:Int):=by
 induction a with
 | nil=>simp[Lib.index]
 | cons x r ih=>
  have hx:c≠x:=fun e=>h (by rw[e];exact List.mem_cons_self ..);have hr:=ih (fun e=>h (List.mem_cons_of_mem _ e));rw[List.cons_append,Lib.index,hr];have h1:([c].isPrefixOf (x::(r++c::b)))=false:=by simp[List.isPrefixOf,hx]
  have h2:((r.length:Int)==-1)=false:=by rw[beq_eq_false_iff_ne];omega
  rw[h1,h2];simp
theorem V8 (a b:List UInt8)(c:UInt8)(h:c ∉ a):Lib.cut (a++c::b) [c]=(a,b,true):=by
 unfold Lib.cut;rw[index_one a b c h,if_pos (by omega)];have e:((a.length:Int)).toNat=a.length:=by omega
 rw[e];simp
theorem Qrg:∀d:Fin 16,hexDig d.val≠10∧hexDig d.val≠32:=by decide
theorem Qgn (n k:Nat):∀c∈hexLast n k,c≠10∧c≠32:=by
 induction k generalizing n with
 | zero=>intro c hc;simp[hexLast]at hc
 | succ k ih=>
  intro c hc;rw[hexLast]at hc;rcases List.mem_append.1 hc with hc|hc
  ·exact ih _ c hc
  ·rw[List.mem_singleton.1 hc];exact Qrg ⟨n % 16,Nat.mod_lt _ (by decide)⟩
theorem Qk6:∀(l:List UInt8) (n m:Nat),undec n l=some m→∀c∈l,c≠10∧c≠32
 | [],_,_,_=>fun c hc=>by simp at hc
 | x::r,n,m,h=>fun c hc=>by
  rw[undec]at h;cases hx:undec1 x with
  | none=>rw[hx]at h;simp at h
  | some d=>
   rw[hx]at h;rcases List.mem_cons.1 hc with rfl|hc
   ·refine⟨fun e => ?_,fun e => ?_⟩<;>(subst e;cases hx)
   ·exact Qk6 r _ m h c hc
theorem Qe4 (u:Nat):∀c∈Lib.decDigits u,c≠10∧c≠32:=Qk6 _ _ _ (K4 u)
theorem Qdt (n l:Nat):∀c∈idText n l,c≠10∧c≠32:=fun c hc=>by
 rw[idText]at hc;rcases List.mem_append.1 hc with hc|hc
 ·exact Qgn _ _ c hc
 ·rcases List.mem_cons.1 hc with rfl|hc
  ·decide
  ·exact Qe4 _ c hc
def Qes (h:Hd):List UInt8:=idText h.1.1 h.1.2.toNat++32::Lib.decDigits h.2.1.toNat
def Ub (h:Hd):List UInt8:=Qes h++10::(h.2.2++[10])
def Qu (l:List Hd):List UInt8:=(l.map Ub).flatten
theorem Qt6 (h:Hd):(10:UInt8) ∉ Qes h:=fun hc=>by
 rw[Qes]at hc;rcases List.mem_append.1 hc with hc|hc
 ·exact(Qdt _ _ _ hc).1 rfl
 ·rcases List.mem_cons.1 hc with e|hc
  ·revert e;decide
  ·exact(Qe4 _ _ hc).1 rfl
theorem Qs9 (h:Hd)(r:List UInt8):Lib.cut (Ub h++r) [10]=(Qes h,h.2.2++10::r,true):=by
 have e:Ub h++r=Qes h++10::(h.2.2++10::r):=by simp[Ub]
 rw[e];exact V8 _ _ _ (Qt6 h)
theorem Qt2 (h:Hd):Lib.cut (Qes h) [32]=(idText h.1.1 h.1.2.toNat,Lib.decDigits h.2.1.toNat,true):=
 V8 _ _ _ (fun hc=>(Qdt _ _ _ hc).2 rfl)
theorem Qla (l:List Hd)(k:Nat)(h:k<l.length):Qu (l.take (k+1))=Qu (l.take k)++Ub l[k]:=by
 rw[List.take_succ_eq_append_getElem h,Qu,List.map_append,List.flatten_append];simp[Qu]
theorem Qkh (l:List Hd)(k:Nat)(h:k<l.length):Qu (l.drop k)=Ub l[k]++Qu (l.drop (k+1)):=by
 rw[List.drop_eq_getElem_cons h,Qu,List.map_cons,List.flatten_cons];rfl
theorem below_drewN {n:Nat}(w:World)(k:Nat):Below n w (w.drewN k):=⟨rfl,rfl,rfl,wz,fun _ _=>rfl⟩
def Qwi (w:World)(l:List Hd)(e:Ending)(w':World):Prop:=∃n:Int,e=.returned (.int .i64 n)∧w'=w∧(n=0∨n=1)∧(n=0→(l.length≤40∨l.length=251)∧∀i (h:i<l.length),l[i].2.2.length≤100)
def Z6 (l:List Hd)(i:Nat):Int:=
 match l[i]? with
 | none=>0
 | some h=>if Qc h.2.2≠h.1 then 9 else if i=0 then 0 else
  match l[i - 1]? with
  | none=>0
  | some g=>if Qo g.1 h.1=true then 0 else 8
theorem Qn7 (s:List UInt8)(c:UInt8)(h:c ∉ s):Lib.index s [c]=-1:=by
 induction s with
 | nil=>rfl
 | cons x r ih=>
  have hx:c≠x:=fun e=>h (by rw[e];exact List.mem_cons_self ..);have h1:([c].isPrefixOf (x::r))=false:=by simp[List.isPrefixOf,hx]
  rw[Lib.index,ih (fun e=>h (List.mem_cons_of_mem _ e)),h1];rfl
theorem Qk7 (s:List UInt8)(c:UInt8)(h:c ∉ s):Lib.cut s [c]=(s,[],false):=by
 unfold Lib.cut;rw[Qn7 s c h,if_neg (by decide)]
theorem Qix {t:List UInt8}{x:Nat×Nat}(h:idRead t=some x):x.1<4294967296:=by
 unfold idRead at h;split at h
 ·cases h
 ·rename_i hn
  split at h
  ·rename_i n m hu _
   cases h;have hl:=Qf9 _ _ _ hu;have h8:(t.take 8).length=8:=(by rw[List.length_take];omega);rw[h8]at hl;simpa using hl
  ·cases h
def Qea (a r:List UInt8):Option (Hd×List UInt8):=
 match idRead (Lib.cut a [32]).1,numOf (Lib.cut a [32]).2.1 6 with
 | some x,some u=>if r[x.2]? = some 10 then some (((x.1,(x.2:Int)),(u:Int),r.take x.2),r.drop (x.2+1)) else none
 | _,_=>none
def X8 (s:List UInt8):Option (Hd×List UInt8):=Qea (Lib.cut s [10]).1 (Lib.cut s [10]).2.1
theorem Qm1 (a:List UInt8):Qea a []=none:=by
 unfold Qea;split
 ·simp
 ·rfl
theorem Qeu (s:List UInt8)(h:(10:UInt8) ∉ s):X8 s=none:=by
 unfold X8;rw[Qk7 s 10 h];exact Qm1 _
theorem Qd7 (a r:List UInt8)(h:(10:UInt8) ∉ a):X8 (a++10::r)=Qea a r:=by
 unfold X8;rw[V8 a r 10 h]
theorem Qn4 {a r:List UInt8}{x:Hd×List UInt8}(h:Qea a r=some x):x.2.length<r.length:=by
 unfold Qea at h;split at h
 ·split at h
  ·rename_i y u _ _ hr
   cases h;obtain⟨hlt,_⟩:=List.getElem?_eq_some_iff.1 hr;simp only[List.length_drop];omega
  ·cases h
 ·cases h
theorem Kt {s:List UInt8}{x:Hd×List UInt8}(h:X8 s=some x):x.2.length<s.length:=by
 by_cases hm:(10:UInt8)∈s
 ·obtain⟨p,q,rfl,hp⟩:=List.eq_append_cons_of_mem hm;rw[Qd7 p q hp]at h;have:=Qn4 h;simp;omega
 ·rw[Qeu s hm]at h;cases h
theorem Qlh {s:List UInt8}{x:Hd×List UInt8}(h:X8 s=some x):x.1.1.1<4294967296∧x.1.1.2=(x.1.2.2.length:Int)∧0≤x.1.2.1∧x.1.2.2.length≤s.length:=by
 by_cases hm:(10:UInt8)∈s
 ·obtain⟨p,q,rfl,hp⟩:=List.eq_append_cons_of_mem hm;rw[Qd7 p q hp]at h;unfold Qea at h;split at h
  ·split at h
   ·rename_i y u hy _ hr
    cases h;obtain⟨hlt,_⟩:=List.getElem?_eq_some_iff.1 hr;refine⟨Qix hy,?_,by simp,?_⟩
    ·simp only[List.length_take];omega
    ·simp only[List.length_take,List.length_append,List.length_cons];omega
   ·cases h
  ·cases h
 ·rw[Qeu s hm]at h;cases h
def hReadN:Nat→List Hd→List UInt8→List Hd×Int×Int
 | 0,l,_=>(l,0,-1)
 | n+1,l,s=>if s=[] then (l,0,-1) else
  match X8 s with
  | none=>([],1,(l.length:Int))
  | some x=>if Z6 (l++[x.1]) l.length=0 then hReadN n (l++[x.1]) x.2 else ([],Z6 (l++[x.1]) l.length,(l.length:Int))
theorem Qd8:∀(n m:Nat) (l:List Hd) (s:List UInt8),s.length≤n→s.length≤m→hReadN n l s=hReadN m l s
 | 0,m,l,s,hn,_=>by have:s=[]:=List.length_eq_zero_iff.1 (by omega);subst this;cases m<;>simp[hReadN]
 | n+1,0,l,s,_,hm=>by have:s=[]:=List.length_eq_zero_iff.1 (by omega);subst this;simp[hReadN]
 | n+1,m+1,l,s,hn,hm=>by
  rw[hReadN,hReadN];split
  ·rfl
  ·split
   ·rfl
   ·rename_i x hx
    have:=Kt hx;rw[Qd8 n m (l++[x.1]) x.2 (by omega) (by omega)]
def Yz (l:List Hd)(s:List UInt8):List Hd×Int×Int:=hReadN (s.length+1) l s
theorem Qgw (l:List Hd):Yz l []=(l,0,-1):=by
 unfold Yz;rw[hReadN,if_pos rfl]
theorem Qkc (l:List Hd)(s:List UInt8)(h0:s≠[])(h:X8 s=none):Yz l s=([],1,(l.length:Int)):=by
 unfold Yz;rw[hReadN,if_neg h0,h]
theorem Qms (l:List Hd)(s:List UInt8)(x:Hd×List UInt8)(h:X8 s=some x)(he:Z6 (l++[x.1]) l.length≠0):Yz l s=([],Z6 (l++[x.1]) l.length,(l.length:Int)):=by
 have h0:s≠[]:=fun e=>by have:=Kt h;rw[e]at this;simp at this
 unfold Yz;rw[hReadN,if_neg h0,h];simp only;rw[if_neg he]
theorem Qem (l:List Hd)(s:List UInt8)(x:Hd×List UInt8)(h:X8 s=some x)(he:Z6 (l++[x.1]) l.length=0):Yz l s=Yz (l++[x.1]) x.2:=by
 have h0:s≠[]:=fun e=>by have:=Kt h;rw[e]at this;simp at this
 unfold Yz;rw[hReadN,if_neg h0,h];simp only;rw[if_pos he];exact Qd8 _ _ _ _ (by have:=Kt h;omega) (by omega)
def Qgj:Option (Hd×List UInt8)→Value
 | some x=>.tuple #[heldV x.1,.string ⟨x.2.toArray⟩,.bool true]
 | none=>.tuple #[heldV ((0,0),0,[]),.string ⟨#[]⟩,.bool false]
theorem Qjl (s:List UInt8)(c:UInt8):(Lib.cut s [c]).1.length≤s.length∧(Lib.cut s [c]).2.1.length≤s.length:=by
 by_cases hm:c∈s
 ·obtain⟨p,q,rfl,hp⟩:=List.eq_append_cons_of_mem hm;rw[V8 p q c hp];simp;omega
 ·rw[Qk7 s c hm];simp
theorem Qaq {l:List UInt8}{n:Nat}(h:numOf l 6=some n):n<1000000:=by
 unfold numOf at h;split at h
 ·cases h
 ·rename_i hn
  have h1:=Qfh l 0 n h;have h2:10 ^ l.length≤10 ^ 6:=Nat.pow_le_pow_right (by decide) (by omega);omega
theorem Qj3 {t:List UInt8}{x:Nat×Nat}(h:idRead t=some x):x.1<4294967296∧x.2<1000000:=by
 refine⟨Qix h,?_⟩;unfold idRead at h;split at h
 ·cases h
 ·split at h
  ·rename_i n m _ hm
   cases h;exact Qaq hm
  ·cases h
theorem Qhh (a:Nat→Addr)(s:ByteArray)(m:Int)(w:World)(hsz:s.size≤50000)
 (hm:w.cell? ⟨14,0,none⟩=some (.int .i64 m))(hv:w.cell? ⟨4,0,none⟩=some (sentV a 0)) :
 Calls Tryz.prog 311 #[.string s] w fun e w'=>e=.returned (Qgj (X8 s.data.toList))∧Below w.heap.size w w':=by
 obtain⟨F,hF⟩:∃F,X8 s.data.toList=F:=⟨_,rfl⟩;have HF:Hid (X8 s.data.toList=F):=hF;rw[hF];clear hF;have e1:(⟨#[10]⟩:ByteArray).data.toList=[10]:=rfl;have e2:(⟨#[32]⟩:ByteArray).data.toList=[32]:=rfl;obtain⟨b1,hb1⟩:∃b,(Lib.cut s.data.toList [10]).2.2=b:=⟨_,rfl⟩;obtain⟨H,hH⟩:∃H:ByteArray,(⟨(Lib.cut s.data.toList [10]).1.toArray⟩:ByteArray)=H:=⟨_,rfl⟩;obtain⟨R,hR⟩:∃R:ByteArray,(⟨(Lib.cut s.data.toList [10]).2.1.toArray⟩:ByteArray)=R:=⟨_,rfl⟩;have hHl:H.data.toList=(Lib.cut s.data.toList [10]).1:=by rw[←hH]
 have hRl:R.data.toList=(Lib.cut s.data.toList [10]).2.1:=by rw[←hR]
 obtain⟨b2,hb2⟩:∃b,(Lib.cut H.data.toList [32]).2.2=b:=⟨_,rfl⟩;obtain⟨N,hN⟩:∃N:ByteArray,(⟨(Lib.cut H.data.toList [32]).1.toArray⟩:ByteArray)=N:=⟨_,rfl⟩;obtain⟨D,hD⟩:∃D:ByteArray,(⟨(Lib.cut H.data.toList [32]).2.1.toArray⟩:ByteArray)=D:=⟨_,rfl⟩;have hNl:N.data.toList=(Lib.cut H.data.toList [32]).1:=by rw[←hN]
 have hDl:D.data.toList=(Lib.cut H.data.toList [32]).2.1:=by rw[←hD]
 have HC1:Hid (∀W,W.cell? ⟨14,0,none⟩=some (.int .i64 m)→Calls Tryz.prog 266 #[.string s,.string ⟨#[10]⟩] W fun e w'=>e=.returned (.tuple #[.string H,.string R,.bool b1])∧∃n,w'=W.drewN n):=fun W hmW=>by have hc1:=Tryz.strings_Cut s ⟨#[10]⟩ m W (by omega) hmW;rw[e1]at hc1;rw[hH,hR,hb1]at hc1;exact hc1
 have hsl:s.data.toList.length=s.size:=by rw[Array.length_toList];rfl
 have hHs:H.data.toList.length=H.size:=by rw[Array.length_toList];rfl
 have hRs:R.data.toList.length=R.size:=by rw[Array.length_toList];rfl
 have hNs:N.data.toList.length=N.size:=by rw[Array.length_toList];rfl
 have hDs:D.data.toList.length=D.size:=by rw[Array.length_toList];rfl
 have k1:=Qjl s.data.toList 10;have k2:=Qjl H.data.toList 32;rw[←hHl,←hRl]at k1;rw[←hNl,←hDl]at k2;have HC2:Hid (∀W,W.cell? ⟨14,0,none⟩=some (.int .i64 m)→Calls Tryz.prog 266 #[.string H,.string ⟨#[32]⟩] W fun e w'=>e=.returned (.tuple #[.string N,.string D,.bool b2])∧∃n,w'=W.drewN n):=fun W hmW=>by have hc2:=Tryz.strings_Cut H ⟨#[32]⟩ m W (by omega) hmW;rw[e2]at hc2;rw[hN,hD,hb2]at hc2;exact hc2
 obtain⟨X,hX⟩:∃X,idRead N.data.toList=X:=⟨_,rfl⟩;obtain⟨Y,hY⟩:∃Y,numOf D.data.toList 6=Y:=⟨_,rfl⟩;have HFE:Hid (F=match (generalizing:=false) X,Y with|some x,some u=>if R.data.toList[x.2]? = some 10 then some (((x.1,(x.2:Int)),(u:Int),R.data.toList.take x.2),R.data.toList.drop (x.2+1)) else none|_,_=>none):=by show _=_;rw[←HF.out,←hX,←hY,hNl,hDl,hHl,hRl];rfl
 have HRD:Hid (∀W,W.cell? ⟨4,0,none⟩=some (sentV a 0)→Calls Tryz.prog 329 #[.string N] W fun e w'=>e=.returned (Ut (sentV a 0) X)∧Below W.heap.size W w'):=fun W hvW=>by have hr:=Ql1 N (by unfold maxLen;omega) (sentV a 0) W hvW;rw[hX]at hr;exact hr
 have HDG:Hid (∀W,Calls Tryz.prog 268 #[.string D,.int .i64 6] W fun e w'=>e=.returned (Yi Y)∧w'=W):=fun W=>by have hr:=Qaa D (by unfold maxLen;omega) W;rw[hY]at hr;exact hr
 have HXB:Hid (∀x,X=some x→x.1<4294967296∧x.2<1000000):=fun x e=>Qj3 (hX.trans e);have hRM:(R.size:Int)≤50000:=by omega
 have HRS:Hid (R.data.toList.length=R.size):=hRs;clear e1 e2 hH hN hD hHl hNl hDl hHs hNs hDs hsl k1 k2 hX hY hRl hRs hR HF hb1 hb2;go_enter Tryz.func311,Tryz.ntmps311;have HGL:Hid (∀W,Below w.heap.size w W→W.cell? ⟨14,0,none⟩=some (.int .i64 m)∧W.cell? ⟨4,0,none⟩=some (sentV a 0)):=fun W hb=>⟨(hb.cell (p:=⟨14,0,none⟩) (lt_of_cell hm)).trans hm,(hb.cell (p:=⟨4,0,none⟩) (lt_of_cell hv)).trans hv⟩;have hal:=(Below.refl _ w).alloc wz (.cells #[.int .u32 0,.int .i64 0,.int .i64 0,.string ⟨#[]⟩] 78);have hblk:=Blk.new w #[.int .u32 0,.int .i64 0,.int .i64 0,.string ⟨#[]⟩] 78;clear hm hv;go_wp2_with fail;obtain⟨W,hW⟩:∃W,(w.alloc (.cells #[.int .u32 0,.int .i64 0,.int .i64 0,.string ⟨#[]⟩] 78))=W:=⟨_,rfl⟩;rw[hW]at hal hblk ⊢;clear hW;refine(HC1.out W (HGL.out _ hal).1).mono ?_;rintro e w1 ⟨rfl,n1,hw1⟩;have hB1:Below w.heap.size w w1:=by rw[hw1];exact hal.trans (below_drewN _ _)
 have hblk1:Blk w1 w.heap.size #[.int .u32 0,.int .i64 0,.int .i64 0,.string ⟨#[]⟩] 78:=by rw[hw1];exact hblk
 clear hw1 hal hblk HC1;go_wp2_with fail;refine(HC2.out w1 (HGL.out _ hB1).1).mono ?_;rintro e w2 ⟨rfl,n2,hw2⟩;have hB2:Below w.heap.size w w2:=by rw[hw2];exact hB1.trans (below_drewN _ _)
 have hblk2:Blk w2 w.heap.size #[.int .u32 0,.int .i64 0,.int .i64 0,.string ⟨#[]⟩] 78:=by rw[hw2];exact hblk1
 clear hw2 hB1 hblk1 HC2;go_wp2_with fail;refine(HRD.out w2 (HGL.out _ hB2).2).mono ?_;rintro e w3 ⟨rfl,hb3⟩;have hB3:Below w.heap.size w w3:=hB2.trans (hb3.mono hB2.size);have hblk3:=hblk2.next hb3;have hlt3:=hblk3.lt;have hne1:¬(w3.heap.size=w.heap.size):=by omega
 have hne2:¬(w.heap.size=w3.heap.size):=by omega
 clear hb3 hB2 hblk2 HRD;cases X with
 | none=>
  have HFN:Hid (F=none):=HFE.out;have hal3:=(Below.refl _ w3).alloc wz (.cells #[.int .u32 0,.int .i64 0] 25);have hblk4:=hblk3.next hal3;have hB4:=hB3.trans (hal3.mono hB3.size);clear hal3 hblk3 hB3 hlt3;simp only[Ut];go_wp2_with fail;refine(HDG.out _).mono ?_;rintro e w4 ⟨rfl,hw4⟩;rw[←hw4]at hblk4 hB4;clear HDG hw4;have f0:=hblk4.cell (i:=0) rfl;have f1:=hblk4.cell (i:=1) rfl;have f2:=hblk4.cell (i:=2) rfl;have f3:=hblk4.cell (i:=3) rfl;have z0:=hblk4.frozen 0;have z1:=hblk4.frozen 1;have z2:=hblk4.frozen 2;have z3:=hblk4.frozen 3;cases Y
  all_goals
   simp only[Yi];go_wp2_with fail;have hRs:=(((hblk4.set 0 (.int .u32 0)).set 1 (.int .i64 0)).set 2 (.int .i64 0)).set 3 (.string ⟨#[]⟩);have s0:=hRs.cell (i:=0) rfl;have s1:=hRs.cell (i:=1) rfl;have s2:=hRs.cell (i:=2) rfl;have s3:=hRs.cell (i:=3) rfl;exact bodyPost_ret (v:=.tuple #[.agg #[.int .u32 0,.int .i64 0,.int .i64 0,.string ⟨#[]⟩],.string ⟨#[]⟩,.bool false]) (by simp[results,Tryz.results311,go_sem,s0,s1,s2,s3]) rfl ⟨by rw[HFN.out];rfl,((((hB4.setCell (p:=⟨w.heap.size,0,none⟩) wz _).setCell (p:=⟨w.heap.size,1,none⟩) wz _).setCell (p:=⟨w.heap.size,2,none⟩) wz _).setCell (p:=⟨w.heap.size,3,none⟩) wz _)⟩
 | some x=>
  obtain⟨xp,xn⟩:=x;obtain⟨hxp,hxn⟩:=HXB.out (xp,xn) rfl;simp only at hxp hxn;have hal3:=(Below.refl _ w3).alloc wz (.cells #[.int .u32 (xp:Nat),.int .i64 (xn:Int)] 25);have hblk4:=hblk3.next hal3;have hid4:=Blk.new w3 #[.int .u32 (xp:Nat),.int .i64 (xn:Int)] 25;have hB4:=hB3.trans (hal3.mono hB3.size);clear hal3 hblk3 hB3 hlt3;simp only[Ut];go_wp2_with fail;refine(HDG.out _).mono ?_;rintro e w4 ⟨rfl,hw4⟩;rw[←hw4]at hblk4 hid4 hB4;clear HDG hw4;have f0:=hblk4.cell (i:=0) rfl;have f1:=hblk4.cell (i:=1) rfl;have f2:=hblk4.cell (i:=2) rfl;have f3:=hblk4.cell (i:=3) rfl;have g0:=hid4.cell (i:=0) rfl;have g1:=hid4.cell (i:=1) rfl;have z0:=hblk4.frozen 0;have z1:=hblk4.frozen 1;have z2:=hblk4.frozen 2;have z3:=hblk4.frozen 3;cases Y with
  | none=>
   have HFN:Hid (F=none):=HFE.out;simp only[Yi];go_wp2_with fail;have hRs:=(((hblk4.set 0 (.int .u32 0)).set 1 (.int .i64 0)).set 2 (.int .i64 0)).set 3 (.string ⟨#[]⟩);have s0:=hRs.cell (i:=0) rfl;have s1:=hRs.cell (i:=1) rfl;have s2:=hRs.cell (i:=2) rfl;have s3:=hRs.cell (i:=3) rfl;exact bodyPost_ret (v:=.tuple #[.agg #[.int .u32 0,.int .i64 0,.int .i64 0,.string ⟨#[]⟩],.string ⟨#[]⟩,.bool false]) (by simp[results,Tryz.results311,go_sem,s0,s1,s2,s3]) rfl ⟨by rw[HFN.out];rfl,((((hB4.setCell (p:=⟨w.heap.size,0,none⟩) wz _).setCell (p:=⟨w.heap.size,1,none⟩) wz _).setCell (p:=⟨w.heap.size,2,none⟩) wz _).setCell (p:=⟨w.heap.size,3,none⟩) wz _)⟩
  | some u=>
   simp only[Yi];by_cases hC:xn<R.size
   ·have hlt2:(xn:Int)<(R.size:Int):=(by omega);have hn2:¬(R.size:Int)≤(xn:Int):=(by omega);have hget:R.data.toList[xn]? = some (R[xn]):=(by rw[List.getElem?_eq_getElem (by rw[HRS.out];exact hC),Array.getElem_toList];rfl);by_cases h10:R[xn].toNat=10
    ·have hb:R[xn]=10:=UInt8.toNat_inj.1 h10;have HFN:Hid (F=some (((xp,(xn:Int)),(u:Int),R.data.toList.take xn),R.data.toList.drop (xn+1))):=(by show _=_;rw[HFE.out];simp only[hget,hb,if_true]);clear hget hb;have hlt3:((xn:Int)+1)≤(R.size:Int):=(by omega);have hw5:IntKind.i64.wrap ((xn:Int)+1)=(xn:Int)+1:=(by rw[IntKind.wrap_i64];omega);have hw6:((xn:Int)+1).toNat=xn+1:=(by omega);go_wp2_with fail;go_region;go_wp2_with fail;have hRs:=(((hblk4.set 0 (.int .u32 (xp:Nat))).set 1 (.int .i64 (xn:Int))).set 2 (.int .i64 (u:Int))).set 3 (.string (R.extract 0 xn));have s0:=hRs.cell (i:=0) rfl;have s1:=hRs.cell (i:=1) rfl;have s2:=hRs.cell (i:=2) rfl;have s3:=hRs.cell (i:=3) rfl;have ht0:R.extract 0 xn=⟨(R.data.toList.take xn).toArray⟩:=(by apply ByteArray.ext;apply Array.toList_inj.1;rw[Lib.extract_data];simp);have hr0:R.extract (xn+1) R.size=⟨(R.data.toList.drop (xn+1)).toArray⟩:=(by apply ByteArray.ext;apply Array.toList_inj.1;rw[Lib.extract_data,←HRS.out,List.take_of_length_le (by simp)]);exact bodyPost_ret (v:=.tuple #[.agg #[.int .u32 (xp:Nat),.int .i64 (xn:Int),.int .i64 (u:Int),.string (R.extract 0 xn)],.string (R.extract (xn+1) R.size),.bool true]) (by simp[results,Tryz.results311,go_sem,s0,s1,s2,s3]) rfl ⟨by rw[HFN.out,ht0,hr0];rfl,((((hB4.setCell (p:=⟨w.heap.size,0,none⟩) wz _).setCell (p:=⟨w.heap.size,1,none⟩) wz _).setCell (p:=⟨w.heap.size,2,none⟩) wz _).setCell (p:=⟨w.heap.size,3,none⟩) wz _).drew⟩
    ·have HFN:Hid (F=none):=(by show _=_;rw[HFE.out];simp only[hget];rw[if_neg];intro e;have e':R[xn]=10:=Option.some.inj e;exact h10 (by rw[e'];rfl));clear hget;go_wp2_with fail;have hRs:=(((hblk4.set 0 (.int .u32 0)).set 1 (.int .i64 0)).set 2 (.int .i64 0)).set 3 (.string ⟨#[]⟩);have s0:=hRs.cell (i:=0) rfl;have s1:=hRs.cell (i:=1) rfl;have s2:=hRs.cell (i:=2) rfl;have s3:=hRs.cell (i:=3) rfl;exact bodyPost_ret (v:=.tuple #[.agg #[.int .u32 0,.int .i64 0,.int .i64 0,.string ⟨#[]⟩],.string ⟨#[]⟩,.bool false]) (by simp[results,Tryz.results311,go_sem,s0,s1,s2,s3]) rfl ⟨by rw[HFN.out];rfl,((((hB4.setCell (p:=⟨w.heap.size,0,none⟩) wz _).setCell (p:=⟨w.heap.size,1,none⟩) wz _).setCell (p:=⟨w.heap.size,2,none⟩) wz _).setCell (p:=⟨w.heap.size,3,none⟩) wz _)⟩
   ·have hn2:(R.size:Int)≤(xn:Int):=(by omega);have HFN:Hid (F=none):=(by show _=_;rw[HFE.out];have hget:R.data.toList[xn]? = none:=List.getElem?_eq_none (by rw[HRS.out];omega);simp only[hget];rfl);go_wp2_with fail;have hRs:=(((hblk4.set 0 (.int .u32 0)).set 1 (.int .i64 0)).set 2 (.int .i64 0)).set 3 (.string ⟨#[]⟩);have s0:=hRs.cell (i:=0) rfl;have s1:=hRs.cell (i:=1) rfl;have s2:=hRs.cell (i:=2) rfl;have s3:=hRs.cell (i:=3) rfl;exact bodyPost_ret (v:=.tuple #[.agg #[.int .u32 0,.int .i64 0,.int .i64 0,.string ⟨#[]⟩],.string ⟨#[]⟩,.bool false]) (by simp[results,Tryz.results311,go_sem,s0,s1,s2,s3]) rfl ⟨by rw[HFN.out];rfl,((((hB4.setCell (p:=⟨w.heap.size,0,none⟩) wz _).setCell (p:=⟨w.heap.size,1,none⟩) wz _).setCell (p:=⟨w.heap.size,2,none⟩) wz _).setCell (p:=⟨w.heap.size,3,none⟩) wz _)⟩
def Qgy (a:Nat→Addr)(c:Int):Value:=if c=9 then sentV a 8 else if c=8 then sentV a 7 else .nilIface
theorem Qdf (a:Nat→Addr)(v:Value)(l:List Hd)(k:Nat)(w:World)(hE:Qpw w a)(hk:k<l.length)(hlen:l.length≤50000)(ht:(l[k]'hk).2.2.length≤50000)(hv:Q4 w v l) :
 Calls Tryz.prog 274 #[v,.int .i64 (k:Int)] w fun e w'=>e=.returned (Qgy a (Z6 l k))∧Below w.heap.size w w':=by
 have HG:Hid (∀W',Below w.heap.size w W'→W'.cell? ⟨8,0,none⟩=some (sentV a 8)∧W'.cell? ⟨7,0,none⟩=some (sentV a 7)):=fun W' hb=>⟨(hE.below hb wz).glob 8 rfl,(hE.below hb wz).glob 7 rfl⟩;clear hE;obtain⟨p,c,rfl,hcell⟩:=hv;have HC:Hid (∀W',Below w.heap.size w W'→∀i (h:i<l.length),∃b o,p=some ⟨b,o,none⟩∧W'.cell? ⟨b,o+i*4,none⟩=some (.int .u32 (l[i].1.1:Nat))∧W'.cell? ⟨b,o+i*4+1,none⟩=some (.int .i64 l[i].1.2) ∧
  W'.cell? ⟨b,o+i*4+2,none⟩=some (.int .i64 l[i].2.1)∧W'.cell? ⟨b,o+i*4+3,none⟩=some (.string ⟨l[i].2.2.toArray⟩)):=fun W' hb i hi=>by obtain⟨b,o,hp,⟨hl',_⟩,a0,a1,a2,a3⟩:=hcell i hi;exact⟨b,o,hp,(hb.cell (p:=⟨b,o+i*4,none⟩) hl').trans a0,(hb.cell (p:=⟨b,o+i*4+1,none⟩) hl').trans a1,(hb.cell (p:=⟨b,o+i*4+2,none⟩) hl').trans a2,(hb.cell (p:=⟨b,o+i*4+3,none⟩) hl').trans a3⟩
 clear hcell;obtain⟨b,o,rfl,a0,a1,_,a3⟩:=HC.out w (Below.refl _ _) k hk;have hk':(k:Int)<(l.length:Int):=by omega
 have hk0:(0:Int)≤(k:Int):=by omega
 have HLK:Hid (l[k]? = some (l[k]'hk)):=List.getElem?_eq_getElem hk;obtain⟨t,htt⟩:∃t:ByteArray,(⟨(l[k]'hk).2.2.toArray⟩:ByteArray)=t:=⟨_,rfl⟩;have htl:t.data.toList=(l[k]'hk).2.2:=by rw[←htt]
 have htz:t.size≤maxLen:=by rw[←htt];show(l[k]'hk).2.2.toArray.size≤maxLen;rw[List.size_toArray];unfold maxLen;omega
 have HTZ:Hid (t.size≤maxLen):=htz;have HTS:Hid (Qc (l[k]'hk).2.2=(pmore 2166136261 t.data.toList,(t.size:Int))):=by show _=_;unfold Qc;rw[←htl,Array.length_toList];rfl
 rw[htt]at a3;obtain⟨P,hP⟩:∃P,pmore 2166136261 t.data.toList=P:=⟨_,rfl⟩;have HP:Hid (pmore 2166136261 t.data.toList=P):=hP;rw[hP]at HTS;have HCK:Hid (∀W',Below w.heap.size w W'→W'.cell? ⟨b,o+k*4,none⟩=some (.int .u32 ((l[k]'hk).1.1:Nat))∧W'.cell? ⟨b,o+k*4+1,none⟩=some (.int .i64 (l[k]'hk).1.2)∧W'.cell? ⟨b,o+k*4+3,none⟩=some (.string t)):=fun W' hb=>by obtain⟨b',o',hp,x0,x1,_,x3⟩:=HC.out W' hb k hk;cases hp;rw[htt]at x3;exact⟨x0,x1,x3⟩
 obtain⟨ip,hip⟩:∃ip,(l[k]'hk).1.1=ip:=⟨_,rfl⟩;obtain⟨il,hil⟩:∃il,(l[k]'hk).1.2=il:=⟨_,rfl⟩;have HID:Hid ((l[k]'hk).1=(ip,il)):=by show _=_;rw[←hip,←hil]
 rw[hip]at a0 HCK;rw[hil]at a1 HCK;have HLN:Hid (l.length≤50000):=hlen;clear htt htl htz hP hip hil ht hlen;by_cases e1:(P:Int)=(ip:Int)
 ·by_cases e2:(t.size:Int)=il
  ·have HEQ:Hid (Qc (l[k]'hk).2.2=(l[k]'hk).1):=(by show _=_;rw[HTS.out,HID.out,e2,show P=ip by omega]);obtain rfl:P=ip:=(by omega);subst e2;by_cases hk1:k=0
   ·have HM:Hid (Z6 l k=0):=(by show _=_;unfold Z6;rw[HLK.out];simp only;rw[if_neg (by rw[HEQ.out];simp),if_pos hk1]);have HK0:Hid (k=0):=hk1;clear hk1;go_enter Tryz.func274,Tryz.ntmps274;go_wp2_with fail
    go_region_held3 (fun w'=>w'.cell? ⟨b,o+k*4,none⟩=some (.int .u32 (P:Nat))∧w'.cell? ⟨b,o+k*4+1,none⟩=some (.int .i64 (t.size:Int))∧w'.cell? ⟨b,o+k*4+3,none⟩=some (.string t)) (go_keep) (first
     | (go_at_call 168;refine(Y0 t _ HTZ.out).mono ?_;rintro e w1 ⟨rfl,hb1⟩;rw[HP.out];have hB1:Below w.heap.size w w1:=(Below.refl _ w).drew.trans hb1;have HB1:Hid (Below w.heap.size w w1):=hB1;obtain⟨x0,x1,x3⟩:=HCK.out w1 hB1;obtain⟨g8,g7⟩:=HG.out w1 hB1;clear hb1 hB1))
    have hk1:=HK0.out;clear HK0;subst hk1;go_wp2_with fail
    try (go_quiet (fail);go_wp2_with fail)
    go_ret;exact⟨by rw[HM.out];rfl,HB1.out.trans ⟨rfl,rfl,rfl,wz,fun _ _=>rfl⟩⟩
   ·have hk2:(0:Int)<(k:Int):=(by omega);have hk3:0<k:=(by omega);have hj:k - 1<l.length:=(by omega);have hjk:IntKind.i64.wrap ((k:Int) - 1)=((k - 1:Nat):Int):=(by have:=HLN.out;rw[IntKind.wrap_i64];omega);have hj':((k - 1:Nat):Int)<(l.length:Int):=(by omega);have hj0:(0:Int)≤((k - 1:Nat):Int):=(by omega);obtain⟨gp,hgp⟩:∃gp,(l[k - 1]'hj).1.1=gp:=⟨_,rfl⟩;obtain⟨gl,hgl⟩:∃gl,(l[k - 1]'hj).1.2=gl:=⟨_,rfl⟩;have HCG:Hid (∀W',Below w.heap.size w W'→W'.cell? ⟨b,o+(k - 1)*4,none⟩=some (.int .u32 (gp:Nat))∧W'.cell? ⟨b,o+(k - 1)*4+1,none⟩=some (.int .i64 gl)):=fun W' hb=>by obtain⟨b',o',hp,x0,x1,_⟩:=HC.out W' hb (k - 1) hj;cases hp;rw[hgp]at x0;rw[hgl]at x1;exact⟨x0,x1⟩
    obtain⟨Lb,hLb⟩:∃Lb,(if (gp:Int)=(P:Int) then decide (gl<(t.size:Int)) else decide ((gp:Int)<(P:Int)))=Lb:=⟨_,rfl⟩
    have HLb:Hid ((if (gp:Int)=(P:Int) then decide (gl<(t.size:Int)) else decide ((gp:Int)<(P:Int)))=Lb):=hLb
    have HM:Hid (Z6 l k=if Lb=true then 0 else 8):=by
     show _=_;have hLs:Qo (l[k - 1]'hj).1 (l[k]'hk).1=Lb:=by rw[HID.out,show(l[k - 1]'hj).1=(gp,gl) by rw[←hgp,←hgl]];exact hLb
     unfold Z6;rw[HLK.out];simp only;rw[if_neg (by rw[HEQ.out];simp),if_neg hk1,List.getElem?_eq_getElem hj];simp only[hLs]
    obtain⟨kj,hkj⟩:∃kj,k - 1=kj:=⟨_,rfl⟩;rw[hkj]at hjk hj' hj0 HCG;clear hLb hgp hgl hk1 HC;cases Lb with
    | true=>
     go_enter Tryz.func274,Tryz.ntmps274;go_wp2_with fail
     go_region_held3 (fun w'=>w'.cell? ⟨b,o+k*4,none⟩=some (.int .u32 (P:Nat))∧w'.cell? ⟨b,o+k*4+1,none⟩=some (.int .i64 (t.size:Int))∧w'.cell? ⟨b,o+k*4+3,none⟩=some (.string t)) (go_keep) (first
      | (go_at_call 168;refine(Y0 t _ HTZ.out).mono ?_;rintro e w1 ⟨rfl,hb1⟩;rw[HP.out];have hB1:Below w.heap.size w w1:=(Below.refl _ w).drew.trans hb1;have HB1:Hid (Below w.heap.size w w1):=hB1;obtain⟨x0,x1,x3⟩:=HCK.out w1 hB1;obtain⟨g8,g7⟩:=HG.out w1 hB1;clear hb1 hB1))
     obtain⟨y0,y1⟩:=HCG.out w1 HB1.out;clear hkj;go_wp2_with fail
     go_region_held3 (fun w'=>w'.cell? ⟨b,o+kj*4,none⟩=some (.int .u32 (gp:Nat))∧w'.cell? ⟨b,o+kj*4+1,none⟩=some (.int .i64 gl)∧w'.cell? ⟨b,o+k*4,none⟩=some (.int .u32 (P:Nat))∧w'.cell? ⟨b,o+k*4+1,none⟩=some (.int .i64 (t.size:Int))) (go_keep) (first
      | (go_at_call 110;refine(Kn _ _ _ _ _).mono ?_;rintro e w2 ⟨rfl,hb2⟩;rw[HLb.out];have hB2:Below w.heap.size w w2:=HB1.out.trans (((Below.refl _ w1).drew.trans hb2).mono HB1.out.size);have HB2:Hid (Below w.heap.size w w2):=hB2;obtain⟨z0,z1,_⟩:=HCK.out w2 hB2;obtain⟨z2,z3⟩:=HCG.out w2 hB2;obtain⟨k8,k7⟩:=HG.out w2 hB2;clear hb2 hB2))
     go_wp2_with fail
     try (go_quiet (fail);go_wp2_with fail)
     go_ret;exact⟨by rw[HM.out];rfl,HB2.out⟩
    | false=>
     go_enter Tryz.func274,Tryz.ntmps274;go_wp2_with fail
     go_region_held3 (fun w'=>w'.cell? ⟨b,o+k*4,none⟩=some (.int .u32 (P:Nat))∧w'.cell? ⟨b,o+k*4+1,none⟩=some (.int .i64 (t.size:Int))∧w'.cell? ⟨b,o+k*4+3,none⟩=some (.string t)) (go_keep) (first
      | (go_at_call 168;refine(Y0 t _ HTZ.out).mono ?_;rintro e w1 ⟨rfl,hb1⟩;rw[HP.out];have hB1:Below w.heap.size w w1:=(Below.refl _ w).drew.trans hb1;have HB1:Hid (Below w.heap.size w w1):=hB1;obtain⟨x0,x1,x3⟩:=HCK.out w1 hB1;obtain⟨g8,g7⟩:=HG.out w1 hB1;clear hb1 hB1))
     obtain⟨y0,y1⟩:=HCG.out w1 HB1.out;clear hkj;go_wp2_with fail
     go_region_held3 (fun w'=>w'.cell? ⟨b,o+kj*4,none⟩=some (.int .u32 (gp:Nat))∧w'.cell? ⟨b,o+kj*4+1,none⟩=some (.int .i64 gl)∧w'.cell? ⟨b,o+k*4,none⟩=some (.int .u32 (P:Nat))∧w'.cell? ⟨b,o+k*4+1,none⟩=some (.int .i64 (t.size:Int))) (go_keep) (first
      | (go_at_call 110;refine(Kn _ _ _ _ _).mono ?_;rintro e w2 ⟨rfl,hb2⟩;rw[HLb.out];have hB2:Below w.heap.size w w2:=HB1.out.trans (((Below.refl _ w1).drew.trans hb2).mono HB1.out.size);have HB2:Hid (Below w.heap.size w w2):=hB2;obtain⟨z0,z1,_⟩:=HCK.out w2 hB2;obtain⟨z2,z3⟩:=HCG.out w2 hB2;obtain⟨k8,k7⟩:=HG.out w2 hB2;clear hb2 hB2))
     go_wp2_with fail
     try (go_quiet (fail);go_wp2_with fail)
     go_ret;exact⟨by rw[HM.out];rfl,HB2.out⟩
  ·have HM:Hid (Z6 l k=9):=(by show _=_;unfold Z6;rw[HLK.out];simp only;rw[if_pos (by rw[HTS.out,HID.out];exact fun e=>e2 (Prod.mk.inj e).2)]);obtain rfl:P=ip:=(by omega);have e2':((t.size:Int)==il)=false:=beq_eq_false_iff_ne.2 e2;go_enter Tryz.func274,Tryz.ntmps274;go_wp2_with fail
   go_region_held3 (fun w'=>w'.cell? ⟨b,o+k*4,none⟩=some (.int .u32 (P:Nat))∧w'.cell? ⟨b,o+k*4+1,none⟩=some (.int .i64 il)∧w'.cell? ⟨b,o+k*4+3,none⟩=some (.string t)) (go_keep) (first
    | (go_at_call 168;refine(Y0 t _ HTZ.out).mono ?_;rintro e w1 ⟨rfl,hb1⟩;rw[HP.out];have hB1:Below w.heap.size w w1:=(Below.refl _ w).drew.trans hb1;have HB1:Hid (Below w.heap.size w w1):=hB1;obtain⟨x0,x1,x3⟩:=HCK.out w1 hB1;obtain⟨g8,g7⟩:=HG.out w1 hB1;clear hb1 hB1))
   go_wp2_with fail
   try (go_quiet (fail);go_wp2_with fail)
   go_ret;exact⟨by rw[HM.out];rfl,HB1.out⟩
 ·have HM:Hid (Z6 l k=9):=by show _=_;unfold Z6;rw[HLK.out];simp only;rw[if_pos (by rw[HTS.out,HID.out];exact fun e=>e1 (by rw[(Prod.mk.inj e).1]))]
  have e1':((P:Int)==(ip:Int))=false:=beq_eq_false_iff_ne.2 e1;go_enter Tryz.func274,Tryz.ntmps274;go_wp2_with fail
  go_region_held3 (fun w'=>w'.cell? ⟨b,o+k*4,none⟩=some (.int .u32 (ip:Nat))∧w'.cell? ⟨b,o+k*4+1,none⟩=some (.int .i64 il)∧w'.cell? ⟨b,o+k*4+3,none⟩=some (.string t)) (go_keep) (first
   | (go_at_call 168;refine(Y0 t _ HTZ.out).mono ?_;rintro e w1 ⟨rfl,hb1⟩;rw[HP.out];have hB1:Below w.heap.size w w1:=(Below.refl _ w).drew.trans hb1;have HB1:Hid (Below w.heap.size w w1):=hB1;obtain⟨x0,x1,x3⟩:=HCK.out w1 hB1;obtain⟨g8,g7⟩:=HG.out w1 hB1;clear hb1 hB1))
  go_wp2_with fail
  try (go_quiet (fail);go_wp2_with fail)
  go_ret;exact⟨by rw[HM.out];rfl,HB1.out⟩
theorem Qbg {q:Prop}(h:q):Hid q:=h
def Qvi:Value→Nat
 | .string s=>s.size
 | _=>0
theorem Qmy {W:World}{B:Nat}{t:TypeId}(hB:B=W.heap.size)(h:Hd):∀j u,(heldCells [h])[j]? = some u→(W.alloc (.cells #[.int .u32 (h.1.1:Nat),.int .i64 h.1.2,.int .i64 h.2.1,.string ⟨h.2.2.toArray⟩] t)).cell? ((⟨B,0,none⟩:Addr).add j)=some u:=by
 intro j u hj;rw[add_plain];exact Zh W _ t (by rw[←hj];simp[heldCells]) hB
theorem Qq4:(Tryz.prog.info? 78).map (fun i=>(i.zero,i.size,i.bytes))=some (some (heldV ((0,0),0,[])),4,40):=by kernel_rfl
theorem Qby {W:World}{base:Nat}{e:TypeId}{size:Nat}{v:Value}{n:Nat}{xs:List Value}(h:W.ownsRow base e size v n xs):∃p c,v=.slice p n c:=by
 rcases h.2 with⟨rfl,rfl⟩|⟨g,cap,cur,rfl,_⟩
 ·exact⟨_,_,rfl⟩
 ·exact⟨_,_,rfl⟩
theorem Qul {s t:ByteArray}(h:s≠t):(s.toList==t.toList)=false:=by
 rw[ByteArray.toList_eq,ByteArray.toList_eq,beq_eq_false_iff_ne];exact fun e=>h (WideShapes.bytes_inj e)
theorem Qky {s:ByteArray}{l:List UInt8}(h:s≠⟨l.toArray⟩):(s.toList==l)=false:=by
 rw[ByteArray.toList_eq,beq_eq_false_iff_ne];exact fun e=>h (WideShapes.bytes_inj (by rw[e]))
def readsOf (s:List UInt8):List Hd×Int×Int:=if 40000<s.length then ([],2,-1) else Yz [] s
theorem markE_two (l:List Hd)(i:Nat):Z6 l i=0∨Z6 l i=8∨Z6 l i=9:=by
 unfold Z6;split
 ·exact .inl rfl
 ·split
  ·exact .inr (.inr rfl)
  ·split
   ·exact .inl rfl
   ·split
    ·exact .inl rfl
    ·split
     ·exact .inl rfl
     ·exact .inr (.inl rfl)
theorem Qq8 (a:Nat→Addr)(s0:ByteArray)(m:Int)(w:World)(hsz:s0.size≤50000)(hE:Qpw w a)
 (hm:w.cell? ⟨14,0,none⟩=some (.int .i64 m)) :
 Calls Tryz.prog 271 #[.string s0] w fun e w'=>∃vr ev,e=.returned (.tuple #[vr,ev])∧w'.ownsRow w.heap.size 78 4 vr (readsOf s0.data.toList).1.length (heldCells (readsOf s0.data.toList).1)∧Qp w.heap.size w' a ev (readsOf s0.data.toList).2∧Below w.heap.size w w':=by
 obtain⟨iH,hiH,zH0,zH1,zH2⟩:=info_parts Qq4;have hsl:s0.data.toList.length=s0.size:=by rw[Array.length_toList];rfl
 have HGL:Hid (∀W,Below w.heap.size w W→W.cell? ⟨14,0,none⟩=some (.int .i64 m)∧Qpw W a):=fun W hb=>⟨(hb.cell (p:=⟨14,0,none⟩) (lt_of_cell hm)).trans hm,hE.below hb wz⟩;have g1:w.cell? ⟨5,0,none⟩=some (sentV a 1):=hE.glob 1 rfl;clear hm hE;by_cases hbig:40000<s0.size
 ·have hb2:(40000:Int)<(s0.size:Int):=by omega
  have e:readsOf s0.data.toList=([],2,-1):=by unfold readsOf;rw[if_pos (by omega)]
  rw[e];go_enter Tryz.func271,Tryz.ntmps271;go_wp2_with fail;go_region;go_wp2_with fail;go_ret2;exact⟨_,_,rfl,World.ownsRow_nil _ _ _ _,.inr (.inl ⟨1,by decide,rfl,rfl⟩),(Below.refl _ _).drew⟩
 have hb2:¬(40000:Int)<(s0.size:Int):=by omega
 have HRS:Hid (readsOf s0.data.toList=Yz [] s0.data.toList):=by show _=_;unfold readsOf;rw[if_neg (by omega)]
 have HS0:Hid (s0.data.toList.length≤40000):=by show _≤_;omega
 obtain⟨RES,hRES⟩:∃RES,readsOf s0.data.toList=RES:=⟨_,rfl⟩;rw[hRES]at HRS ⊢;clear hRES hsl g1 hsz;go_enter Tryz.func271,Tryz.ntmps271;go_wp2_with fail
 go_loopw [0,4] (fun sv lv wr=>∃(l:List Hd) (s:ByteArray),sv=.string s∧Hid (Yz l s.data.toList=RES)∧Hid (l.length+s.data.toList.length≤40000)∧Hid (wr.ownsRow w.heap.size 78 4 lv l.length (heldCells l))∧Hid (Below w.heap.size w wr)) (fun sv _ _=>Qvi sv)
 case atStart=>exact⟨[],s0,rfl,HRS.out.symm,by show _≤_;have:=HS0.out;simpa using this,World.ownsRow_nil _ _ _ _,Below.refl _ _⟩
 case round=>
  clear HRS HS0;obtain⟨l,s,rfl,HSK,HLN,HROW,HB⟩:=hrel;have hss:s.data.toList.length=s.size:=by rw[Array.length_toList];rfl
  have hs2:s.size≤40000:=by have:=HLN.out;omega
  obtain⟨pv,cv,rfl⟩:=Qby HROW.out;by_cases hne:s=⟨#[]⟩
  ·subst hne;have HR:Hid (RES=(l,0,-1)):=HSK.out.symm.trans (Qgw l);go_wp2_with fail;go_ret2;exact⟨_,_,rfl,by rw[HR.out];exact HROW.out,by rw[HR.out];exact .inl ⟨rfl,rfl⟩,HB.out⟩
  ·have k1':=Qul hne;have n1:(s.toList==[])=false:=Qky hne;have HNE:Hid (s.data.toList≠[]):=fun e=>hne (by apply ByteArray.ext;apply Array.toList_inj.1;rw[e]);have HRF:=Qbg (Qhh a s m wr (by omega) (HGL.out _ HB.out).1 ((HGL.out _ HB.out).2.glob 0 rfl));have HLL:Hid (l.length≤40000):=(by show _≤_;have:=HLN.out;omega);clear hne;cases hF:X8 s.data.toList with
   | none=>
    have HR:Hid (RES=([],1,(l.length:Int))):=HSK.out.symm.trans (Qkc l _ HNE.out hF);rw[hF]at HRF;clear hF;go_wp2_with fail;refine HRF.out.mono ?_;rintro e w3 ⟨rfl,hb3⟩;simp only[Qgj];have hB3:Below w.heap.size w w3:=HB.out.trans (hb3.mono HB.out.size);have g0:w3.cell? ⟨4,0,none⟩=some (sentV a 0):=(HGL.out _ hB3).2.glob 0 rfl;have hgl:4<w3.heap.size:=lt_of_cell g0;clear hb3;go_wp2_with fail;go_region;go_wp2_with fail;go_ret2;refine⟨_,_,rfl,by rw[HR.out];exact World.ownsRow_nil _ _ _ _,?_,?_⟩
    ·rw[HR.out];refine .inr (.inr ⟨0,w3.heap.size+1,0,(l.length:Int),by decide,by have:=hB3.size;omega,rfl,?_,?_,rfl⟩)
     ·simp
     ·simp
    ·exact((hB3.alloc hB3.size _).alloc (by have:=hB3.size;rw[World.size_alloc];omega) _).drew
   | some x=>
    obtain⟨h,r⟩:=x;have hless:=Kt hF;have q4:=(Qlh hF).2.2.2;simp only at hless q4;have HNX:Hid ((Z6 (l++[h]) l.length=0→Yz (l++[h]) r=RES)∧(Z6 (l++[h]) l.length≠0→RES=([],Z6 (l++[h]) l.length,(l.length:Int)))):=
     ⟨fun e=>(Qem l _ (h,r) hF e).symm.trans HSK.out,fun e=>HSK.out.symm.trans (Qms l _ (h,r) hF e)⟩
    have HLR:Hid ((l++[h]).length+r.length≤40000):=(by show _≤_;have:=HLN.out;rw[List.length_append,List.length_singleton];omega);have HT:Hid (h.2.2.length≤50000):=(by show _≤_;omega);have HRL:Hid (r.length<s.size):=(by show _<_;omega);rw[hF]at HRF;simp only[Qgj]at HRF;clear hF hless q4;go_wp2_with fail;refine HRF.out.mono ?_;rintro e w3 ⟨rfl,hb3⟩;have hal3:=(Below.refl _ w3).alloc wz (.cells #[.int .u32 (h.1.1:Nat),.int .i64 h.1.2,.int .i64 h.2.1,.string ⟨h.2.2.toArray⟩] 78);have hal4:=(Below.refl (w3.alloc (.cells #[.int .u32 (h.1.1:Nat),.int .i64 h.1.2,.int .i64 h.2.1,.string ⟨h.2.2.toArray⟩] 78)).heap.size (w3.alloc (.cells #[.int .u32 (h.1.1:Nat),.int .i64 h.1.2,.int .i64 h.2.1,.string ⟨h.2.2.toArray⟩] 78))).alloc wz (.cells #[.int .u32 (h.1.1:Nat),.int .i64 h.1.2,.int .i64 h.2.1,.string ⟨h.2.2.toArray⟩] 78);have HROW4:=Qbg (Qi (Qi (Qi HROW.out hb3) hal3) hal4);have HB4:Hid (Below w.heap.size w _):=Qbg ((HB.out.trans (hb3.mono HB.out.size)).trans ((hal3.mono (Nat.le_trans HB.out.size hb3.size)).trans (hal4.mono (by have:=HB.out.size;have:=hb3.size;simp;omega))));clear hal3 hal4 hb3 HRF;go_wp2_with (at_builtin;refine wpList_append_own_at _ rfl (.tmp 31) (.tmp 33) 56 rfl w.heap.size 78 iH (heldV ((0,0),0,[])) 4 40 Tryz.underlying56 hiH zH0 zH1 zH2 rfl (by decide) _ _ _ rfl HROW4.out ⟨w3.heap.size+1,0,none⟩ 1 1 (heldCells [h]) rfl rfl ?c1 ?c2 ?c3 ?c4 ?c5 ?_)
    case c1=>exact Qmy (by simp) h
    case c2=>exact Zm _
    case c3=>have:=HLL.out;unfold maxLen;omega
    case c4=>have:=HLL.out;omega
    case c5=>exact HB4.out.size
    intro v5 w5 hown5 hg5 _ hv5;have HROW5:Hid (w5.ownsRow w.heap.size 78 4 v5 (l++[h]).length (heldCells (l++[h]))):=by show World.ownsRow _ _ _ _ _ _ _;rw[Z4,List.length_append,List.length_singleton];exact hown5
    have HB5:Hid (Below w.heap.size w w5):=HB4.out.trans ((Zd hg5).below HB4.out.size (fun j hj e=>by have:=Kc HROW4.out e;omega));clear hown5 hg5 hv5 HROW4 HB4 HROW HB;have hkk:l.length<(l++[h]).length:=(by simp);have hgk:(l++[h])[l.length]=h:=(by simp);have HCK:=Qbg (Qdf a v5 (l++[h]) l.length w5 (HGL.out _ HB5.out).2 hkk (by simp;have:=HLL.out;omega) (by rw[hgk];exact HT.out) (Q4.of_row HROW5.out));clear hkk hgk;rcases markE_two (l++[h]) l.length with hM|hM|hM
    ·have HM:=Qbg hM;clear hM;go_wp2_with fail;refine HCK.out.mono ?_;rintro e w6 ⟨rfl,hb6⟩;have HROW6:=Qbg (Qi HROW5.out hb6);have HB6:Hid (Below w.heap.size w w6):=HB5.out.trans (hb6.mono HB5.out.size);clear hb6 HCK HROW5 HB5;rw[HM.out,show Qgy a 0=.nilIface from rfl];go_wp2_with fail;go_roundw
     case rel=>exact⟨l++[h],_,rfl,by show _=_;exact HNX.out.1 HM.out,by show _≤_;simpa using HLR.out,HROW6.out,HB6.out⟩
     case measure=>
      have h3:(⟨r.toArray⟩:ByteArray).size=r.length:=(by simp[ByteArray.size]);have:=HRL.out;simp only[Qvi,h3];omega
    ·have HM:=Qbg hM;clear hM;go_wp2_with fail;refine HCK.out.mono ?_;rintro e w6 ⟨rfl,hb6⟩;have hB6:Below w.heap.size w w6:=HB5.out.trans (hb6.mono HB5.out.size);have HR:=Qbg (HNX.out.2 (by rw[HM.out];decide));clear hb6 HCK HROW5 HB5;rw[HM.out,show Qgy a 8=sentV a 7 from rfl];go_wp2_with fail;go_ret2;refine⟨_,_,rfl,by rw[HR.out];exact World.ownsRow_nil _ _ _ _,?_,?_⟩
     ·rw[HR.out,HM.out];refine .inr (.inr ⟨7,w6.heap.size,0,(l.length:Int),by decide,hB6.size,rfl,?_,?_,rfl⟩)
      ·simp
      ·simp
     ·exact hB6.alloc hB6.size _
    ·have HM:=Qbg hM;clear hM;go_wp2_with fail;refine HCK.out.mono ?_;rintro e w6 ⟨rfl,hb6⟩;have hB6:Below w.heap.size w w6:=HB5.out.trans (hb6.mono HB5.out.size);have HR:=Qbg (HNX.out.2 (by rw[HM.out];decide));clear hb6 HCK HROW5 HB5;rw[HM.out,show Qgy a 9=sentV a 8 from rfl];go_wp2_with fail;go_ret2;refine⟨_,_,rfl,by rw[HR.out];exact World.ownsRow_nil _ _ _ _,?_,?_⟩
     ·rw[HR.out,HM.out];refine .inr (.inr ⟨8,w6.heap.size,0,(l.length:Int),by decide,hB6.size,rfl,?_,?_,rfl⟩)
      ·simp
      ·simp
     ·exact hB6.alloc hB6.size _
open Go.RowKit Go.Maps
abbrev Quu (d:Qhf):Rcp:=(d.1,d.2.1,(d.2.2.1:Int),d.2.2.2)
def tUp (c:UInt8)(s:List UInt8)(ok:Bool):List UInt8×List UInt8×Bool:=((Lib.cut s [c]).1,(Lib.cut s [c]).2.1,ok&&(Lib.cut s [c]).2.2)
def Qey (c:UInt8)(s:List UInt8)(ok:Bool):Nat×List UInt8×Bool:=((numOf (tUp c s ok).1 6).getD 0,(tUp c s ok).2.1,(tUp c s ok).2.2&&(numOf (tUp c s ok).1 6).isSome)
def Gr (s:List UInt8)(ok:Bool):Rcp×List UInt8×Bool:=(Quu (Qs (tUp 10 s ok).1).1,(tUp 10 s ok).2.1,(tUp 10 s ok).2.2&&decide ((Qs (tUp 10 s ok).1).2=(0,-1)))
def V5:Nat→List Rcp→List UInt8→Bool→List Rcp×List UInt8×Bool
 | 0,l,s,ok=>(l,s,ok)
 | n+1,l,s,ok=>if ok=true then V5 n (l++[(Gr s ok).1]) (Gr s ok).2.1 (Gr s ok).2.2 else (l,s,ok)
theorem Qjp (n:Nat)(l:List Rcp)(s:List UInt8):V5 n l s false=(l,s,false):=by
 cases n with
 | zero=>rfl
 | succ n=>simp[V5]
theorem Qei (n:Nat)(l:List Rcp)(s:List UInt8):V5 (n+1) l s true=V5 n (l++[(Gr s true).1]) (Gr s true).2.1 (Gr s true).2.2:=by simp[V5]
def Qg0 (s:List UInt8):List UInt8×Bool:=((tUp 32 s true).2.1,(tUp 32 s true).2.2&&decide ((tUp 32 s true).1=[108,111,97,100]))
def Qgg (s:List UInt8):Nat×List UInt8×Bool:=Qey 32 (Qg0 s).1 (Qg0 s).2
def Qfe (s:List UInt8):Nat×List UInt8×Bool:=Qey 10 (Qgg s).2.1 (Qgg s).2.2
def Gy (s:List UInt8):List Rcp×List UInt8×Bool:=V5 (Qgg s).1 [] (Qfe s).2.1 (Qfe s).2.2
def tOk (s:List UInt8):Bool:=(Gy s).2.2&&decide ((readsOf (Gy s).2.1).2.1=0)&&decide ((Gy s).2.1.length=(Qfe s).1)
theorem Qa2 (c:UInt8)(s:List UInt8)(ok:Bool):(tUp c s ok).1.length≤s.length∧(tUp c s ok).2.1.length≤s.length:=by
 have h:=Qjl s c;unfold tUp;exact⟨by simp only;omega,by simp only;omega⟩
def Ye (s:List UInt8):Nat:=
 if 40000<s.length then 2 else if s.length<8 then 1 else
  match unhex8 (s.drop (s.length - 8))with
  | none=>1
  | some n=>if tOk (s.take (s.length - 8))=false then 1 else if pmore 2166136261 (s.take (s.length - 8))=n then 0 else 9
theorem Qg5 (c:UInt8):∀(k:Nat) (s:List UInt8),Lib.count s [c]=k→Lib.splitK [c] 0 k s=cutBy c s
 | 0,s,h=>by
  have hi:Lib.index s [c]=-1:=by
   have hge:=Lib.index_ge s [c];rcases Int.lt_or_le (Lib.index s [c]) 0 with h0|h0
   ·omega
   ·obtain⟨i,hi⟩:=Int.eq_ofNat_of_zero_le h0;have:=Lib.count_hit (by simp) hi;omega
  rw[Lib.index_one]at hi;have hn:c ∉ s:=fun hm=>by obtain⟨j,hj,e⟩:=List.getElem_of_mem hm;exact Lib.indexByte_none hi j (by rw[List.getElem?_eq_getElem hj,e])
  rw[Qim c s hn];rfl
 | k+1,s,h=>by
  have hge:=Lib.index_ge s [c];have hne:Lib.index s [c]≠-1:=fun e=>by rw[Lib.count_miss e]at h;omega
  obtain⟨i,hi⟩:∃i:Nat,Lib.index s [c]=i:=⟨(Lib.index s [c]).toNat,by omega⟩;have hc:=Lib.count_hit (by simp) hi;have hi2:=hi;rw[Lib.index_one]at hi2;obtain⟨h1,h2⟩:=Lib.indexByte_some hi2;obtain⟨hlt,hsi⟩:=List.getElem?_eq_some_iff.1 h1;have hn:c ∉ s.take i:=fun hm=>by obtain⟨j,hj,e⟩:=List.getElem_of_mem hm;have hji:j<i:=(by simp at hj;omega);refine h2 j hji ?_;rw[List.getElem?_eq_getElem (by omega)];rw[List.getElem_take]at e;rw[e]
  have hs:s=s.take i++c::s.drop (i+1):=by rw[←hsi,←List.drop_eq_getElem_cons hlt,List.take_append_drop]
  rw[Lib.splitK,if_neg (by rw[hi];simp),hi];have e1:((i:Int)).toNat=i:=Int.toNat_natCast i;rw[e1,Nat.add_zero];have hlen:([c]:List UInt8).length=1:=rfl;rw[hlen]at hc ⊢;rw[Qg5 c k _ (by omega)]
  conv=>rhs;rw[hs]
  rw[Gn c _ _ hn]
theorem Gp (s:ByteArray):(Lib.splitB ⟨#[32]⟩ 0 (Lib.countB s ⟨#[32]⟩) s)=(cutBy 32 s.data.toList).map fun l=>(⟨l.toArray⟩:ByteArray):=by
 have h:=Lib.splitB_data ⟨#[32]⟩ 0 (Lib.countB s ⟨#[32]⟩) s;have h2:Lib.splitK [32] 0 (Lib.count s.data.toList [32]) s.data.toList=cutBy 32 s.data.toList:=Qg5 32 _ _ rfl;have h3:(Lib.splitB ⟨#[32]⟩ 0 (Lib.countB s ⟨#[32]⟩) s).map (·.data.toList)=cutBy 32 s.data.toList:=h.trans h2;rw[←h3,List.map_map];have:((fun (l:List UInt8)=>(⟨l.toArray⟩:ByteArray)) ∘ fun (x:ByteArray)=>x.data.toList)=id:=by funext x;simp
 rw[this,List.map_id]
theorem Qrp {l:List UInt8}{n:Nat}(h:numOf l 6=some n):l.length≤6∧Gs l=true∧numOf l 9=some n∧Lib.hasPrefix l [45]=false:=by
 have hl:l.length≤6:=by
  unfold numOf at h;split at h
  ·cases h
  ·omega
 have ha:Gs l=true:=by unfold Gs;rw[←Qb5 l 6 hl,h];rfl
 obtain⟨m,hm,hmo⟩:=Qir ha;have e:m=n:=by have:=hmo 6 hl;rw[h]at this;exact(Option.some.inj this).symm
 subst e;refine⟨hl,ha,hmo 9 (by omega),?_⟩;unfold Lib.hasPrefix;cases l with
 | nil=>rfl
 | cons x r=>
  cases hx:([45]:List UInt8).isPrefixOf (x::r)with
  | false=>rfl
  | true=>
   have hx45:x=45:=(by simp[List.isPrefixOf]at hx;exact hx.symm);subst hx45;simp[undec,undec1]at hm
theorem Qt3 (g n:Nat)(hn:3≤n):∃P4 c4,(∀w:World,(Instr.slice 73 (.slice (some ⟨g,0,none⟩) n n) (some (.int .i64 3)) none none).run Tryz.prog w=.ok (.slice P4 (n - 3) c4) w)∧(3<n→P4=some ⟨g,3,none⟩):=by
 have hj2:(3:Int)≤(n:Int):=by omega
 by_cases hcap:n=3
 ·refine⟨some ⟨g,0,none⟩,n - 3,fun w => ?_,fun h=>by omega⟩;go_simp
 ·refine⟨some ⟨g,3,none⟩,n - 3,fun w => ?_,fun h=>rfl⟩;go_simp
theorem Qb1:∀(l:List (List UInt8)) (ids:List (Nat×Int)),Ze l=some ids→l.length=ids.length∧∀i (h:i<l.length) (h':i<ids.length),∃x,idRead l[i]=some x∧ids[i]=(x.1,(x.2:Int))
 | [],ids,h=>by cases h;exact⟨rfl,fun i h=>by simp at h⟩
 | t::r,ids,h=>by
  rw[Ze]at h;split at h
  ·rename_i x js hx hj
   cases h;obtain⟨h1,h2⟩:=Qb1 r js hj;refine⟨by simp[h1],fun i hi hi' => ?_⟩;cases i with
   | zero=>exact⟨x,hx,rfl⟩
   | succ i=>exact h2 i (by simpa using hi) (by simpa using hi')
  ·cases h
theorem Qgo {t:List UInt8}(h:(Qs t).2=(0,-1)):∃nm ln pr rs n p ids,cutBy 32 t=nm::ln::pr::rs∧numOf ln 6=some n∧unhex8 pr=some p∧Ze rs=some ids∧Qb nm n ids=(0,-1)∧Qs t=((nm,(n:Int),p,ids),(0,-1)):=by
 unfold Qs at h;split at h
 ·rename_i nm ln pr rs hc
  split at h
  ·rename_i n p ids h1 h2 h3
   split at h
   ·rename_i hf
    exact⟨nm,ln,pr,rs,n,p,ids,hc,h1,h2,h3,hf,by rw[Gc hc h1 h2 h3,if_pos hf]⟩
   ·rename_i hf
    exact absurd h hf
  ·simp at h
 ·simp at h
theorem Qli:∀(l:List UInt8) (n v:Nat),undec n l=some v→n*10 ^ l.length≤v
 | [],n,v,h=>by cases h;simp
 | c::l,n,v,h=>by
  rw[undec]at h;split at h
  ·rename_i d hd
   have:=Qli l (10*n+d) v h;have e:n*10 ^ (c::l).length=10*n*10 ^ l.length:=(by rw[List.length_cons,Nat.pow_succ,Nat.mul_comm (10 ^ l.length),←Nat.mul_assoc,Nat.mul_comm n 10]);rw[e];exact Nat.le_trans (Nat.mul_le_mul_right _ (Nat.le_add_right _ _)) this
  ·cases h
theorem Qa4 {l:List UInt8}{m n:Nat}(h:numOf l m=some n):1≤l.length∧l.length≤m∧(1<l.length→l.head? ≠ some 48)∧undec 0 l=some n:=by
 unfold numOf at h;split at h
 ·cases h
 ·rename_i hc
  refine⟨by omega,by omega,fun h1 h2=>hc (.inr (.inr ⟨h1,h2⟩)),h⟩
theorem Qmh {c:UInt8}{l:List UInt8}{m n:Nat}(h:numOf (c::l) m=some n):∃d,undec1 c=some d∧undec d l=some n∧d*10 ^ l.length≤n:=by
 obtain⟨_,_,_,h4⟩:=Qa4 h;rw[undec]at h4;split at h4
 ·rename_i d hd
  rw[Nat.mul_zero,Nat.zero_add]at h4;exact⟨d,hd,h4,Qli l d n h4⟩
 ·cases h4
theorem Qeq {c:UInt8}(h:undec1 c=some 0):c=48:=by
 unfold undec1 at h;split at h
 ·rename_i hc
  have:c.toNat=48:=by simp at h;omega
  exact UInt8.toNat_inj.1 this
 ·cases h
theorem Qst {l:List UInt8}{m:Nat}(h:numOf l m=some 0):l=[48]:=by
 obtain⟨h1,_,h3,_⟩:=Qa4 h;cases l with
 | nil=>simp at h1
 | cons c r=>
  obtain⟨d,hd,_,hle⟩:=Qmh h;have hd0:d=0:=by
   rcases Nat.eq_zero_or_pos d with h|h
   ·exact h
   ·have:0<d*10 ^ r.length:=Nat.mul_pos h (Nat.pow_pos (by decide));omega
  subst hd0;obtain rfl:=Qeq hd;cases r with
  | nil=>rfl
  | cons x r=>exact absurd rfl (h3 (by simp))
def lenR (s:List UInt8):Option Int:=
 if Gs (Lib.trimPrefix s [45])=false∨(Lib.hasPrefix s [45]=true∧Lib.trimPrefix s [45]=[48]) then none else
  some (if Lib.hasPrefix s [45]=true then -(((numOf (Lib.trimPrefix s [45]) 9).getD 4001:Nat):Int) else (((numOf (Lib.trimPrefix s [45]) 9).getD 4001:Nat):Int))
theorem Qio {s:List UInt8}(h:Lib.hasPrefix s [45]=false):Lib.trimPrefix s [45]=s:=by
 unfold Lib.trimPrefix;rw[h];simp
theorem Qoq {s:List UInt8}{n:Nat}(h:numOf s 6=some n):lenR s=some (n:Int):=by
 obtain⟨_,ha,h9,hp⟩:=Qrp h;unfold lenR;rw[Qio hp,if_neg (by rw[ha,hp];simp),hp,h9];simp
theorem Qrr {s:List UInt8}{n:Int}(h:lenR s=some n)(h0:0≤n)(h1:n≤4000):numOf s 6=some n.toNat:=by
 unfold lenR at h;split at h
 ·cases h
 ·rename_i hc
  cases hp:Lib.hasPrefix s [45]with
  | true=>
   rw[hp,if_pos rfl]at h;have hk:((numOf (Lib.trimPrefix s [45]) 9).getD 4001)=0:=by have:-(((numOf (Lib.trimPrefix s [45]) 9).getD 4001:Nat):Int)=n:=(by simpa using h);omega
   have h9:numOf (Lib.trimPrefix s [45]) 9=some 0:=by
    cases h9:numOf (Lib.trimPrefix s [45]) 9 with
    | none=>rw[h9]at hk;simp at hk
    | some k=>rw[h9]at hk;simp at hk;rw[hk]
   exact absurd (.inr ⟨hp,Qst h9⟩) hc
  | false=>
   rw[hp,if_neg (by simp),Qio hp]at h;have hk:(((numOf s 9).getD 4001:Nat):Int)=n:=(by simpa using h);have h9:numOf s 9=some n.toNat:=by
    cases h9:numOf s 9 with
    | none=>rw[h9]at hk;simp at hk;omega
    | some k=>rw[h9]at hk;simp at hk;rw[←hk];simp
   obtain⟨g1,g2,g3,g4⟩:=Qa4 h9;have g6:s.length≤6:=by
    rcases Nat.lt_or_ge 6 s.length with hl|hl
    ·exfalso;cases s with
     | nil=>simp at g1
     | cons c r=>
      obtain⟨d,hd,_,hle⟩:=Qmh h9;have hr:6≤r.length:=(by simp at hl;omega);have hd1:1≤d:=by
       rcases Nat.eq_zero_or_pos d with h|h
       ·subst h;obtain rfl:=Qeq hd;exact absurd rfl (g3 (by simp;omega))
       ·exact h
      have h10:10 ^ 6≤10 ^ r.length:=Nat.pow_le_pow_right (by decide) hr;have:10 ^ 6≤d*10 ^ r.length:=Nat.le_trans h10 (Nat.le_mul_of_pos_left _ hd1);omega
    ·exact hl
   unfold numOf;rw[if_neg (by rintro(h|h|⟨h,h'⟩);omega;omega;exact g3 h h'),g4]
theorem Qmb (s:ByteArray)(hs:s.size≤50000)(w:World) :
 Calls Tryz.prog 328 #[.string s] w fun e w'=>e=.returned (.tuple #[.int .i64 ((lenR s.data.toList).getD 0),.bool (lenR s.data.toList).isSome])∧w'=w:=by
 obtain⟨P,hP⟩:∃P:ByteArray,(⟨(Lib.trimPrefix s.data.toList [45]).toArray⟩:ByteArray)=P:=⟨_,rfl⟩;have hPd:P.data.toList=Lib.trimPrefix s.data.toList [45]:=by rw[←hP]
 have HS:Hid (P.size≤maxLen):=by
  show _≤_;have h1:P.data.toList.length=P.size:=Qh P;have h2:s.data.toList.length=s.size:=Qh s;rw[hPd]at h1;unfold Lib.trimPrefix at h1;unfold maxLen;split at h1
  ·rw[List.length_drop]at h1;omega
  ·omega
 have HC:Hid (∀w:World,Calls Tryz.prog 350 #[.string s,.string ⟨#[45]⟩] w fun e w'=>e=.returned (.tuple #[.string P,.bool (Lib.hasPrefix s.data.toList [45])])∧w'=w):=fun w=>by refine(Tryz.strings_CutPrefix s ⟨#[45]⟩ w).mono fun e w' ⟨h1,h2⟩=>⟨?_,h2⟩;rw[h1,←hP]
 have HR:Hid (lenR s.data.toList=if Gs P.data.toList=false∨(Lib.hasPrefix s.data.toList [45]=true∧P.data.toList=[48]) then none else some (if Lib.hasPrefix s.data.toList [45]=true then -(((numOf P.data.toList 9).getD 4001:Nat):Int) else (((numOf P.data.toList 9).getD 4001:Nat):Int))):=by show _=_;unfold lenR;rw[hPd]
 obtain⟨R,hR⟩:∃R,lenR s.data.toList=R:=⟨_,rfl⟩;rw[hR]at HR ⊢;obtain⟨b,hb⟩:∃b,Lib.hasPrefix s.data.toList [45]=b:=⟨_,rfl⟩;rw[hb]at HR HC;obtain⟨A,hA⟩:∃A,Gs P.data.toList=A:=⟨_,rfl⟩;have HA:=Qa hA;rw[hA]at HR;clear hR hb hP hPd hs hA;cases A with
 | false=>
  have HR1:Hid (R=none):=HR.out.trans (if_pos (.inl rfl));clear HR;go_enter Tryz.func328,Tryz.ntmps328;go_wp2_with fail;refine(HC.out _).mono ?_;rintro e w1 ⟨rfl,hw1⟩;subst hw1;go_wp2_with fail;refine(Qbb P HS.out _).mono ?_;rintro e w1 ⟨rfl,hw1⟩;subst hw1;rw[HA.out];go_wp2_with fail;go_ret2;rw[HR1.out];exact⟨rfl,rfl⟩
 | true=>
  have HN:Hid (∃o,numOf P.data.toList 9=o∧(∀n,o=some n→n<1000000000)):=⟨_,rfl,fun n h=>by have h1:=Qa4 h;exact Nat.lt_of_lt_of_le (Qkm P P.data.toList.length n 9 (by have:=Qh P;omega) (by rw[List.take_length];exact h1.2.2.2)) (by decide)⟩;obtain⟨o,ho,hlt⟩:=HN.out;have HO:=Qa ho;rw[ho]at HR;clear HN ho;cases b with
  | false=>
   have HR1:Hid (R=some ((o.getD 4001:Nat):Int)):=HR.out.trans (by rw[if_neg (by simp)];simp);clear HR;go_enter Tryz.func328,Tryz.ntmps328;go_wp2_with fail;refine(HC.out _).mono ?_;rintro e w1 ⟨rfl,hw1⟩;subst hw1;go_wp2_with fail;refine(Qbb P HS.out _).mono ?_;rintro e w1 ⟨rfl,hw1⟩;subst hw1;rw[HA.out];go_wp2_with fail;refine(Qmf P HS.out _).mono ?_;rintro e w1 ⟨rfl,hw1⟩;subst hw1;rw[HO.out];unfold Yi;cases o
   all_goals go_wp2_with fail
   all_goals go_ret2
   all_goals rw[HR1.out]
   all_goals exact⟨rfl,rfl⟩
  | true=>
   by_cases h0:P=⟨#[48]⟩
   ·subst h0;have HR1:Hid (R=none):=HR.out.trans (if_pos (.inr ⟨rfl,rfl⟩));clear HR HO;go_enter Tryz.func328,Tryz.ntmps328;go_wp2_with fail;refine(HC.out _).mono ?_;rintro e w1 ⟨rfl,hw1⟩;subst hw1;go_wp2_with fail;refine(Qbb _ HS.out _).mono ?_;rintro e w1 ⟨rfl,hw1⟩;subst hw1;rw[HA.out];go_wp2_with fail;go_ret2;rw[HR1.out];exact⟨rfl,rfl⟩
   ·have n1:(P.toList==[48])=false:=(by rw[ByteArray.toList_eq,beq_eq_false_iff_ne];exact fun e=>h0 (WideShapes.bytes_inj (by rw[e])));have HR1:Hid (R=some (-((o.getD 4001:Nat):Int))):=HR.out.trans (by
     rw[if_neg (by
      rintro(h|⟨_,h⟩)
      ·cases h
      ·exact h0 (WideShapes.bytes_inj (by rw[h])))]
     simp)
    clear HR h0;go_enter Tryz.func328,Tryz.ntmps328;go_wp2_with fail;refine(HC.out _).mono ?_;rintro e w1 ⟨rfl,hw1⟩;subst hw1;go_wp2_with fail;refine(Qbb P HS.out _).mono ?_;rintro e w1 ⟨rfl,hw1⟩;subst hw1;rw[HA.out];go_wp2_with fail;refine(Qmf P HS.out _).mono ?_;rintro e w1 ⟨rfl,hw1⟩;subst hw1;rw[HO.out];unfold Yi;cases o with
    | none=>
     go_wp2_with fail;go_ret2;rw[HR1.out];exact⟨rfl,rfl⟩
    | some n=>
     have hn9:=hlt n rfl;go_wp2_with fail;go_ret2;rw[HR1.out];exact⟨rfl,rfl⟩
end Go.Proofs.YtjngnnbondejaabGreatDoor
