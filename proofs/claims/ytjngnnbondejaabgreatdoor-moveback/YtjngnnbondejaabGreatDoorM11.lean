/- A part. -/
import Derived.Test.YtjngnnbondejaabGreatDoorM10
set_option maxHeartbeats 8000000
set_option maxRecDepth 100000
namespace Go.Proofs.YtjngnnbondejaabGreatDoor
open Go.RowKit Go.Maps
theorem Qvk:Qu0 Qo where
 trans a b c h1 h2:=by
  unfold Qo at *;split at h1<;>split at h2<;>simp only[decide_eq_true_eq]at h1 h2
  ·rw[if_pos (by omega)];simp only[decide_eq_true_eq];omega
  ·rw[if_neg (by omega)];simp only[decide_eq_true_eq];omega
  ·rw[if_neg (by omega)];simp only[decide_eq_true_eq];omega
  ·rw[if_neg (by omega)];simp only[decide_eq_true_eq];omega
 conn a b hn h:=by
  obtain⟨a1,a2⟩:=a;obtain⟨b1,b2⟩:=b;unfold Qo at *;split at h<;>simp only[decide_eq_false_iff_not]at h
  ·rename_i e
   simp only at e h ⊢;rw[if_pos (by omega)];simp only[decide_eq_true_eq];have:a2≠b2:=fun e2=>hn (by rw[e2,show a1=b1 by omega]);omega
  ·rename_i e
   simp only at e h ⊢;rw[if_neg (by omega)];simp only[decide_eq_true_eq];omega
 ne a b h e:=by subst e;simp[Qo]at h
def Qdo (l:List Qr)(x:Nat×Int)(b:List Hd):List Qr:=match kFind l x with|some k=>l.set k (x,b)|none=>Ux Qo l (x,b)
theorem Qae {κ β:Type}[DecidableEq κ]{l:List (κ×β)}{x:κ}(h:∀y∈l,y.1≠x):l.filter (fun y => !decide (y.1=x))=l:=List.filter_eq_self.2 fun y hy=>by simp[h y hy]
theorem set_perm {κ β:Type}[DecidableEq κ]:∀{l:List (κ×β)} {x:κ} {k:Nat} (b:β),l.Pairwise (fun a b=>a.1≠b.1)→kFind l x=some k→(l.set k (x,b)).Perm ((x,b)::l.filter (fun y => !decide (y.1=x)))
 | [],_,_,_,_,h=>by cases h
 | y::r,x,k,b,hp,h=>by
  obtain⟨h1,h2⟩:=List.pairwise_cons.1 hp;rw[kFind]at h;split at h
  ·rename_i e
   cases h;subst e;rw[List.set_cons_zero,List.filter_cons,if_neg (by simp),Qae (fun z hz=>Ne.symm (h1 z hz))]
  ·rename_i e
   cases hr:kFind r x with
   | none=>rw[hr]at h;cases h
   | some j=>
    rw[hr]at h;cases h;rw[List.set_cons_succ,List.filter_cons,if_pos (by simp[e])];exact((set_perm b h2 hr).cons y).trans (List.Perm.swap _ _ _)
theorem Qp4 {l:List Qr}(x:Nat×Int)(b:List Hd)(hp:l.Pairwise (fun a b=>a.1≠b.1)):(Qdo l x b).Perm ((x,b)::l.filter (fun y => !decide (y.1=x))):=by
 unfold Qdo;cases h:kFind l x with
 | some k=>exact set_perm b hp h
 | none=>
  rw[Qae (Qdu h)];exact kIns_perm _ _ _
theorem Qkq {κ β:Type}{R:κ→κ→Prop}:∀{l:List (κ×β)} {k:Nat} (hk:k<l.length) (b:β),l.Pairwise (fun a b=>R a.1 b.1)→(l.set k (l[k].1,b)).Pairwise (fun a b=>R a.1 b.1)
 | [],_,h,_,_=>by simp at h
 | y::r,0,_,b,hp=>by obtain⟨h1,h2⟩:=List.pairwise_cons.1 hp;exact List.pairwise_cons.2 ⟨h1,h2⟩
 | y::r,k+1,h,b,hp=>by
  obtain⟨h1,h2⟩:=List.pairwise_cons.1 hp;have hk:k<r.length:=by simpa using h
  refine List.pairwise_cons.2 ⟨fun z hz => ?_,Qkq hk b h2⟩;rcases List.mem_or_eq_of_mem_set hz with hz|rfl
  ·exact h1 z hz
  ·exact h1 r[k] (List.getElem_mem hk)
theorem Qlf {l:List Qr}(x:Nat×Int)(b:List Hd)(hp:l.Pairwise (fun a b=>Qo a.1 b.1=true)):(Qdo l x b).Pairwise (fun a b=>Qo a.1 b.1=true):=by
 unfold Qdo;cases h:kFind l x with
 | some k=>
  obtain⟨hk,e⟩:=Xd h;simp only;rw[←e];exact Qkq (R:=fun a b=>Qo a b=true) hk b hp
 | none=>exact Qaf Qvk _ _ hp (Qdu h)
structure Yu (st sm:NSt):Prop where
 files:sm.files.Perm st.files
 bins:sm.bins.Perm st.bins
 fsort:sm.files.Pairwise (fun a b=>ltN a.1 b.1=true)
 bsort:sm.bins.Pairwise (fun a b=>Qo a.1 b.1=true)
theorem Yu.empty:Yu ⟨[],[]⟩ ⟨[],[]⟩:=⟨List.Perm.nil,List.Perm.nil,List.Pairwise.nil,List.Pairwise.nil⟩
theorem Yu.fne {st sm:NSt}(h:Yu st sm):sm.files.Pairwise (fun a b=>a.1≠b.1):=Qos Qvs h.fsort
theorem Yu.bne {st sm:NSt}(h:Yu st sm):sm.bins.Pairwise (fun a b=>a.1≠b.1):=Qos Qvk h.bsort
theorem Yu.fne' {st sm:NSt}(h:Yu st sm):st.files.Pairwise (fun a b=>a.1≠b.1):=(h.files.pairwise_iff (fun {_ _} hne=>Ne.symm hne)).1 h.fne
theorem Yu.bne' {st sm:NSt}(h:Yu st sm):st.bins.Pairwise (fun a b=>a.1≠b.1):=(h.bins.pairwise_iff (fun {_ _} hne=>Ne.symm hne)).1 h.bne
theorem Yu.file {st sm:NSt}(h:Yu st sm)(x:List UInt8):nFile sm.files x=nFile st.files x:=by
 cases e:nFile sm.files x with
 | some s=>exact(Jj h.fne' (h.files.mem_iff.1 (nFile_some e))).symm
 | none=>
  cases e2:nFile st.files x with
  | none=>rfl
  | some s=>exact absurd rfl (Ju e _ (h.files.mem_iff.2 (nFile_some e2)))
theorem Yu.bin {st sm:NSt}(h:Yu st sm)(x:Nat×Int):Zi sm.bins x=Zi st.bins x:=by
 cases e:Zi sm.bins x with
 | some s=>exact(Zz h.bne' (h.bins.mem_iff.1 (J3 e))).symm
 | none=>
  cases e2:Zi st.bins x with
  | none=>rfl
  | some s=>exact absurd rfl (Qa3 e _ (h.bins.mem_iff.2 (J3 e2)))
def Qdr (st:NSt)(nm s:List UInt8):Int×Int×NSt:=
 if (Jt st nm s).2.1≠0 then Jt st nm s else
  ((Jt st nm s).1,0,⟨Ux ltN st.files (nm,s),Qdo st.bins (Qg s) (Za ((Zi st.bins (Qg s)).getD []) 0 (pieces s)).2.2⟩)
theorem Yu.put {st sm:NSt}(h:Yu st sm)(nm s:List UInt8):(Qdr sm nm s).1=(Jt st nm s).1∧(Qdr sm nm s).2.1=(Jt st nm s).2.1∧Yu (Jt st nm s).2.2 (Qdr sm nm s).2.2:=by
 have hf:=h.file nm;have hb:=h.bin (Qg s);have hl:=h.files.length_eq;have hc:=nPut_cases' st nm s;have hm:=nPut_cases' sm nm s;have e1:(Jt sm nm s).1=(Jt st nm s).1∧(Jt sm nm s).2.1=(Jt st nm s).2.1:=by
  unfold Jt;rw[hf,hb,hl];split
  ·exact⟨rfl,rfl⟩
  ·cases nFile st.files nm with
   | some t=>exact⟨rfl,rfl⟩
   | none=>
    simp only;split
    ·exact⟨rfl,rfl⟩
    ·split<;>exact⟨rfl,rfl⟩
 unfold Qdr;by_cases hz:(Jt sm nm s).2.1=0
 ·rw[if_neg (by rw[hz];simp)];refine⟨e1.1,by rw[←e1.2,hz],?_⟩;rcases hc with⟨h1,_⟩|⟨h1,h2,h3,h4⟩
  ·rw[←e1.2,hz]at h1;exact absurd rfl h1
  ·rw[h4,hb];have hno:∀y∈sm.files,y.1≠nm:=Ju (by rw[hf];exact h2);refine⟨?_,?_,Qaf Qvs _ _ h.fsort hno,Qlf _ _ h.bsort⟩
   ·exact(kIns_perm ltN sm.files (nm,s)).trans (h.files.cons _)
   ·exact(Qp4 _ _ h.bne).trans ((h.bins.filter _).cons _)
 ·rw[if_pos hz];refine⟨e1.1,e1.2,?_⟩;have h4:(Jt sm nm s).2.2=sm:=by
   rcases hm with⟨_,_,e⟩|⟨h1,h2,h3,e⟩
   ·exact e
   ·rw[e]at hz;exact absurd rfl hz
  have h5:(Jt st nm s).2.2=st:=by
   rcases hc with⟨_,_,e⟩|⟨h1,h2,h3,e⟩
   ·exact e
   ·rw[e1.2,e]at hz;exact absurd rfl hz
  rw[h4,h5];exact h
theorem Qfd (st:NSt)(nm:List UInt8):(Z5 st nm).1=(match nFile st.files nm with|none=>5|some _=>0):=by
 unfold Z5;cases nFile st.files nm with
 | none=>rfl
 | some s=>
  simp only;split<;>rfl
theorem Yu.drop {st sm:NSt}(h:Yu st sm)(nm:List UInt8):(Z5 sm nm).1=(Z5 st nm).1∧Yu (Z5 st nm).2 (Z5 sm nm).2:=by
 refine⟨by rw[Qfd,Qfd,h.file],?_⟩;unfold Z5;rw[h.file];cases nFile st.files nm with
 | none=>exact h
 | some s=>
  simp only;have hp:=h.files.filter (fun f => !decide (f.1=nm));have ha:(sm.files.filter (fun f => !decide (f.1=nm))).any (fun f=>decide (Qg f.2=Qg s))=(st.files.filter (fun f => !decide (f.1=nm))).any (fun f=>decide (Qg f.2=Qg s)):=hp.any_eq;rw[ha];split
  ·refine⟨hp,h.bins.map _,h.fsort.filter _,?_⟩;rw[List.pairwise_map];refine h.bsort.imp fun {a b} e => ?_;have ea:(if a.1=Qg s then (a.1,Zl a.2 (idsOf s)) else a).1=a.1:=(by split<;>rfl)
   have eb:(if b.1=Qg s then (b.1,Zl b.2 (idsOf s)) else b).1=b.1:=(by split<;>rfl)
   rw[ea,eb];exact e
  ·exact⟨hp,h.bins.filter _,h.fsort.filter _,h.bsort.filter _⟩
theorem Qqx {a b:List Int}(h:a.Perm b):a.sum=b.sum:=by
 induction h with
 | nil=>rfl
 | cons x _ ih=>rw[List.sum_cons,List.sum_cons,ih]
 | swap x y l=>rw[List.sum_cons,List.sum_cons,List.sum_cons,List.sum_cons];omega
 | trans _ _ h1 h2=>rw[h1,h2]
theorem Yu.sweep {st sm:NSt}(h:Yu st sm):(Xo sm).1=(Xo st).1∧Yu (Xo st).2 (Xo sm).2:=by
 refine⟨Qqx (h.bins.map _),h.files,h.bins.map _,h.fsort,?_⟩;show List.Pairwise _ (sm.bins.map _);rw[List.pairwise_map];exact h.bsort
theorem Yu.inv {st sm:NSt}(h:Yu st sm)(hI:Xh st):Xh sm:=
 ⟨h.fne,h.bne,fun f hf=>by obtain⟨l,hl⟩:=hI.has f (h.files.mem_iff.1 hf);exact⟨l,h.bins.mem_iff.2 hl⟩,fun b hb=>(hI.log b (h.bins.mem_iff.1 hb)).perm (Ur h.files.symm _)⟩
theorem Yu.ok {st sm:NSt}(h:Yu st sm){U:Int}{n:Nat}(hO:NOk U n st):NOk U n sm:=
 ⟨fun b hb=>hO.bins b (h.bins.mem_iff.1 hb),by rw[h.bins.length_eq];exact hO.many,fun f hf=>hO.files f (h.files.mem_iff.1 hf)⟩
structure Yx (w W:World)(F:Nat→Prop)(rs:List (Value×List (List UInt8))):Prop where
 own:∀r∈rs,W.ownsRow w.heap.size 9 1 r.1 r.2.length (r.2.map Qjr)
 off:∀r∈rs,∀k,F k→r.1.ownBlock≠some k
 two:rs.Pairwise (fun a b=>∀k,a.1.ownBlock=some k→b.1.ownBlock≠some k)
theorem Yx.nil (w W:World)(F:Nat→Prop):Yx w W F []:=⟨fun r hr=>by simp at hr,fun r hr=>by simp at hr,List.Pairwise.nil⟩
theorem Yx.sub {w W:World}{F:Nat→Prop}{rs rs':List (Value×List (List UInt8))}(h:Yx w W F rs)(hs:rs'.Sublist rs):Yx w W F rs':=
 ⟨fun r hr=>h.own r (hs.subset hr),fun r hr=>h.off r (hs.subset hr),h.two.sublist hs⟩
theorem Yx.below {w W W':World}{F:Nat→Prop}{rs:List (Value×List (List UInt8))}(h:Yx w W F rs)(hb:Below W.heap.size W W'):Yx w W' F rs:=
 ⟨fun r hr=>Qi (h.own r hr) hb,h.off,h.two⟩
theorem Yx.prog {w W W':World}{F F':Nat→Prop}{rs:List (Value×List (List UInt8))}(h:Yx w W F rs)(ho:Off F W W')(hF:∀k,F' k→F k∨W.heap.size≤k):Yx w W' F' rs:=by
 refine⟨fun r hr=>ho.row (h.own r hr) (fun k hk hf=>h.off r hr k hf hk),fun r hr k hk e => ?_,h.two⟩;rcases hF k hk with hk|hk
 ·exact h.off r hr k hk e
 ·have:=Qan (h.own r hr) e;omega
theorem Yx.app {w W W':World}{F:Nat→Prop}{A B:List (Value×List (List UInt8))}{v v':Value}{t t':List (List UInt8)}(h:Yx w W F (A++(v,t)::B))(hF:∀k,F k→k<W.heap.size)(hg:W.grownBy W' v.ownBlock)(hr:W'.ownsRow w.heap.size 9 1 v' t'.length (t'.map Qjr))(hv:v'.ownBlock=v.ownBlock∨v'.ownBlock=some W.heap.size):Yx w W' F (A++(v',t')::B):=by
 have ho:=Zd hg;obtain⟨tA,tB,tAB⟩:=List.pairwise_append.1 h.two;obtain⟨tv,tB⟩:=List.pairwise_cons.1 tB;have hvm:(v,t)∈A++(v,t)::B:=List.mem_append_right _ (List.mem_cons_self ..);have hother:∀r,r∈A∨r∈B→r∈A++(v,t)::B∧∀k,v.ownBlock=some k→r.1.ownBlock≠some k:=fun r hr=>by
  rcases hr with hr|hr
  ·exact⟨List.mem_append_left _ hr,fun k hk e=>tAB r hr _ (List.mem_cons_self ..) k e hk⟩
  ·exact⟨List.mem_append_right _ (List.mem_cons_of_mem _ hr),fun k hk=>tv r hr k hk⟩
 have hnew:∀r,r∈A∨r∈B→∀k,v'.ownBlock=some k→r.1.ownBlock≠some k:=fun r hr k hk e=>by
  rcases hv with hv|hv
  ·exact(hother r hr).2 k (hv▸hk) e
  ·have:=Qan (h.own r (hother r hr).1) e;rw[hv]at hk;have:=Option.some.inj hk;omega
 have hmem:∀r,r∈A++(v',t')::B→r=(v',t')∨(r∈A∨r∈B):=fun r hr=>by
  rcases List.mem_append.1 hr with hr|hr
  ·exact .inr (.inl hr)
  ·rcases List.mem_cons.1 hr with hr|hr
   ·exact .inl hr
   ·exact .inr (.inr hr)
 refine⟨fun r hm => ?_,fun r hm k hk e => ?_,List.pairwise_append.2 ⟨tA,List.pairwise_cons.2 ⟨fun b hb k hk=>hnew b (.inr hb) k hk,tB⟩,fun a ha b hb k hk => ?_⟩⟩
 ·rcases hmem r hm with rfl|hm
  ·exact hr
  ·obtain⟨h1,h2⟩:=hother r hm;exact ho.row (h.own r h1) (fun k hk e=>h2 k e hk)
 ·rcases hmem r hm with rfl|hm
  ·rcases hv with hv|hv
   ·exact h.off _ hvm k hk (hv▸e)
   ·have:=hF k hk;simp only at e;rw[hv]at e;have:=Option.some.inj e;omega
  ·exact h.off r (hother r hm).1 k hk e
 ·rcases List.mem_cons.1 hb with rfl|hb
  ·exact fun e=>hnew a (.inl ha) k e hk
  ·exact tAB a ha b (List.mem_cons_of_mem _ hb) k hk
theorem Yx.cell {w W:World}{F:Nat→Prop}{rs:List (Value×List (List UInt8))}(h:Yx w W F rs){v:Value}{t:List (List UInt8)}(hm:(v,t)∈rs)(hn:t≠[]):∃g c,v=.slice (some ⟨g,0,none⟩) t.length c∧∀i (hi:i<t.length),W.cell? ⟨g,i,none⟩=some (Qjr t[i]):=by
 have h1:=h.own _ hm;have k1:=h1.2;simp only at h1 k1;rcases k1 with⟨_,hz⟩|⟨g,cap,cur,hv,_⟩
 ·exact absurd (List.length_eq_zero_iff.1 hz) hn
 ·refine⟨g,cap,hv,fun i hi => ?_⟩;have c1:=h1.cells (g:=g) (by rw[hv];rfl) i (Qjr t[i]) (by simp[hi]);simp only[add_plain]at c1;exact c1
theorem Yx.shape {w W:World}{F:Nat→Prop}{rs:List (Value×List (List UInt8))}(h:Yx w W F rs){v:Value}{t:List (List UInt8)}(hm:(v,t)∈rs):∃p c,v=.slice p t.length c:=by
 rcases(h.own _ hm).2 with⟨e,e2⟩|⟨g,cap,cur,e,_⟩
 ·simp only at e e2;exact⟨_,_,by rw[e,e2]⟩
 ·exact⟨_,_,e⟩
theorem Vu {x:List UInt8}(h:Qj x=true):x.length≤12:=by
 unfold Qj at h;simp only[Bool.and_eq_true,decide_eq_true_eq]at h;exact h.2.2
theorem Ym {s:ByteArray}{l:List UInt8}(h:s≠⟨l.toArray⟩):(s.toList==l)=false:=by
 rw[ByteArray.toList_eq,beq_eq_false_iff_ne];exact fun e=>h (WideShapes.bytes_inj (by rw[e]))
structure U2 (w W:World)(p:Addr)(F:Nat→Prop)(st:NSt)(rs:List (Value×List (List UInt8))):Prop where
 below:Below w.heap.size w W
 node:Q9 W p F st
 new:∀k,F k→w.heap.size≤k
 rows:Yx w W F rs
theorem U2.next {w W W':World}{p:Addr}{F:Nat→Prop}{st:NSt}{rs:List (Value×List (List UInt8))}(h:U2 w W p F st rs)(hb:Below W.heap.size W W'):U2 w W' p F st rs:=
 ⟨h.below.trans (hb.mono h.below.size),h.node.below hb,h.new,h.rows.below hb⟩
theorem U2.prog {w W W':World}{p:Addr}{F F':Nat→Prop}{st st':NSt}{rs:List (Value×List (List UInt8))}(h:U2 w W p F st rs)(hp:Q9 W' p F' st')(hF:∀k,F' k→F k∨W.heap.size≤k)(ho:Off F W W'):U2 w W' p F' st' rs:=
 ⟨h.below.trans (ho.below h.below.size (fun k hk hf=>by have:=h.new k hf;omega)),hp,fun k hk=>(hF k hk).elim (h.new k) (fun h2=>Nat.le_trans h.below.size h2),h.rows.prog ho hF⟩
theorem U2.app {w W W':World}{p:Addr}{F:Nat→Prop}{st:NSt}{A B:List (Value×List (List UInt8))}{v v':Value}{t t':List (List UInt8)}(h:U2 w W p F st (A++(v,t)::B))(hg:W.grownBy W' v.ownBlock)(hr:W'.ownsRow w.heap.size 9 1 v' t'.length (t'.map Qjr))(hv:v'.ownBlock=v.ownBlock∨v'.ownBlock=some W.heap.size):U2 w W' p F st (A++(v',t')::B):=by
 have ho:=Zd hg;have hvm:(v,t)∈A++(v,t)::B:=List.mem_append_right _ (List.mem_cons_self ..);exact⟨h.below.trans (ho.below h.below.size (fun k hk e=>by have:=Kc (h.rows.own _ hvm) e;omega)),h.node.off ho (fun k hk e=>h.rows.off _ hvm k hk e),h.new,h.rows.app h.node.lt hg hr hv⟩
theorem Qdz (M:Nat)(vf vb:Value)(ps:List MF)(bs:List MB)(nm:ByteArray)(w:World)(hn:ps.length≤1000)(h:MSt w M vf vb ps bs) :
 Calls Tryz.prog 18 #[.pointer (some ⟨M,0,none⟩),.string nm] w fun e w'=>e=.returned (.int .i64 (Zk (mFs ps) nm.data.toList))∧w'=w:=by
 obtain⟨pf,cf,rfl,hcell⟩:=h.files;have q0:=h.blk.cell (i:=0) rfl;have HC:=Qa hcell;have hl2:(ps.length:Int)≤1000:=by omega
 clear hcell h hn;go_enter Tryz.func18,Tryz.ntmps18;go_wp2_with fail
 go_loopw [5] (fun i wr=>∃j:Nat,j≤ps.length∧i=.int .i64 j∧wr=w∧Hid (∀k (hk:k<(mFs ps).length),k<j→(mFs ps)[k].1≠nm.data.toList)) (fun i _=>ps.length - (intOf i).toNat)
 case atStart=>exact⟨0,Nat.zero_le _,rfl,rfl,fun k _ h=>by omega⟩
 case round=>
  obtain⟨j,hj,rfl,rfl,HNO⟩:=hrel;by_cases hlt:j<ps.length
  ·have hlt':(j:Int)<(ps.length:Int):=(by omega);have hj0:(0:Int)≤(j:Int):=(by omega);obtain⟨b,o,rfl,⟨hb,hc⟩,a0,_⟩:=HC.out j hlt;obtain⟨X,hX⟩:∃X:ByteArray,(⟨ps[j].1.1.toArray⟩:ByteArray)=X:=⟨_,rfl⟩;have hXd:X.data.toList=ps[j].1.1:=(by rw[←hX]);rw[hX]at a0;by_cases hx:X=nm
   ·have HE:Hid (Zk (mFs ps) nm.data.toList=(j:Int)):=(by show _=_;unfold Zk;rw[Qfi (mFs ps) nm.data.toList j (by first|(rw[Zg];exact hlt)|(rw[Qn];exact hlt)) HNO.out (by rw[Vj,←hx,hXd])]);subst hx;clear hX hXd;go_wp2_with fail;go_ret;exact⟨by rw[HE.out];rfl,rfl⟩
   ·have HNX:Hid (∀k (hk:k<(mFs ps).length),k<j+1→(mFs ps)[k].1≠nm.data.toList):=fun k hk hkj=>by
     rcases Nat.lt_or_ge k j with h'|h'
     ·exact HNO.out k hk h'
     ·obtain rfl:k=j:=(by omega);rw[Vj,←hXd];exact fun e=>hx (WideShapes.bytes_inj e)
    have hne:=Quv hx;clear hX hXd hx;go_wp2_with fail;go_roundw
    case rel=>exact⟨j+1,hlt,by go_num,by first|rfl|trivial,HNX.out⟩
    case measure=>simp[intOf];omega
  ·have hge:(ps.length:Int)≤(j:Int):=(by omega);have HE:Hid (Zk (mFs ps) nm.data.toList=-1):=(by show _=_;unfold Zk;rw[Qb3 _ _ (fun k hk=>HNO.out k hk (by first|(rw[Zg]at hk;omega)|(rw[Qn]at hk;omega)))]);go_wp2_with fail;go_ret;exact⟨by rw[HE.out];rfl,rfl⟩
theorem Vn (M:Nat)(vf vb:Value)(ps:List MF)(bs:List MB)(x:Nat×Int)(w:World)(hn:bs.length≤1000)(h:MSt w M vf vb ps bs) :
 Calls Tryz.prog 20 #[.pointer (some ⟨M,0,none⟩),idV (x.1:Nat) x.2] w fun e w'=>e=.returned (.int .i64 (Zk (mBs bs) x))∧Below w.heap.size w w':=by
 obtain⟨pa,c,rfl,hcell⟩:=h.reps;have hB0:=h.blk.cell (i:=1) rfl;have hBl:=h.blk.lt;have hl2:(bs.length:Int)≤1000:=by omega
 have HC:=Qa hcell;clear hcell h hn;have hx:=Blk.new w #[.int .u32 (x.1:Nat),.int .i64 x.2] 25;have hal:Below w.heap.size w (w.alloc (.cells #[.int .u32 (x.1:Nat),.int .i64 x.2] 25)):=(Below.refl _ w).alloc wz _;go_enter Tryz.func20,Tryz.ntmps20;go_wp2_with fail;obtain⟨W,hW⟩:∃W,w.alloc (.cells #[.int .u32 (x.1:Nat),.int .i64 x.2] 25)=W:=⟨_,rfl⟩;rw[hW]at hx hal ⊢;have x0:=hx.cell (i:=0) rfl;have x1:=hx.cell (i:=1) rfl;have q0:=(hal.cell (p:=⟨M,1,none⟩) hBl).trans hB0;clear hW hB0
 go_loopw [5] (fun i wr=>∃j m:Nat,j≤bs.length∧i=.int .i64 j∧wr=W.drewN m∧∀k (hk:k<(mBs bs).length),k<j→(mBs bs)[k].1≠x) (fun i _=>bs.length - (intOf i).toNat)
 case atStart=>exact⟨0,0,Nat.zero_le _,rfl,rfl,fun k _ h=>by omega⟩
 case round=>
  obtain⟨j,m,hj,rfl,rfl,hno⟩:=hrel;have HNO:Hid (∀k (hk:k<(mBs bs).length),k<j→(mBs bs)[k].1≠x):=hno;clear hno;by_cases hlt:j<bs.length
  ·obtain⟨ba,oa,rfl,⟨hbl,_⟩,a0,a1,_⟩:=HC.out j hlt;have hlt':(j:Int)<(bs.length:Int):=(by omega);have a0':=(hal.cell (p:=⟨ba,oa+j*3,none⟩) hbl).trans a0;have a1':=(hal.cell (p:=⟨ba,oa+j*3+1,none⟩) hbl).trans a1;have HNX:Hid (bs[j].1.1≠x→∀k (hk:k<(mBs bs).length),k<j+1→(mBs bs)[k].1≠x):=fun hne k hk hkj=>by
    rcases Nat.lt_or_ge k j with h'|h'
    ·exact HNO.out k hk h'
    ·obtain rfl:k=j:=(by omega);rw[Xk];exact hne
   have HAT:Hid (bs[j].1.1=x→Zk (mBs bs) x=(j:Int)):=fun he=>by unfold Zk;rw[Qfi (mBs bs) x j (by first|(rw[Zg];exact hlt)|(rw[Qn];exact hlt)) HNO.out (by rw[Xk];exact he)]
   obtain⟨y,hy⟩:∃y,bs[j].1.1=y:=⟨_,rfl⟩;rw[hy]at a0' a1' HNX HAT;clear hy a0 a1;obtain⟨yp,yl⟩:=y;obtain⟨xp,xl⟩:=x;simp only at a0' a1' x0 x1;by_cases e1:(yp:Int)=(xp:Int)
   ·by_cases e2:yl=xl
    ·have HE:Hid (Zk (mBs bs) (xp,xl)=(j:Int)):=HAT.out (by rw[e2,show yp=xp by omega]);clear HAT HNX;subst e2;obtain rfl:yp=xp:=(by omega);go_wp2_with fail;go_quiet (fail);go_wp2_with fail;go_ret;exact⟨by rw[HE.out];rfl,⟨hal.os,hal.tape,hal.output,hal.size,fun k hk=>hal.block k hk⟩⟩
    ·have HE:Hid (∀k (hk:k<(mBs bs).length),k<j+1→(mBs bs)[k].1≠(xp,xl)):=HNX.out (fun e=>e2 (Prod.mk.inj e).2);clear HAT HNX;obtain rfl:yp=xp:=(by omega);have e2':(yl==xl)=false:=beq_eq_false_iff_ne.2 e2;go_wp2_with fail;go_quiet (fail);go_wp2_with fail;go_roundw
     case rel=>exact⟨j+1,_,by omega,by go_num,rfl,HE.out⟩
     case measure=>simp[intOf];omega
   ·have HE:Hid (∀k (hk:k<(mBs bs).length),k<j+1→(mBs bs)[k].1≠(xp,xl)):=HNX.out (fun e=>e1 (by rw[(Prod.mk.inj e).1]));clear HAT HNX;have e1':((yp:Int)==(xp:Int))=false:=beq_eq_false_iff_ne.2 e1;go_wp2_with fail;go_quiet (fail);go_wp2_with fail;go_roundw
    case rel=>exact⟨j+1,_,by omega,by go_num,rfl,HE.out⟩
    case measure=>simp[intOf];omega
  ·have hge:(bs.length:Int)≤(j:Int):=(by omega);have HE:Hid (Zk (mBs bs) x=-1):=(by show _=_;unfold Zk;rw[Qb3 _ _ (fun k hk=>HNO.out k hk (by first|(rw[Zg]at hk;omega)|(rw[Qn]at hk;omega)))]);go_wp2_with fail;go_ret;exact⟨by rw[HE.out];rfl,⟨hal.os,hal.tape,hal.output,hal.size,fun k hk=>hal.block k hk⟩⟩
theorem Qf1 (g n c i:Nat)(hi:i≤n)(hc:n≤c):∃P4 c4,(∀w:World,(Instr.slice 31 (.slice (some ⟨g,0,none⟩) n c) (some (.int .i64 (i:Int))) none none).run Tryz.prog w=.ok (.slice (some P4) (n - i) c4) w)∧(i<n→P4=⟨g,i*4,none⟩):=by
 have hj1:(0:Int)≤(i:Int):=by omega
 have hj2:(i:Int)≤(n:Int):=by omega
 by_cases hcap:c=i
 ·refine⟨⟨g,0,none⟩,c - i,fun w => ?_,fun h=>by omega⟩;go_simp
 ·by_cases h0:i=0
  ·subst h0;refine⟨⟨g,0,none⟩,c - 0,fun w => ?_,fun h=>by simp⟩;go_simp
  ·refine⟨⟨g,i*4,none⟩,c - i,fun w => ?_,fun h=>rfl⟩;go_simp
theorem Qfu (g n c i:Nat)(hi:i≤n)(hc:n≤c):∀w:World,(Instr.slice 31 (.slice (some ⟨g,0,none⟩) n c) none (some (.int .i64 (i:Int))) none).run Tryz.prog w=.ok (.slice (some ⟨g,0,none⟩) i c) w:=by
 have hj1:(0:Int)≤(i:Int):=by omega
 have hj3:(i:Int)≤(c:Int):=by omega
 intro w;go_simp
theorem Yn {ps:List MF}(h:∀q∈ps,q.2.oneCell'=true):∀u∈mfCells ps,u.oneCell'=true:=by
 induction ps with
 | nil=>simp[mfCells]
 | cons x r ih=>
  intro u hu;simp only[mfCells,List.mem_cons]at hu;rcases hu with rfl|rfl|rfl|rfl|hu
  ·rfl
  ·rfl
  ·rfl
  ·exact h x (List.mem_cons_self ..)
  ·exact ih (fun q hq=>h q (List.mem_cons_of_mem _ hq)) u hu
theorem Q3.one {w:World}{v:Value}{ids:List (Nat×Int)}(h:Q3 w v ids):v.oneCell'=true:=by
 obtain⟨p,c,rfl,_⟩:=h;rfl
theorem MSt.setF {w W:World}{M:Nat}{vf vb vf':Value}{ps ps':List MF}{bs:List MB}(h:MSt w M vf vb ps bs)(hb:Below w.heap.size w W)(hr:W.ownsRow w.heap.size 40 4 vf' ps'.length (mfCells ps'))(hi:∀q∈ps',Q3 w q.2 (idsOf q.1.2))(hio:∀k,Qhd ps' k→k≠M∧vb.ownBlock≠some k∧¬Ja bs k) :
 MSt (W.setCell ⟨M,0,none⟩ vf') M vf' vb ps' bs∧Off (fun k=>k=M) w (W.setCell ⟨M,0,none⟩ vf')∧(∀k,vf'.ownBlock=some k→w.heap.size≤k):=by
 have hM:=h.blk.lt;have hnew:∀k,vf'.ownBlock=some k→w.heap.size≤k:=fun k hk=>(hr.lt k hk).1;have ho:Off (fun k=>k=M) w (W.setCell ⟨M,0,none⟩ vf'):=Off.setCell (F:=fun k=>k=M) (p:=⟨M,0,none⟩) (Off.of_below hb) (.inl rfl) _;have ho2:Off (fun k=>k=M) W (W.setCell ⟨M,0,none⟩ vf'):=Off.setCell (F:=fun k=>k=M) (p:=⟨M,0,none⟩) (Off.refl _ W) (.inl rfl) _;have hl:∀k,Vb M vf vb ps bs k→k<w.heap.size:=h.lt;refine⟨⟨(h.blk.below hb hM).set 0 vf',Jc (ho2.row hr (fun k hk e=>by have:=hnew k hk;omega)) (Nat.zero_le _),ho.row h.brow (fun k hk e=>h.mb (e▸hk)),fun q hq=>(hi q hq).off ho (fun hne k hk e=>(hio k ⟨q,hq,hne,hk⟩).1 e),fun x hx=>(h.bins x hx).off ho (fun k hk e=>(h.bm k ⟨x,hx,hk⟩).1 e),fun e=>by have:=hnew M e;omega,h.mb,fun k hk e => ?_,fun k hk => ?_,h.bb,fun k hk => ?_⟩,ho,hnew⟩
 ·have:=hnew k hk;have:=hl k (.inr (.inr (.inl e)));omega
 ·obtain⟨h1,_,h3⟩:=h.bm k hk;exact⟨h1,fun e=>by have:=hnew k e;have:=hl k (.inr (.inr (.inr (.inl hk))));omega,h3⟩
 ·obtain⟨h1,h2,h3⟩:=hio k hk;obtain⟨q,hq,hne,hk2⟩:=hk;exact⟨h1,fun e=>by have:=hnew k e;have:=(hi q hq).lt hne hk2;omega,h2,h3⟩
def mInsF (ps:List MF)(j:Nat)(q:MF):List MF:=ps.take j++q::ps.drop j
theorem Qdb {ps:List MF}{j:Nat}{q:MF}(hj:j≤ps.length):(mInsF ps j q).length=j+1+(ps.length - j):=by
 unfold mInsF;simp;omega
theorem Qd3 (ps:List MF)(j:Nat)(q:MF):mfCells (mInsF ps j q)=mfCells (ps.take j)++mfCells [q]++mfCells (ps.drop j):=by
 unfold mInsF;rw[mfCells_append,List.append_assoc,show q::ps.drop j=[q]++ps.drop j from rfl,mfCells_append [q]]
theorem Qgv (ps:List MF)(q:MF)(j:Nat)(hj:Yg ltN (mFs ps) q.1.1=j):mFs (mInsF ps j q)=Ux ltN (mFs ps) q.1:=by
 unfold mInsF Ux;rw[hj];simp[mFs,List.map_take,List.map_drop]
theorem mInsF_mem {ps:List MF}{j:Nat}{q y:MF}(h:y∈mInsF ps j q):y∈ps∨y=q:=by
 unfold mInsF at h;rcases List.mem_append.1 h with h|h
 ·exact .inl (List.mem_of_mem_take h)
 ·rcases List.mem_cons.1 h with h|h
  ·exact .inr h
  ·exact .inl (List.mem_of_mem_drop h)
def Qwp (ps' ps:List MF)(q:MF):Prop:=∀y∈ps',y∈ps∨y=q
theorem Qsl (M:Nat)(vf vb:Value)(ps:List MF)(bs:List MB)(X:ByteArray)(s:List UInt8)(v:Value)(w:World)(hn:ps.length≤1000)(h:MSt w M vf vb ps bs)(hv:Q3 w v (idsOf s))(hio:idsOf s≠[]→∀k,v.ownBlock=some k→k≠M∧vb.ownBlock≠some k∧¬Ja bs k) :
 Calls Tryz.prog 130 #[.pointer (some ⟨M,0,none⟩),rcpV X (s.length:Int) ((pmore 2166136261 s:Nat):Int) v] w fun e w'=>e=.returned (.tuple #[])∧∃vf' ps',mFs ps'=Ux ltN (mFs ps) (X.data.toList,s)∧MSt w' M vf' vb ps' bs∧(∀k,vf'.ownBlock=some k→w.heap.size≤k)∧Qwp ps' ps ((X.data.toList,s),v)∧Off (fun k=>k=M) w w':=by
 obtain⟨ti,hti,hz0,hz1,hz2⟩:=info_parts Qt5;obtain⟨pf,cf,hvf,hcell⟩:=h.files;subst hvf;have HH:=Qa h;have HV:=Qa hv;have HIO:=Qa hio;have HN:=Qa hn;have HV1:Hid (v.oneCell'=true):=hv.one;obtain⟨pv,cv,hvv,_⟩:=id hv;obtain⟨idl,hidl⟩:∃idl,(idsOf s).length=idl:=⟨_,rfl⟩;rw[hidl]at hvv;obtain⟨PP,hPP⟩:∃PP,pmore 2166136261 s=PP:=⟨_,rfl⟩;obtain⟨LL,hLL⟩:∃LL,(s.length:Int)=LL:=⟨_,rfl⟩;have HPP:=Qa hPP;have HLL:=Qa hLL;rw[hPP,hLL];subst hvv;have hal:=(Below.refl _ w).alloc wz (.cells #[.string X,.int .i64 LL,.int .u32 (PP:Nat),.slice pv idl cv] 40);have HB1:=Qa hal;have HR1:=Qa (Blk.new w #[.string X,.int .i64 LL,.int .u32 (PP:Nat),.slice pv idl cv] 40);have hl2:(ps.length:Int)≤1000:=by omega
 clear h hv hio hn hidl hPP hLL hal hcell;go_enter Tryz.func130,Tryz.ntmps130;go_wp2_with fail;obtain⟨W,hW⟩:∃W,w.alloc (.cells #[.string X,.int .i64 LL,.int .u32 (PP:Nat),.slice pv idl cv] 40)=W:=⟨_,rfl⟩;rw[hW]at HB1 HR1 ⊢;obtain⟨RB,hRB⟩:∃RB,w.heap.size=RB:=⟨_,rfl⟩;have HRB:=Qa hRB;rw[hRB]at HR1 ⊢;clear hW hRB
 go_loopw [4] (fun i wr=>∃j:Nat,j≤ps.length∧i=.int .i64 j∧Hid (Below W.heap.size W wr)∧Hid (∀k (hk:k<(mFs ps).length),k<j→ltN (mFs ps)[k].1 X.data.toList=true)) (fun i _=>ps.length - (intOf i).toNat)
 case atStart=>exact⟨0,Nat.zero_le _,rfl,Below.refl _ _,fun k _ h=>by omega⟩
 case round=>
  obtain⟨j,hj,rfl,HB2,HLE⟩:=hrel;have HBW:Hid (Below w.heap.size w wr):=HB1.out.trans (HB2.out.mono HB1.out.size);have hS:=HH.out.below HBW.out;have HS:=Qa hS;have HR2:=Qa (HR1.out.next HB2.out);obtain⟨pf',cf',hvf',hcell⟩:=hS.files;obtain⟨rfl,rfl⟩:pf=pf'∧cf=cf':=by simpa using hvf'
  have HC:=Qa hcell;have q0:=hS.blk.cell (i:=0) rfl;have r0:=HR2.out.cell (i:=0) rfl;have r1:=HR2.out.cell (i:=1) rfl;have r2:=HR2.out.cell (i:=2) rfl;have r3:=HR2.out.cell (i:=3) rfl;have hj0:(0:Int)≤(j:Int):=by omega
  have HJ:=Qa hj;clear hS hvf' hcell;by_cases hlt:j<ps.length
  case' pos=>
   have hlt':(j:Int)<(ps.length:Int):=(by omega);obtain⟨b,o,hpb,⟨hb,hc⟩,a0,a9⟩:=HC.out j hlt;rw[hpb]at q0;obtain⟨Y,hY⟩:∃Y:ByteArray,(⟨ps[j].1.1.toArray⟩:ByteArray)=Y:=⟨_,rfl⟩;have hYd:Y.data.toList=ps[j].1.1:=(by rw[←hY]);rw[hY]at a0;have HYD:Hid ((mFs ps)[j]'(by rw[Zg];exact hlt)=(Y.data.toList,ps[j].1.2)):=(by show _=_;rw[Vj,hYd]);have hbl0:Op.bytesLess Y.toList X.toList=ltN Y.data.toList X.data.toList:=(by rw[Go.Proofs.bytesLess_eq,ByteArray.toList_eq,ByteArray.toList_eq]);cases hlt2:ltN Y.data.toList X.data.toList
   case true=>
    have hbl:Op.bytesLess Y.toList X.toList=true:=(by rw[hbl0,hlt2]);have HNX:Hid (∀k (hk:k<(mFs ps).length),k<j+1→ltN (mFs ps)[k].1 X.data.toList=true):=fun k hk hkj=>by
     rcases Nat.lt_or_ge k j with h'|h'
     ·exact HLE.out k hk h'
     ·obtain rfl:k=j:=(by omega);rw[HYD.out];exact hlt2
    clear hY hYd hbl0 hlt2 HYD;go_wp2_with fail;go_quiet (fail);go_wp2_with fail;go_roundw
    case rel=>exact⟨j+1,hlt,by go_num,HB2.out.trans ((Qe (grown_drewN wr nq)).mono HB2.out.size),HNX.out⟩
    case measure=>simp[intOf];omega
   have hbl:Op.bytesLess Y.toList X.toList=false:=(by rw[hbl0,hlt2]);have HPL:Hid (Yg ltN (mFs ps) X.data.toList=j):=Uk ltN _ _ j (by rw[Zg];exact hj) HLE.out (fun _=>by rw[HYD.out];exact hlt2);clear hY hYd hbl0 hlt2 HYD a9;go_wp2_with fail;go_quiet (fail);clear a0 hbl hb hc hpb hlt hlt'
  case' neg=>
   have hge:(ps.length:Int)≤(j:Int):=(by omega);have HPL:Hid (Yg ltN (mFs ps) X.data.toList=j):=Uk ltN _ _ j (by rw[Zg];exact hj) HLE.out (fun h=>by rw[Zg]at h;omega);go_wp2_with fail;go_quiet (fail);clear hge hlt
  all_goals
   have HBQ:Hid (Below W.heap.size W (wr.drewN nq)):=HB2.out.trans ((Qe (grown_drewN wr nq)).mono HB2.out.size);obtain⟨WQ,hWQ⟩:∃WQ,wr.drewN nq=WQ:=⟨_,rfl⟩;rw[hWQ]at HBQ ⊢;clear hWQ q0 r0 r1 r2 r3 HS HR2 HC;have HBX:Hid (Below w.heap.size w WQ):=HB1.out.trans (HBQ.out.mono HB1.out.size);have HS:=Qa (HH.out.below HBX.out);have HRQ:=Qa (HR1.out.next HBQ.out);have HML:Hid (M<WQ.heap.size):=HS.out.blk.lt;have HRL:Hid (RB<WQ.heap.size):=HRQ.out.lt;have HFZ:Hid (WQ.frozen? ⟨M,0,none⟩=false):=HS.out.blk.frozen 0;have HQ0:Hid (WQ.cell? ⟨M,0,none⟩=some (.slice pf ps.length cf)):=HS.out.blk.cell (i:=0) rfl;have HCR:Hid (∀W',Below WQ.heap.size WQ W'→W'.cell? ⟨RB,0,none⟩=some (.string X)∧W'.cell? ⟨RB,1,none⟩=some (.int .i64 LL)∧W'.cell? ⟨RB,2,none⟩=some (.int .u32 (PP:Nat))∧W'.cell? ⟨RB,3,none⟩=some (.slice pv idl cv)):=fun W' hb=>by have h:=HRQ.out.next hb;exact⟨h.cell (i:=0) rfl,h.cell (i:=1) rfl,h.cell (i:=2) rfl,h.cell (i:=3) rfl⟩
   have q0:=HQ0.out;have hids:∀y∈mInsF ps j ((X.data.toList,s),.slice pv idl cv),Q3 w y.2 (idsOf y.1.2):=fun y hy=>by
    rcases mInsF_mem hy with hy|rfl
    ·exact HH.out.ids y hy
    ·exact HV.out
   have HIDS:=Qa hids;have hqc:mfCells [((X.data.toList,s),Value.slice pv idl cv)]=[.string X,.int .i64 LL,.int .u32 (PP:Nat),.slice pv idl cv]:=(by rw[mfCells,mfCells];simp only;rw[HLL.out,HPP.out,Qa7]);have hcells:=Qd3 ps j ((X.data.toList,s),.slice pv idl cv);rw[hqc]at hcells;have HCELLS:=Qa hcells;clear hids hqc hcells;obtain⟨_,hrow⟩:=HS.out.frow;rcases hrow with⟨hv0,hn0⟩|⟨g,cap,cur,hv0,_,_,hcap,hcap2,_⟩
   ·obtain rfl:ps=[]:=List.length_eq_zero_iff.1 hn0;obtain rfl:j=0:=Nat.le_zero.1 HJ.out;obtain⟨rfl,rfl⟩:pf=none∧cf=0:=(by simpa using hv0);clear hv0 hn0;obtain⟨z0,z1,z2,z3⟩:=HCR.out WQ (Below.refl _ _);go_wp2_with ((at_builtin;refine wpList_append_own _ rfl (.tmp 36) (.tmp 38) 31 rfl WQ.heap.size 40 ti (rcpV ⟨#[]⟩ 0 0 (.slice none 0 0)) 4 56 Tryz.underlying31 hti hz0 hz1 hz2 rfl (by decide) (.slice none 0 0) 0 [] rfl (World.ownsRow_nil _ _ _ _) ⟨WQ.heap.size,0,none⟩ 1 1 [.string X,.int .i64 LL,.int .u32 (PP:Nat),.slice pv idl cv] rfl rfl (fun j' u hj'=>by rw[add_plain];exact Zh _ #[.string X,.int .i64 LL,.int .u32 (PP:Nat),.slice pv idl cv] _ (by rw[←hj'];simp) (by simp)) (by intro u hu;simp at hu;rcases hu with rfl|rfl|rfl|rfl<;>rfl) (by unfold maxLen;omega) (by omega) (by simp) ?_;intro v4 w7 ho4 hg4 _;have hB4:Below WQ.heap.size WQ w7:=((Below.refl _ WQ).alloc wz _).grown hg4 (by simp) (fun k hk=>by cases hk);have HO4:=Qa ho4;have HB4:=Qa hB4;clear hg4 ho4;obtain⟨g5,c5,hu5,hc5,hc6⟩:=Xq HO4.out (by omega);subst hu5;have q4:=(hB4.cell (p:=⟨M,0,none⟩) HML.out).trans HQ0.out;have f4:=(hB4.frozen (p:=⟨M,0,none⟩) HML.out).trans HFZ.out;clear hB4));refine bodyPost_end (v:=.tuple #[]) (results_none Tryz.results130 _ _ _) rfl ?_;have ho5:=HO4.out;rw[List.nil_append]at ho5;have hfin:=HH.out.setF (vf':=.slice (some ⟨g5,0,none⟩) (0+1) c5) (ps':=mInsF [] 0 ((X.data.toList,s),.slice pv idl cv)) (HBX.out.trans (HB4.out.mono HBX.out.size)) (Jc (by rw[HCELLS.out];simpa[mInsF,mfCells]using ho5) HBX.out.size) HIDS.out (fun k hk=>by
     obtain⟨y,hy,hne,hk2⟩:=hk;rcases mInsF_mem hy with hy|rfl
     ·obtain⟨h1,_,h3,h4⟩:=HH.out.io k ⟨y,hy,hne,hk2⟩;exact⟨h1,h3,h4⟩
     ·exact HIO.out hne k hk2)
    exact⟨rfl,_,_,Qgv [] ((X.data.toList,s),.slice pv idl cv) 0 HPL.out,hfin.1,hfin.2.2,fun y hy=>mInsF_mem hy,hfin.2.1⟩
   ·obtain⟨rfl,rfl⟩:pf=some ⟨g,0,none⟩∧cf=cap:=(by simpa using hv0);have hsp:WQ.ownsRow 0 40 4 (.slice (some ⟨g,0,none⟩) ps.length cf) ps.length (mfCells (ps.take j)++mfCells (ps.drop j)):=(by rw[←mfCells_append,List.take_append_drop];exact HS.out.frow);obtain⟨P4,c4,hsl4,hP4⟩:=Qf1 g ps.length cf j HJ.out hcap;have hsl5:=Qfu g ps.length cf j HJ.out hcap;have HLT:Hid ((mfCells (ps.take j)).length=j*4):=(by show _=_;rw[Jb,List.length_take,Nat.min_eq_left HJ.out]);have HLD:Hid ((mfCells (ps.drop j)).length=(ps.length - j)*4):=(by show _=_;rw[Jb,List.length_drop]);have HC1:Hid (∀W',Below WQ.heap.size WQ W'→∀j' u,(mfCells (ps.take j))[j']? = some u→W'.cell? ((⟨g,0,none⟩:Addr).add j')=some u):=fun W' hb=>Uc (Qi hsp hb) rfl;have HC2:Hid (∀W',Below WQ.heap.size WQ W'→∀j' u,(mfCells (ps.drop j))[j']? = some u→W'.cell? (P4.add j')=some u):=fun W' hb j' u hj'=>by have hjl:=(List.getElem?_eq_some_iff.1 hj').1;rw[HLD.out]at hjl;rw[hP4 (by omega)];have:=Ul (Qi hsp hb) rfl j' u hj';rw[HLT.out]at this;exact this
    have HO1:Hid (∀u∈mfCells (ps.take j),u.oneCell'=true):=Yn fun y hy=>(HH.out.ids y (List.mem_of_mem_take hy)).one;have HO2:Hid (∀u∈mfCells (ps.drop j),u.oneCell'=true):=Yn fun y hy=>(HH.out.ids y (List.mem_of_mem_drop hy)).one;clear hv0 hsp hP4 hcap hcap2;go_wp2_with (first|(at_builtin;refine wpList_append_own _ rfl (.tmp 28) (.tmp 34) 31 rfl WQ.heap.size 40 ti (rcpV ⟨#[]⟩ 0 0 (.slice none 0 0)) 4 56 Tryz.underlying31 hti hz0 hz1 hz2 rfl (by decide) (.slice none 0 0) 0 [] rfl (World.ownsRow_nil _ _ _ _) ⟨g,0,none⟩ j cf (mfCells (ps.take j)) rfl HLT.out (HC1.out WQ (Below.refl _ _)) HO1.out (by have:=HN.out;have:=HJ.out;unfold maxLen;omega) (by have:=HN.out;have:=HJ.out;omega) wz ?_;intro v3 w6 ho3 hg3 _;rw[Nat.zero_add,List.nil_append]at ho3;have hB3:Below WQ.heap.size WQ w6:=(Below.refl _ WQ).grown hg3 wz (fun k hk=>by cases hk);have HO3:=Qa ho3;have HB3:=Qa hB3;clear hg3 ho3;have q3:=(hB3.cell (p:=⟨M,0,none⟩) HML.out).trans HQ0.out;obtain⟨z0,z1,z2,z3⟩:=HCR.out w6 HB3.out;clear hB3)|(at_builtin;refine wpList_append_own _ rfl (.tmp 36) (.tmp 38) 31 rfl WQ.heap.size 40 ti (rcpV ⟨#[]⟩ 0 0 (.slice none 0 0)) 4 56 Tryz.underlying31 hti hz0 hz1 hz2 rfl (by decide) v3 j (mfCells (ps.take j)) rfl (HO3.out.alloc _) ⟨w6.heap.size,0,none⟩ 1 1 [.string X,.int .i64 LL,.int .u32 (PP:Nat),.slice pv idl cv] rfl rfl (fun j' u hj'=>by rw[add_plain];exact Zh _ #[.string X,.int .i64 LL,.int .u32 (PP:Nat),.slice pv idl cv] _ (by rw[←hj'];simp) (by simp)) (by intro u hu;simp at hu;rcases hu with rfl|rfl|rfl|rfl<;>rfl) (by have:=HN.out;have:=HJ.out;unfold maxLen;omega) (by have:=HN.out;have:=HJ.out;omega) (by have:=HB3.out.size;simp;omega) ?_;intro v4 w7 ho4 hg4 _;have hB4:Below WQ.heap.size WQ w7:=(HB3.out.alloc HB3.out.size _).grown hg4 (by have:=HB3.out.size;simp;omega) (fun k hk=>(HO3.out.lt k hk).1);have HO4:=Qa ho4;have HB4:=Qa hB4;clear hg4 ho4;have q4:=(hB4.cell (p:=⟨M,0,none⟩) HML.out).trans HQ0.out;clear hB4)|(at_builtin;refine wpList_append_own _ rfl (.tmp 41) (.tmp 47) 31 rfl WQ.heap.size 40 ti (rcpV ⟨#[]⟩ 0 0 (.slice none 0 0)) 4 56 Tryz.underlying31 hti hz0 hz1 hz2 rfl (by decide) v4 (j+1) _ rfl HO4.out P4 (ps.length - j) c4 (mfCells (ps.drop j)) rfl HLD.out (HC2.out w7 HB4.out) HO2.out (by have:=HN.out;have:=HJ.out;unfold maxLen;omega) (by have:=HN.out;have:=HJ.out;omega) HB4.out.size ?_;intro v5 w8 ho5 hg5 _;have hB5:Below WQ.heap.size WQ w8:=HB4.out.grown hg5 HB4.out.size (fun k hk=>(HO4.out.lt k hk).1);have HO5:=Qa ho5;have HB5:=Qa hB5;clear hg5 ho5;obtain⟨p5,c5,hu5⟩:=Jh HO5.out;subst hu5;have q5:=(hB5.cell (p:=⟨M,0,none⟩) HML.out).trans HQ0.out;have f5:=(hB5.frozen (p:=⟨M,0,none⟩) HML.out).trans HFZ.out;clear hB5));refine bodyPost_end (v:=.tuple #[]) (results_none Tryz.results130 _ _ _) rfl ?_;have ho5:=HO5.out;rw[←HCELLS.out]at ho5;have hfin:=HH.out.setF (vf':=.slice p5 (j+1+(ps.length - j)) c5) (HBX.out.trans (HB5.out.mono HBX.out.size)) (Jc (by rw[Qdb HJ.out];exact ho5) HBX.out.size) HIDS.out (fun k hk=>by
     obtain⟨y,hy,hne,hk2⟩:=hk;rcases mInsF_mem hy with hy|rfl
     ·obtain⟨h1,_,h3,h4⟩:=HH.out.io k ⟨y,hy,hne,hk2⟩;exact⟨h1,h3,h4⟩
     ·exact HIO.out hne k hk2)
    exact⟨rfl,_,_,Qgv ps ((X.data.toList,s),.slice pv idl cv) j HPL.out,hfin.1,hfin.2.2,fun y hy=>mInsF_mem hy,hfin.2.1⟩
theorem Qft (g n c i:Nat)(hi:i≤n)(hc:n≤c):∃P4 c4,(∀w:World,(Instr.slice 32 (.slice (some ⟨g,0,none⟩) n c) (some (.int .i64 (i:Int))) none none).run Tryz.prog w=.ok (.slice (some P4) (n - i) c4) w)∧(i<n→P4=⟨g,i*3,none⟩):=by
 have hj1:(0:Int)≤(i:Int):=by omega
 have hj2:(i:Int)≤(n:Int):=by omega
 by_cases hcap:c=i
 ·refine⟨⟨g,0,none⟩,c - i,fun w => ?_,fun h=>by omega⟩;go_simp
 ·by_cases h0:i=0
  ·subst h0;refine⟨⟨g,0,none⟩,c - 0,fun w => ?_,fun h=>by simp⟩;go_simp
  ·refine⟨⟨g,i*3,none⟩,c - i,fun w => ?_,fun h=>rfl⟩;go_simp
theorem Qg1 (g n c i:Nat)(hi:i≤n)(hc:n≤c):∀w:World,(Instr.slice 32 (.slice (some ⟨g,0,none⟩) n c) none (some (.int .i64 (i:Int))) none).run Tryz.prog w=.ok (.slice (some ⟨g,0,none⟩) i c) w:=by
 have hj1:(0:Int)≤(i:Int):=by omega
 have hj3:(i:Int)≤(c:Int):=by omega
 intro w;go_simp
def binsApart (x y:MB):Prop:=∀k,Qt.Of x.2.1 x.2.2 k→¬Qt.Of y.2.1 y.2.2 k
theorem binsApart.symm {x y:MB}(h:binsApart x y):binsApart y x:=fun k h1 h2=>h k h2 h1
theorem MSt.setB {w W:World}{M:Nat}{vf vb vb':Value}{ps:List MF}{bs bs':List MB}(h:MSt w M vf vb ps bs)(hb:Below w.heap.size w W)(hr:W.ownsRow w.heap.size 92 3 vb' bs'.length (mbCells bs'))(hi:∀q∈bs',Qt w q.2.1 q.2.2 q.1.2)(hbb:bs'.Pairwise binsApart)(hio:∀k,Ja bs' k→k≠M∧vf.ownBlock≠some k∧¬Qhd ps k) :
 MSt (W.setCell ⟨M,1,none⟩ vb') M vf vb' ps bs'∧Off (fun k=>k=M) w (W.setCell ⟨M,1,none⟩ vb')∧(∀k,vb'.ownBlock=some k→w.heap.size≤k):=by
 have hM:=h.blk.lt;have hnew:∀k,vb'.ownBlock=some k→w.heap.size≤k:=fun k hk=>(hr.lt k hk).1;have ho:Off (fun k=>k=M) w (W.setCell ⟨M,1,none⟩ vb'):=Off.setCell (F:=fun k=>k=M) (p:=⟨M,1,none⟩) (Off.of_below hb) (.inl rfl) _;have ho2:Off (fun k=>k=M) W (W.setCell ⟨M,1,none⟩ vb'):=Off.setCell (F:=fun k=>k=M) (p:=⟨M,1,none⟩) (Off.refl _ W) (.inl rfl) _;have hl:∀k,Vb M vf vb ps bs k→k<w.heap.size:=h.lt;refine⟨⟨(h.blk.below hb hM).set 1 vb',ho.row h.frow (fun k hk e=>h.mf (e▸hk)),Jc (ho2.row hr (fun k hk e=>by have:=hnew k hk;omega)) (Nat.zero_le _),fun q hq=>(h.ids q hq).off ho (fun hne k hk e=>(h.io k ⟨q,hq,hne,hk⟩).1 e),fun x hx=>(hi x hx).off ho (fun k hk e=>(hio k ⟨x,hx,hk⟩).1 e),h.mf,fun e=>by have:=hnew M e;omega,fun k hk e => ?_,fun k hk => ?_,hbb,fun k hk => ?_⟩,ho,hnew⟩
 ·have:=hnew k e;have:=hl k (.inr (.inl hk));omega
 ·obtain⟨h1,h2,h3⟩:=hio k hk;obtain⟨q,hq,hk2⟩:=hk;exact⟨h1,h2,fun e=>by have:=hnew k e;have:=(hi q hq).lt hk2;omega⟩
 ·obtain⟨h1,h2,_,_⟩:=h.io k hk;exact⟨h1,h2,fun e=>by have:=hnew k e;have:=hl k (.inr (.inr (.inr (.inr hk))));omega,fun e=>(hio k e).2.2 hk⟩
def mInsB (bs:List MB)(j:Nat)(q:MB):List MB:=bs.take j++q::bs.drop j
theorem Qc3 {bs:List MB}{j:Nat}{q:MB}(hj:j≤bs.length):(mInsB bs j q).length=j+1+(bs.length - j):=by
 unfold mInsB;simp;omega
theorem Qd4 (bs:List MB)(j:Nat)(q:MB):mbCells (mInsB bs j q)=mbCells (bs.take j)++mbCells [q]++mbCells (bs.drop j):=by
 unfold mInsB;rw[Z9,List.append_assoc,show q::bs.drop j=[q]++bs.drop j from rfl,Z9 [q]]
theorem Qg3 (bs:List MB)(q:MB)(j:Nat)(hj:Yg Qo (mBs bs) q.1.1=j):mBs (mInsB bs j q)=Ux Qo (mBs bs) q.1:=by
 unfold mInsB Ux;rw[hj];simp[mBs,List.map_take,List.map_drop]
theorem mInsB_perm (bs:List MB)(j:Nat)(q:MB):(mInsB bs j q).Perm (q::bs):=by
 unfold mInsB;refine List.perm_middle.trans ?_;rw[List.take_append_drop]
theorem Qgu {bs:List MB}{q:MB}(h:bs.Pairwise binsApart)(hq:∀k,Qt.Of q.2.1 q.2.2 k→¬Ja bs k):(q::bs).Pairwise binsApart:=
 List.pairwise_cons.2 ⟨fun x hx k h1 h2=>hq k h1 ⟨x,hx,h2⟩,h⟩
theorem Qav {bs:List MB}{q:MB}(h:bs.Pairwise binsApart)(hq:∀k,Qt.Of q.2.1 q.2.2 k→¬Ja bs k)(j:Nat):(mInsB bs j q).Pairwise binsApart:=
 ((mInsB_perm bs j q).pairwise_iff (fun {_ _} e=>e.symm)).2 (Qgu h hq)
theorem Qii {q:MB}:∀{bs:List MB} (k:Nat),bs.Pairwise binsApart→(∀k,Qt.Of q.2.1 q.2.2 k→¬Ja bs k)→(bs.set k q).Pairwise binsApart
 | [],_,_,_=>List.Pairwise.nil
 | y::r,0,h,hq=>(Qgu (List.pairwise_cons.1 h).2 (fun k h1 ⟨x,hx,h2⟩=>hq k h1 ⟨x,List.mem_cons_of_mem _ hx,h2⟩))
 | y::r,k+1,h,hq=>by
  obtain⟨h1,h2⟩:=List.pairwise_cons.1 h;refine List.pairwise_cons.2 ⟨fun z hz => ?_,Qii k h2 (fun k h1 ⟨x,hx,h2⟩=>hq k h1 ⟨x,List.mem_cons_of_mem _ hx,h2⟩)⟩;rcases List.mem_or_eq_of_mem_set hz with hz|rfl
  ·exact h1 z hz
  ·exact fun k h3 h4=>hq k h4 ⟨y,List.mem_cons_self ..,h3⟩
theorem Qee:∀(bs:List MB) (k:Nat) (hk:k<bs.length) (l:List Hd) (B:Nat) (v:Value),(mbCells bs).set (k*3+2) (.pointer (some ⟨B,0,none⟩))=mbCells (bs.set k ((bs[k].1.1,l),B,v))
 | [],_,h,_,_,_=>by simp at h
 | x::r,0,_,l,B,v=>rfl
 | x::r,k+1,h,l,B,v=>by have:=Qee r k (by simpa using h) l B v;rw[List.set_cons_succ,mbCells,mbCells,show(k+1)*3+2=(k*3+2)+1+1+1 by omega];simp only[List.set_cons_succ,List.getElem_cons_succ];rw[this]
theorem MSt.setAt {w:World}{M g cap:Nat}{vf:Value}{ps:List MF}{bs:List MB}(h:MSt w M vf (.slice (some ⟨g,0,none⟩) bs.length cap) ps bs){k:Nat}(hk:k<bs.length){l:List Hd}{B:Nat}{v:Value}(hb:Qt w B v l)(hsep:∀k,Qt.Of B v k→k≠M∧vf.ownBlock≠some k∧k≠g∧¬Ja bs k∧¬Qhd ps k) :
 MSt (w.setCell ⟨g,k*3+2,none⟩ (.pointer (some ⟨B,0,none⟩))) M vf (.slice (some ⟨g,0,none⟩) bs.length cap) ps (bs.set k ((bs[k].1.1,l),B,v))∧Off (fun k=>k=g) w (w.setCell ⟨g,k*3+2,none⟩ (.pointer (some ⟨B,0,none⟩))):=by
 have ho:Off (fun k=>k=g) w (w.setCell ⟨g,k*3+2,none⟩ (.pointer (some ⟨B,0,none⟩))):=Off.setCell (F:=fun k=>k=g) (p:=⟨g,k*3+2,none⟩) (Off.refl _ w) (.inl rfl) _;have hgM:g≠M:=fun e=>h.mb (by rw[e];rfl);have hmem:∀y∈bs.set k ((bs[k].1.1,l),B,v),y∈bs∨y=((bs[k].1.1,l),B,v):=fun y hy=>List.mem_or_eq_of_mem_set hy;have hbin:∀j,Ja (bs.set k ((bs[k].1.1,l),B,v)) j→Ja bs j∨Qt.Of B v j:=fun j ⟨y,hy,hj⟩=>by
  rcases hmem y hy with hy|rfl
  ·exact .inl ⟨y,hy,hj⟩
  ·exact .inr hj
 refine⟨⟨ho.blk h.blk (fun e=>hgM e.symm),ho.row h.frow (fun j hj e=>h.fb j hj (by rw[e];rfl)),?_,fun q hq=>(h.ids q hq).off ho (fun hne j hj e=>(h.io j ⟨q,hq,hne,hj⟩).2.2.1 (by rw[e];rfl)),fun y hy => ?_,h.mf,h.mb,h.fb,fun j hj => ?_,Qii k h.bb (fun j hj=>(hsep j hj).2.2.2.1),fun j hj => ?_⟩,ho⟩
 ·obtain⟨hl,hr⟩:=h.brow;rcases hr with⟨he,h0⟩|⟨g',cap',cur,he,hg,hb2,h1,h2,h3,h4⟩
  ·omega
  ·obtain⟨e1,e2⟩:g'=g∧cap'=cap:=(by simp at he;exact⟨he.1.symm,he.2.symm⟩);subst e1 e2;refine⟨by rw[Zw],.inr ⟨g',cap',cur.setIfInBounds (k*3+2) (.pointer (some ⟨B,0,none⟩)),by rw[List.length_set],hg,?_,by rw[List.length_set];exact h1,h2,by rw[Array.size_setIfInBounds];exact h3,?_⟩⟩
   ·exact Blk.set (W:=w) (B:=g') (cs:=cur) hb2 (k*3+2) _
   ·rw[Array.toList_setIfInBounds,List.length_set,List.take_set,h4,Qee bs k hk l B v]
 ·rcases hmem y hy with hy|rfl
  ·exact(h.bins y hy).off ho (fun j hj e=>(h.bm j ⟨y,hy,hj⟩).2.2 (by rw[e];rfl))
  ·exact hb.off ho (fun j hj e=>(hsep j hj).2.2.1 e)
 ·rcases hbin j hj with hj|hj
  ·exact h.bm j hj
  ·obtain⟨h1,h2,h3,_⟩:=hsep j hj;exact⟨h1,h2,fun e=>h3 (by have h7:g=j:=(by simpa[Value.ownBlock]using e);exact h7.symm)⟩
 ·obtain⟨h1,h2,h3,h4⟩:=h.io j hj;exact⟨h1,h2,h3,fun e=>(hbin j e).elim h4 (fun e2=>(hsep j e2).2.2.2.2 hj)⟩
def Qu1 (w:World)(M:Nat)(vf vb:Value)(ps:List MF)(bs:List MB)(x:Nat×Int)(l:List Hd)(B:Nat)(v:Value)(e:Ending)(w':World):Prop:=
 e=.returned (.tuple #[])∧∃vb' bs',mBs bs'=Qdo (mBs bs) x l∧MSt w' M vf vb' ps bs'∧(∀k,vb'.ownBlock=some k→vb.ownBlock=some k∨w.heap.size≤k)∧(∀k,Ja bs' k→Ja bs k∨Qt.Of B v k)∧Off (fun k=>k=M∨vb.ownBlock=some k) w w'
theorem Qso (M:Nat)(vf vb:Value)(ps:List MF)(bs:List MB)(x:Nat×Int)(l:List Hd)(B:Nat)(v:Value)(w:World)(hn:bs.length≤1000)(h:MSt w M vf vb ps bs)(hb:Qt w B v l)(hsep:∀k,Qt.Of B v k→k≠M∧vf.ownBlock≠some k∧vb.ownBlock≠some k∧¬Ja bs k∧¬Qhd ps k) :
 Calls Tryz.prog 131 #[.pointer (some ⟨M,0,none⟩),idV (x.1:Nat) x.2,.pointer (some ⟨B,0,none⟩)] w (Qu1 w M vf vb ps bs x l B v):=by
 obtain⟨ti,hti,hz0,hz1,hz2⟩:=info_parts Quf;obtain⟨pb,cb,hvb,_⟩:=h.reps;subst hvb;obtain⟨xp,xl⟩:=x;simp only;have HH:=Qa h;have HB:=Qa hb;have HSEP:=Qa hsep;have HN:=Qa hn;have hal:=(Below.refl _ w).alloc wz (.cells #[.int .u32 (xp:Nat),.int .i64 xl] 25);have HB1:=Qa hal;have HR1:=Qa (Blk.new w #[.int .u32 (xp:Nat),.int .i64 xl] 25);have hl2:(bs.length:Int)≤1000:=by omega
 clear h hb hsep hn hal;go_enter Tryz.func131,Tryz.ntmps131;go_wp2_with fail;obtain⟨W,hW⟩:∃W,w.alloc (.cells #[.int .u32 (xp:Nat),.int .i64 xl] 25)=W:=⟨_,rfl⟩;rw[hW]at HB1 HR1 ⊢;obtain⟨RB,hRB⟩:∃RB,w.heap.size=RB:=⟨_,rfl⟩;have HRB:=Qa hRB;rw[hRB]at HR1 ⊢;clear hW hRB;have r0:=HR1.out.cell (i:=0) rfl;have r1:=HR1.out.cell (i:=1) rfl;have HFN:=Qa (Vn M vf (.slice pb bs.length cb) ps bs (xp,xl) W HN.out (HH.out.below HB1.out));have HFNN:Hid (∀k,kFind (mBs bs) (xp,xl)=some k→Zk (mBs bs) (xp,xl)=(k:Int)):=fun k hk=>by unfold Zk;rw[hk]
 have HFNO:Hid (kFind (mBs bs) (xp,xl)=none→Zk (mBs bs) (xp,xl)=-1):=fun hk=>by unfold Zk;rw[hk]
 go_wp2_with fail;refine HFN.out.mono ?_;rintro e w2 ⟨rfl,hb2⟩;have HB2:Hid (Below w.heap.size w w2):=HB1.out.trans (hb2.mono HB1.out.size);have HR2:=Qa (HR1.out.next hb2);have HS2:=Qa (HH.out.below HB2.out);have q1:=HS2.out.blk.cell (i:=1) rfl;clear hb2 HFN r0 r1;have r0:=HR2.out.cell (i:=0) rfl;have r1:=HR2.out.cell (i:=1) rfl;cases hkf:kFind (mBs bs) (xp,xl)with
 | some k=>
  have HK:=Qa (HFNN.out k hkf);obtain⟨hk,hkx⟩:=Xd hkf;have hk':k<bs.length:=by rw[Qn]at hk;exact hk
  rw[Xk]at hkx;have HKF:=Qa hkf;have hk0:(0:Int)≤(k:Int):=by omega
  have hk1:(k:Int)<(bs.length:Int):=by omega
  obtain⟨_,hrow⟩:=HS2.out.brow;rcases hrow with⟨hv0,hn0⟩|⟨g,cap,cur,hv0,_,hobj,_⟩
  ·omega
  obtain⟨rfl,rfl⟩:pb=some ⟨g,0,none⟩∧cb=cap:=by simpa using hv0
  have hfz:w2.frozen? ⟨g,k*3+2,none⟩=false:=by simp only[World.frozen?,hobj];simp
  obtain⟨ov,hold⟩:∃ov,w2.cell? ⟨g,k*3+2,none⟩=some ov:=⟨.pointer (some ⟨bs[k].2.1,0,none⟩),by have:=HS2.out.brow.cells (g:=g) rfl (k*3+2) _ (qc bs k hk').2.2;simpa only[add_plain]using this⟩;rw[HK.out];have HKX:Hid ((bs[k]'hk').1.1=(xp,xl)):=hkx;have HK':=Qa hk';clear HFNN HFNO hkf hkx hk hv0 hobj;go_wp2_with fail;refine bodyPost_ret (v:=.tuple #[]) (results_none Tryz.results131 _ _ _) rfl ?_;have hset:=HS2.out.setAt HK'.out (HB.out.below HB2.out) (fun j hj=>by obtain⟨h1,h2,h3,h4,h5⟩:=HSEP.out j hj;exact⟨h1,h2,fun e=>h3 (by rw[e];rfl),h4,h5⟩);refine⟨rfl,_,_,?_,hset.1,fun j hj=>.inl hj,fun j ⟨y,hy,hj⟩ => ?_,(Off.of_below (F:=fun k=>k=M∨(Value.slice (some ⟨g,0,none⟩) bs.length cb).ownBlock=some k) HB2.out).trans hset.2 (fun i _ hi=>.inr (by rw[hi];rfl))⟩
  ·unfold Qdo;rw[HKF.out];simp only;unfold mBs;rw[List.map_set,HKX.out]
  ·rcases List.mem_or_eq_of_mem_set hy with hy|rfl
   ·exact .inl ⟨y,hy,hj⟩
   ·exact .inr hj
 | none=>
  have HK:=Qa (HFNO.out hkf);have HKF:=Qa hkf;rw[HK.out];clear HFNN HFNO hkf;go_wp2_with fail
  go_loopw [7] (fun i wr=>∃j:Nat,j≤bs.length∧i=.int .i64 j∧Hid (Below w2.heap.size w2 wr)∧Hid (∀k (hk:k<(mBs bs).length),k<j→Qo (mBs bs)[k].1 (xp,xl)=true)) (fun i _=>bs.length - (intOf i).toNat)
  case atStart=>exact⟨0,Nat.zero_le _,rfl,Below.refl _ _,fun k _ h=>by omega⟩
  case round=>
   clear q1 r0 r1;obtain⟨j,hj,rfl,HB3,HLE⟩:=hrel;have hS:=HS2.out.below HB3.out;have HS:=Qa hS;have HR3:=Qa (HR2.out.next HB3.out);obtain⟨pb',cb',hvb',hcell⟩:=hS.reps;obtain⟨rfl,rfl⟩:pb=pb'∧cb=cb':=(by simpa using hvb');have HC:=Qa hcell;have q1:=hS.blk.cell (i:=1) rfl;have r0:=HR3.out.cell (i:=0) rfl;have r1:=HR3.out.cell (i:=1) rfl;have hj0:(0:Int)≤(j:Int):=(by omega);have HJ:=Qa hj;clear hS hvb' hcell;by_cases hlt:j<bs.length
   ·have hlt':(j:Int)<(bs.length:Int):=(by omega);obtain⟨b,o,rfl,⟨hbl,hc⟩,a0,a1,_⟩:=HC.out j hlt;have HNX:Hid (Qo bs[j].1.1 (xp,xl)=true→∀k (hk:k<(mBs bs).length),k<j+1→Qo (mBs bs)[k].1 (xp,xl)=true):=fun hy k hk hkj=>by
     rcases Nat.lt_or_ge k j with h'|h'
     ·exact HLE.out k hk h'
     ·obtain rfl:k=j:=(by omega);rw[Xk];exact hy
    have HPL0:Hid (Qo bs[j].1.1 (xp,xl)=false→Yg Qo (mBs bs) (xp,xl)=j):=fun hy=>Uk Qo _ _ j (by rw[Qn];exact hj) HLE.out (fun _=>by rw[Xk];exact hy);have HCL:Hid (∀W',Below wr.heap.size wr W'→W'.cell? ⟨M,1,none⟩=some (.slice (some ⟨b,o,none⟩) bs.length cb)∧W'.cell? ⟨b,o+j*3,none⟩=some (.int .u32 (bs[j].1.1.1:Nat))∧W'.cell? ⟨b,o+j*3+1,none⟩=some (.int .i64 bs[j].1.1.2)∧W'.cell? ⟨RB,0,none⟩=some (.int .u32 (xp:Nat))∧W'.cell? ⟨RB,1,none⟩=some (.int .i64 xl)):=fun W' hb=>⟨(HS.out.below hb).blk.cell (i:=1) rfl,(hb.cell (p:=⟨b,o+j*3,none⟩) hbl).trans a0,(hb.cell (p:=⟨b,o+j*3+1,none⟩) hbl).trans a1,(HR3.out.next hb).cell (i:=0) rfl,(HR3.out.next hb).cell (i:=1) rfl⟩;obtain⟨⟨yp,yl⟩,hy⟩:∃y,bs[j].1.1=y:=⟨_,rfl⟩;rw[hy]at a0 a1 HNX HPL0 HCL;clear hy;obtain⟨Lb,hLb⟩:∃Lb,(if (yp:Int)=(xp:Int) then decide (yl<xl) else decide ((yp:Int)<(xp:Int)))=Lb:=⟨_,rfl⟩
    have HLb:Hid ((if (yp:Int)=(xp:Int) then decide (yl<xl) else decide ((yp:Int)<(xp:Int)))=Lb):=hLb
    have HLS:Hid (Qo (yp,yl) (xp,xl)=Lb):=hLb;clear hLb;cases Lb with
    | true=>
     have HNX2:=Qa (HNX.out HLS.out);clear HNX HPL0 HS HR3 HC;go_wp2_with fail
     go_region_held3 (fun w'=>w'.cell? ⟨M,1,none⟩=some (.slice (some ⟨b,o,none⟩) bs.length cb)∧w'.cell? ⟨b,o+j*3,none⟩=some (.int .u32 (yp:Nat))∧w'.cell? ⟨b,o+j*3+1,none⟩=some (.int .i64 yl)∧w'.cell? ⟨RB,0,none⟩=some (.int .u32 (xp:Nat))∧w'.cell? ⟨RB,1,none⟩=some (.int .i64 xl)) (go_keep) (first
      | (go_at_call 91;refine(Kj _ _ _ _ _).mono ?_;rintro e w3 ⟨rfl,hb3⟩;rw[HLb.out];have HB4:Hid (Below wr.heap.size wr w3):=(Below.refl _ wr).drew.trans (hb3.mono wz);obtain⟨z0,z1,z2,z3,z4⟩:=HCL.out w3 HB4.out;clear hb3))
     go_wp2_with fail;go_roundw
     case rel=>exact⟨j+1,hlt,by go_num,HB3.out.trans (HB4.out.mono HB3.out.size),HNX2.out⟩
     case measure=>simp[intOf];omega
    | false=>
     have HPL:=Qa (HPL0.out HLS.out);clear HNX HPL0 HS HR3 HC;go_wp2_with fail
     go_region_held3 (fun w'=>w'.cell? ⟨M,1,none⟩=some (.slice (some ⟨b,o,none⟩) bs.length cb)∧w'.cell? ⟨b,o+j*3,none⟩=some (.int .u32 (yp:Nat))∧w'.cell? ⟨b,o+j*3+1,none⟩=some (.int .i64 yl)∧w'.cell? ⟨RB,0,none⟩=some (.int .u32 (xp:Nat))∧w'.cell? ⟨RB,1,none⟩=some (.int .i64 xl)) (go_keep) (first
      | (go_at_call 91;refine(Kj _ _ _ _ _).mono ?_;rintro e w3 ⟨rfl,hb3⟩;rw[HLb.out];have HB4:Hid (Below wr.heap.size wr w3):=(Below.refl _ wr).drew.trans (hb3.mono wz);obtain⟨z0,z1,z2,z3,z4⟩:=HCL.out w3 HB4.out;clear hb3))
     have HBQ:Hid (Below w2.heap.size w2 w3):=HB3.out.trans (HB4.out.mono HB3.out.size);clear z0 z1 z2 z3 z4 a0 a1 q1 r0 r1 hbl hc HCL;have HBX:Hid (Below w.heap.size w w3):=HB2.out.trans (HBQ.out.mono HB2.out.size);have HS:=Qa (HH.out.below HBX.out);have HRQ:=Qa (HR2.out.next HBQ.out);have HML:Hid (M<w3.heap.size):=HS.out.blk.lt;have HFZ:Hid (w3.frozen? ⟨M,1,none⟩=false):=HS.out.blk.frozen 1;have HQ0:Hid (w3.cell? ⟨M,1,none⟩=some (.slice (some ⟨b,o,none⟩) bs.length cb)):=HS.out.blk.cell (i:=1) rfl;have HCR:Hid (∀W',Below w3.heap.size w3 W'→W'.cell? ⟨RB,0,none⟩=some (.int .u32 (xp:Nat))∧W'.cell? ⟨RB,1,none⟩=some (.int .i64 xl)):=fun W' hb=>by have h:=HRQ.out.next hb;exact⟨h.cell (i:=0) rfl,h.cell (i:=1) rfl⟩
     have q1:=HQ0.out;have hmem:∀y∈mInsB bs j (((xp,xl),l),B,v),y∈bs∨y=(((xp,xl),l),B,v):=fun y hy=>by
      rcases List.mem_cons.1 ((mInsB_perm _ _ _).mem_iff.1 hy)with rfl|hy
      ·exact .inr rfl
      ·exact .inl hy
     have HMB:Hid (∀k,Ja (mInsB bs j (((xp,xl),l),B,v)) k→Ja bs k∨Qt.Of B v k):=fun k ⟨y,hy,hk⟩=>by
      rcases hmem y hy with hy|rfl
      ·exact .inl ⟨y,hy,hk⟩
      ·exact .inr hk
     have hbins:∀y∈mInsB bs j (((xp,xl),l),B,v),Qt w y.2.1 y.2.2 y.1.2:=fun y hy=>by
      rcases hmem y hy with hy|rfl
      ·exact HH.out.bins y hy
      ·exact HB.out
     have HIDS:=Qa hbins;have hcells:=Qd4 bs j (((xp,xl),l),B,v);rw[show mbCells [(((xp,xl),l),B,v)]=[.int .u32 (xp:Nat),.int .i64 xl,.pointer (some ⟨B,0,none⟩)] from rfl]at hcells;have HCELLS:=Qa hcells;clear hbins hmem hcells;obtain⟨g,cap,hvg,hcap,hcap2⟩:=Xq HS.out.brow (by omega:1≤bs.length);obtain⟨⟨hgb,ho0⟩,hcc⟩:(g=b∧0=o)∧cb=cap:=(by simpa[eq_comm]using hvg);subst hgb ho0 hcc;have hsp:w3.ownsRow 0 92 3 (.slice (some ⟨g,0,none⟩) bs.length cb) bs.length (mbCells (bs.take j)++mbCells (bs.drop j)):=(by rw[←Z9,List.take_append_drop];exact HS.out.brow);obtain⟨P4,c4,hsl4,hP4⟩:=Qft g bs.length cb j HJ.out hcap;have hsl5:=Qg1 g bs.length cb j HJ.out hcap;have HLT:Hid ((mbCells (bs.take j)).length=j*3):=(by show _=_;rw[Zw,List.length_take,Nat.min_eq_left HJ.out]);have HLD:Hid ((mbCells (bs.drop j)).length=(bs.length - j)*3):=(by show _=_;rw[Zw,List.length_drop]);have HC1:Hid (∀W',Below w3.heap.size w3 W'→∀j' u,(mbCells (bs.take j))[j']? = some u→W'.cell? ((⟨g,0,none⟩:Addr).add j')=some u):=fun W' hb=>Uc (Qi hsp hb) rfl;have HC2:Hid (∀W',Below w3.heap.size w3 W'→∀j' u,(mbCells (bs.drop j))[j']? = some u→W'.cell? (P4.add j')=some u):=fun W' hb j' u hj'=>by have hjl:=(List.getElem?_eq_some_iff.1 hj').1;rw[HLD.out]at hjl;rw[hP4 (by omega)];have:=Ul (Qi hsp hb) rfl j' u hj';rw[HLT.out]at this;exact this
     clear hvg hsp hP4 hcap hcap2;go_wp2_with (first|(at_builtin;refine wpList_append_own _ rfl (.tmp 44) (.tmp 50) 32 rfl w3.heap.size 92 ti (.agg #[.int .u32 0,.int .i64 0,.pointer none]) 3 24 Tryz.underlying32 hti hz0 hz1 hz2 rfl (by decide) (.slice none 0 0) 0 [] rfl (World.ownsRow_nil _ _ _ _) ⟨g,0,none⟩ j cb (mbCells (bs.take j)) rfl HLT.out (HC1.out w3 (Below.refl _ _)) (Yq _) (by have:=HN.out;have:=HJ.out;unfold maxLen;omega) (by have:=HN.out;have:=HJ.out;omega) wz ?_;intro v3 w6 ho3 hg3 _;rw[Nat.zero_add,List.nil_append]at ho3;have hB3:Below w3.heap.size w3 w6:=(Below.refl _ w3).grown hg3 wz (fun k hk=>by cases hk);have HO3:=Qa ho3;have HBA:=Qa hB3;clear hg3 ho3;have q3:=(hB3.cell (p:=⟨M,1,none⟩) HML.out).trans HQ0.out;obtain⟨y0,y1⟩:=HCR.out w6 HBA.out;clear hB3)|(at_builtin;refine wpList_append_own _ rfl (.tmp 52) (.tmp 56) 32 rfl w3.heap.size 92 ti (.agg #[.int .u32 0,.int .i64 0,.pointer none]) 3 24 Tryz.underlying32 hti hz0 hz1 hz2 rfl (by decide) v3 j (mbCells (bs.take j)) rfl (HO3.out.alloc _) ⟨w6.heap.size,0,none⟩ 1 1 [.int .u32 (xp:Nat),.int .i64 xl,.pointer (some ⟨B,0,none⟩)] rfl rfl (fun j' u hj'=>by rw[add_plain];exact Zh _ #[.int .u32 (xp:Nat),.int .i64 xl,.pointer (some ⟨B,0,none⟩)] _ (by rw[←hj'];simp) (by simp)) (by intro u hu;simp at hu;rcases hu with rfl|rfl|rfl<;>rfl) (by have:=HN.out;have:=HJ.out;unfold maxLen;omega) (by have:=HN.out;have:=HJ.out;omega) (by have:=HBA.out.size;simp;omega) ?_;intro v4 w7 ho4 hg4 _;have hB4:Below w3.heap.size w3 w7:=(HBA.out.alloc HBA.out.size _).grown hg4 (by have:=HBA.out.size;simp;omega) (fun k hk=>(HO3.out.lt k hk).1);have HO4:=Qa ho4;have HBB:=Qa hB4;clear hg4 ho4;have q4:=(hB4.cell (p:=⟨M,1,none⟩) HML.out).trans HQ0.out;clear hB4)|(at_builtin;refine wpList_append_own _ rfl (.tmp 59) (.tmp 65) 32 rfl w3.heap.size 92 ti (.agg #[.int .u32 0,.int .i64 0,.pointer none]) 3 24 Tryz.underlying32 hti hz0 hz1 hz2 rfl (by decide) v4 (j+1) _ rfl HO4.out P4 (bs.length - j) c4 (mbCells (bs.drop j)) rfl HLD.out (HC2.out w7 HBB.out) (Yq _) (by have:=HN.out;have:=HJ.out;unfold maxLen;omega) (by have:=HN.out;have:=HJ.out;omega) HBB.out.size ?_;intro v5 w8 ho5 hg5 _;have hB5:Below w3.heap.size w3 w8:=HBB.out.grown hg5 HBB.out.size (fun k hk=>(HO4.out.lt k hk).1);have HO5:=Qa ho5;have HBC:=Qa hB5;clear hg5 ho5;obtain⟨p5,c5,hu5⟩:=Jh HO5.out;subst hu5;have q5:=(hB5.cell (p:=⟨M,1,none⟩) HML.out).trans HQ0.out;have f5:=(hB5.frozen (p:=⟨M,1,none⟩) HML.out).trans HFZ.out;clear hB5));refine bodyPost_end (v:=.tuple #[]) (results_none Tryz.results131 _ _ _) rfl ?_;have ho5:=HO5.out;rw[←HCELLS.out]at ho5;have hfin:=HH.out.setB (vb':=.slice p5 (j+1+(bs.length - j)) c5) (HBX.out.trans (HBC.out.mono HBX.out.size)) (Jc (by rw[Qc3 HJ.out];exact ho5) HBX.out.size) HIDS.out (Qav HH.out.bb (fun k hk=>(HSEP.out k hk).2.2.2.1) j) (fun k hk=>by
      rcases HMB.out k hk with hk|hk
      ·obtain⟨h1,h2,_⟩:=HH.out.bm k hk;exact⟨h1,h2,fun e=>(HH.out.io k e).2.2.2 hk⟩
      ·obtain⟨h1,h2,_,_,h5⟩:=HSEP.out k hk;exact⟨h1,h2,h5⟩)
     refine⟨rfl,_,_,?_,hfin.1,fun k hk=>.inr (hfin.2.2 k hk),HMB.out,hfin.2.1.mono (fun k _ hk=>.inl hk)⟩;unfold Qdo;rw[HKF.out];exact Qg3 bs (((xp,xl),l),B,v) j HPL.out
   ·have hge:(bs.length:Int)≤(j:Int):=(by omega);have HPL:Hid (Yg Qo (mBs bs) (xp,xl)=j):=Uk Qo _ _ j (by rw[Qn];exact hj) HLE.out (fun h=>by rw[Qn]at h;omega);obtain⟨w3,hw3⟩:∃w3,w3=wr:=⟨_,rfl⟩;subst hw3;have HBQ:=HB3;clear HS HR3 HC q1 r0 r1;have HBX:Hid (Below w.heap.size w w3):=HB2.out.trans (HBQ.out.mono HB2.out.size);have HS:=Qa (HH.out.below HBX.out);have HRQ:=Qa (HR2.out.next HBQ.out);have HML:Hid (M<w3.heap.size):=HS.out.blk.lt;have HFZ:Hid (w3.frozen? ⟨M,1,none⟩=false):=HS.out.blk.frozen 1;have HQ0:Hid (w3.cell? ⟨M,1,none⟩=some (.slice pb bs.length cb)):=HS.out.blk.cell (i:=1) rfl;have HCR:Hid (∀W',Below w3.heap.size w3 W'→W'.cell? ⟨RB,0,none⟩=some (.int .u32 (xp:Nat))∧W'.cell? ⟨RB,1,none⟩=some (.int .i64 xl)):=fun W' hb=>by have h:=HRQ.out.next hb;exact⟨h.cell (i:=0) rfl,h.cell (i:=1) rfl⟩
    have q1:=HQ0.out;have hmem:∀y∈mInsB bs j (((xp,xl),l),B,v),y∈bs∨y=(((xp,xl),l),B,v):=fun y hy=>by
     rcases List.mem_cons.1 ((mInsB_perm _ _ _).mem_iff.1 hy)with rfl|hy
     ·exact .inr rfl
     ·exact .inl hy
    have HMB:Hid (∀k,Ja (mInsB bs j (((xp,xl),l),B,v)) k→Ja bs k∨Qt.Of B v k):=fun k ⟨y,hy,hk⟩=>by
     rcases hmem y hy with hy|rfl
     ·exact .inl ⟨y,hy,hk⟩
     ·exact .inr hk
    have hbins:∀y∈mInsB bs j (((xp,xl),l),B,v),Qt w y.2.1 y.2.2 y.1.2:=fun y hy=>by
     rcases hmem y hy with hy|rfl
     ·exact HH.out.bins y hy
     ·exact HB.out
    have HIDS:=Qa hbins;have hcells:=Qd4 bs j (((xp,xl),l),B,v);rw[show mbCells [(((xp,xl),l),B,v)]=[.int .u32 (xp:Nat),.int .i64 xl,.pointer (some ⟨B,0,none⟩)] from rfl]at hcells;have HCELLS:=Qa hcells;clear hbins hmem hcells;obtain⟨_,hrow⟩:=HS.out.brow;rcases hrow with⟨hv0,hn0⟩|⟨g,cap,cur,hv0,_,_,hcap,hcap2,_⟩
    ·obtain rfl:bs=[]:=List.length_eq_zero_iff.1 hn0;obtain rfl:j=0:=Nat.le_zero.1 HJ.out;obtain⟨rfl,rfl⟩:pb=none∧cb=0:=(by simpa using hv0);clear hv0 hn0;obtain⟨y0,y1⟩:=HCR.out w3 (Below.refl _ _);go_wp2_with ((at_builtin;refine wpList_append_own _ rfl (.tmp 52) (.tmp 56) 32 rfl w3.heap.size 92 ti (.agg #[.int .u32 0,.int .i64 0,.pointer none]) 3 24 Tryz.underlying32 hti hz0 hz1 hz2 rfl (by decide) (.slice none 0 0) 0 [] rfl (World.ownsRow_nil _ _ _ _) ⟨w3.heap.size,0,none⟩ 1 1 [.int .u32 (xp:Nat),.int .i64 xl,.pointer (some ⟨B,0,none⟩)] rfl rfl (fun j' u hj'=>by rw[add_plain];exact Zh _ #[.int .u32 (xp:Nat),.int .i64 xl,.pointer (some ⟨B,0,none⟩)] _ (by rw[←hj'];simp) (by simp)) (by intro u hu;simp at hu;rcases hu with rfl|rfl|rfl<;>rfl) (by unfold maxLen;omega) (by omega) (by simp) ?_;intro v4 w7 ho4 hg4 _;have hB4:Below w3.heap.size w3 w7:=((Below.refl _ w3).alloc wz _).grown hg4 (by simp) (fun k hk=>by cases hk);have HO4:=Qa ho4;have HBB:=Qa hB4;clear hg4 ho4;obtain⟨g5,c5,hu5,hc5,hc6⟩:=Xq HO4.out (by omega);subst hu5;have q4:=(hB4.cell (p:=⟨M,1,none⟩) HML.out).trans HQ0.out;have f4:=(hB4.frozen (p:=⟨M,1,none⟩) HML.out).trans HFZ.out;clear hB4));refine bodyPost_end (v:=.tuple #[]) (results_none Tryz.results131 _ _ _) rfl ?_;have ho5:=HO4.out;rw[List.nil_append]at ho5;have hfin:=HH.out.setB (vb':=.slice (some ⟨g5,0,none⟩) (0+1) c5) (bs':=mInsB [] 0 (((xp,xl),l),B,v)) (HBX.out.trans (HBB.out.mono HBX.out.size)) (Jc (by rw[HCELLS.out];simpa[mInsB,mbCells]using ho5) HBX.out.size) HIDS.out (Qav HH.out.bb (fun k hk=>(HSEP.out k hk).2.2.2.1) 0) (fun k hk=>by
      rcases HMB.out k hk with hk|hk
      ·obtain⟨h1,h2,_⟩:=HH.out.bm k hk;exact⟨h1,h2,fun e=>(HH.out.io k e).2.2.2 hk⟩
      ·obtain⟨h1,h2,_,_,h5⟩:=HSEP.out k hk;exact⟨h1,h2,h5⟩)
     refine⟨rfl,_,_,?_,hfin.1,fun k hk=>.inr (hfin.2.2 k hk),HMB.out,hfin.2.1.mono (fun k _ hk=>.inl hk)⟩;unfold Qdo;rw[HKF.out];exact Qg3 [] (((xp,xl),l),B,v) 0 HPL.out
    ·obtain⟨rfl,rfl⟩:pb=some ⟨g,0,none⟩∧cb=cap:=(by simpa using hv0);have hsp:w3.ownsRow 0 92 3 (.slice (some ⟨g,0,none⟩) bs.length cb) bs.length (mbCells (bs.take j)++mbCells (bs.drop j)):=(by rw[←Z9,List.take_append_drop];exact HS.out.brow);obtain⟨P4,c4,hsl4,hP4⟩:=Qft g bs.length cb j HJ.out hcap;have hsl5:=Qg1 g bs.length cb j HJ.out hcap;have HLT:Hid ((mbCells (bs.take j)).length=j*3):=(by show _=_;rw[Zw,List.length_take,Nat.min_eq_left HJ.out]);have HLD:Hid ((mbCells (bs.drop j)).length=(bs.length - j)*3):=(by show _=_;rw[Zw,List.length_drop]);have HC1:Hid (∀W',Below w3.heap.size w3 W'→∀j' u,(mbCells (bs.take j))[j']? = some u→W'.cell? ((⟨g,0,none⟩:Addr).add j')=some u):=fun W' hb=>Uc (Qi hsp hb) rfl;have HC2:Hid (∀W',Below w3.heap.size w3 W'→∀j' u,(mbCells (bs.drop j))[j']? = some u→W'.cell? (P4.add j')=some u):=fun W' hb j' u hj'=>by have hjl:=(List.getElem?_eq_some_iff.1 hj').1;rw[HLD.out]at hjl;rw[hP4 (by omega)];have:=Ul (Qi hsp hb) rfl j' u hj';rw[HLT.out]at this;exact this
     clear hv0 hsp hP4 hcap hcap2;go_wp2_with (first|(at_builtin;refine wpList_append_own _ rfl (.tmp 44) (.tmp 50) 32 rfl w3.heap.size 92 ti (.agg #[.int .u32 0,.int .i64 0,.pointer none]) 3 24 Tryz.underlying32 hti hz0 hz1 hz2 rfl (by decide) (.slice none 0 0) 0 [] rfl (World.ownsRow_nil _ _ _ _) ⟨g,0,none⟩ j cb (mbCells (bs.take j)) rfl HLT.out (HC1.out w3 (Below.refl _ _)) (Yq _) (by have:=HN.out;have:=HJ.out;unfold maxLen;omega) (by have:=HN.out;have:=HJ.out;omega) wz ?_;intro v3 w6 ho3 hg3 _;rw[Nat.zero_add,List.nil_append]at ho3;have hB3:Below w3.heap.size w3 w6:=(Below.refl _ w3).grown hg3 wz (fun k hk=>by cases hk);have HO3:=Qa ho3;have HBA:=Qa hB3;clear hg3 ho3;have q3:=(hB3.cell (p:=⟨M,1,none⟩) HML.out).trans HQ0.out;obtain⟨y0,y1⟩:=HCR.out w6 HBA.out;clear hB3)|(at_builtin;refine wpList_append_own _ rfl (.tmp 52) (.tmp 56) 32 rfl w3.heap.size 92 ti (.agg #[.int .u32 0,.int .i64 0,.pointer none]) 3 24 Tryz.underlying32 hti hz0 hz1 hz2 rfl (by decide) v3 j (mbCells (bs.take j)) rfl (HO3.out.alloc _) ⟨w6.heap.size,0,none⟩ 1 1 [.int .u32 (xp:Nat),.int .i64 xl,.pointer (some ⟨B,0,none⟩)] rfl rfl (fun j' u hj'=>by rw[add_plain];exact Zh _ #[.int .u32 (xp:Nat),.int .i64 xl,.pointer (some ⟨B,0,none⟩)] _ (by rw[←hj'];simp) (by simp)) (by intro u hu;simp at hu;rcases hu with rfl|rfl|rfl<;>rfl) (by have:=HN.out;have:=HJ.out;unfold maxLen;omega) (by have:=HN.out;have:=HJ.out;omega) (by have:=HBA.out.size;simp;omega) ?_;intro v4 w7 ho4 hg4 _;have hB4:Below w3.heap.size w3 w7:=(HBA.out.alloc HBA.out.size _).grown hg4 (by have:=HBA.out.size;simp;omega) (fun k hk=>(HO3.out.lt k hk).1);have HO4:=Qa ho4;have HBB:=Qa hB4;clear hg4 ho4;have q4:=(hB4.cell (p:=⟨M,1,none⟩) HML.out).trans HQ0.out;clear hB4)|(at_builtin;refine wpList_append_own _ rfl (.tmp 59) (.tmp 65) 32 rfl w3.heap.size 92 ti (.agg #[.int .u32 0,.int .i64 0,.pointer none]) 3 24 Tryz.underlying32 hti hz0 hz1 hz2 rfl (by decide) v4 (j+1) _ rfl HO4.out P4 (bs.length - j) c4 (mbCells (bs.drop j)) rfl HLD.out (HC2.out w7 HBB.out) (Yq _) (by have:=HN.out;have:=HJ.out;unfold maxLen;omega) (by have:=HN.out;have:=HJ.out;omega) HBB.out.size ?_;intro v5 w8 ho5 hg5 _;have hB5:Below w3.heap.size w3 w8:=HBB.out.grown hg5 HBB.out.size (fun k hk=>(HO4.out.lt k hk).1);have HO5:=Qa ho5;have HBC:=Qa hB5;clear hg5 ho5;obtain⟨p5,c5,hu5⟩:=Jh HO5.out;subst hu5;have q5:=(hB5.cell (p:=⟨M,1,none⟩) HML.out).trans HQ0.out;have f5:=(hB5.frozen (p:=⟨M,1,none⟩) HML.out).trans HFZ.out;clear hB5));refine bodyPost_end (v:=.tuple #[]) (results_none Tryz.results131 _ _ _) rfl ?_;have ho5:=HO5.out;rw[←HCELLS.out]at ho5;have hfin:=HH.out.setB (vb':=.slice p5 (j+1+(bs.length - j)) c5) (HBX.out.trans (HBC.out.mono HBX.out.size)) (Jc (by rw[Qc3 HJ.out];exact ho5) HBX.out.size) HIDS.out (Qav HH.out.bb (fun k hk=>(HSEP.out k hk).2.2.2.1) j) (fun k hk=>by
      rcases HMB.out k hk with hk|hk
      ·obtain⟨h1,h2,_⟩:=HH.out.bm k hk;exact⟨h1,h2,fun e=>(HH.out.io k e).2.2.2 hk⟩
      ·obtain⟨h1,h2,_,_,h5⟩:=HSEP.out k hk;exact⟨h1,h2,h5⟩)
     refine⟨rfl,_,_,?_,hfin.1,fun k hk=>.inr (hfin.2.2 k hk),HMB.out,hfin.2.1.mono (fun k _ hk=>.inl hk)⟩;unfold Qdo;rw[HKF.out];exact Qg3 bs (((xp,xl),l),B,v) j HPL.out
abbrev nmV (q:MF):Value:=.string ⟨q.1.1.toArray⟩
def Qwl (bs:List MB):List Value:=idCells (bs.map (fun q=>q.1.1))
theorem Qns (bs:List Qr)(j:Nat)(h:j<bs.length):Z7 (bs.take (j+1))=Z7 (bs.take j)+Qx bs[j].2:=by
 unfold Z7;rw[Gt (fun b:Qr=>Qx b.2) bs j h,List.sum_append];simp
theorem Qql (M:Nat)(vf vb:Value)(ps:List MF)(bs:List MB)(w:World)(hn:bs.length≤1000)(hok:∀b∈mBs bs,Qd 1000000 b.2)(h:MSt w M vf vb ps bs) :
 Calls Tryz.prog 72 #[.pointer (some ⟨M,0,none⟩)] w fun e w'=>e=.returned (.int .i64 (Z7 (mBs bs)))∧w'=w:=by
 obtain⟨pb,cb,rfl,hcell⟩:=h.reps;have HC:=Qa hcell;have HH:=Qa h;have HOK:=Qa hok;have q0:=h.blk.cell (i:=1) rfl;have hl2:(bs.length:Int)≤1000:=by omega
 have HBD:Hid (∀j,j≤bs.length→0≤Z7 ((mBs bs).take j)∧Z7 ((mBs bs).take j)≤16000000):=fun j hj=>by have:=Qau ((mBs bs).take j) (fun b hb=>hok b (List.mem_of_mem_take hb));rw[List.length_take,Qn,Nat.min_eq_left hj]at this;omega
 clear h hn hok hcell;go_enter Tryz.func72,Tryz.ntmps72;go_wp2_with fail
 go_loopw [3,4] (fun u i wr=>∃j:Nat,j≤bs.length∧i=.int .i64 j∧u=.int .i64 (Z7 ((mBs bs).take j))∧wr=w) (fun _ i _=>bs.length - (intOf i).toNat)
 case atStart=>exact⟨0,Nat.zero_le _,rfl,rfl,rfl⟩
 case round=>
  obtain⟨j,hj,rfl,rfl,rfl⟩:=hrel;by_cases hlt:j<bs.length
  ·have hlt':(j:Int)<(bs.length:Int):=(by omega);have hj0:(0:Int)≤(j:Int):=(by omega);obtain⟨b,o,rfl,⟨hb,hc⟩,_,_,a2⟩:=HC.out j hlt;have hsn:=Qns (mBs bs) j (by rw[Qn];exact hlt);rw[Xk]at hsn;obtain⟨n1,n2⟩:=HBD.out j hj;obtain⟨m1,m2⟩:=HBD.out (j+1) hlt;rw[hsn]at m1 m2;have HSN:=Qa hsn;have hbk:=HOK.out _ (List.getElem_mem (by rw[Qn];exact hlt:j<(mBs bs).length));rw[Xk]at hbk;have HSZ:=Qa (Qqh bs[j].2.1 bs[j].2.2 bs[j].1.2 wr hbk.many hbk.lens (HH.out.bins _ (List.getElem_mem hlt)));obtain⟨BB,hBB⟩:∃BB,bs[j].2.1=BB:=⟨_,rfl⟩;obtain⟨SZ,hSZ⟩:∃SZ,Qx bs[j].1.2=SZ:=⟨_,rfl⟩;rw[hBB,hSZ]at HSZ;rw[hBB]at a2;rw[hSZ]at m1 m2 HSN;obtain⟨n,hnn⟩:∃n,Z7 ((mBs bs).take j)=n:=⟨_,rfl⟩;rw[hnn]at n1 n2 m1 m2 HSN ⊢;have hw:IntKind.i64.wrap (n+SZ)=n+SZ:=(by rw[IntKind.wrap_i64];omega);clear hsn hbk hBB hSZ hnn;go_wp2_with fail;refine HSZ.out.mono ?_;rintro e w5 ⟨rfl,hw5⟩;subst hw5;go_wp2_with fail;go_roundw
   case rel=>exact⟨j+1,hlt,by go_num,by rw[HSN.out],by first|rfl|trivial⟩
   case measure=>simp[intOf];omega
  ·have hge:(bs.length:Int)≤(j:Int):=(by omega);rw[List.take_of_length_le (by rw[Qn];omega)];obtain⟨n,hnn⟩:∃n,Z7 (mBs bs)=n:=⟨_,rfl⟩;have HNN:=Qa hnn;rw[hnn];clear hlt hnn;go_wp2_with fail;go_ret;exact⟨by rw[HNN.out];rfl,rfl⟩
theorem Qie (B:Nat)(v:Value)(l:List Hd)(w:World)(hn:l.length≤1000)(h:Qt w B v l) :
 Calls Tryz.prog 154 #[.pointer (some ⟨B,0,none⟩)] w fun e w'=>∃B' v',e=.returned (.pointer (some ⟨B',0,none⟩))∧Qt w' B' v' l∧(∀k,Qt.Of B' v' k→w.heap.size≤k)∧Below w.heap.size w w':=by
 obtain⟨ti,hti,hz0,hz1,hz2⟩:=info_parts Qc8;have q0:=h.blk.cell (i:=0) rfl;have HH:=Qa h;have HN:=Qa hn;rcases h.row.2 with⟨rfl,h0⟩|⟨g,cap,cur,rfl,_,_,hc1,hc2,_⟩
 ·obtain rfl:l=[]:=List.length_eq_zero_iff.1 h0;clear h hn h0;have hal:=(Below.refl _ w).alloc wz (.cells #[.slice none 0 0] 130);have HB:=Qa hal;have HX:=Qa (Blk.new w #[.slice none 0 0] 130);clear hal;go_enter Tryz.func154,Tryz.ntmps154;go_wp2_with fail;go_ret;refine⟨_,.slice none 0 0,rfl,⟨HX.out,World.ownsRow_nil _ _ _ _⟩,fun k hk => ?_,HB.out⟩;rcases hk with rfl|hk
  ·exact wz
  ·cases hk
 ·have HR:=Qa h.row;clear h hn;go_enter Tryz.func154,Tryz.ntmps154;go_wp2_with (at_builtin;refine wpList_append_own _ rfl (.tmp 4) (.tmp 8) 56 rfl w.heap.size 78 ti (heldV ((0,0),0,[])) 4 40 Tryz.underlying56 hti hz0 hz1 hz2 rfl (by decide) (.slice none 0 0) 0 [] rfl (World.ownsRow_nil _ _ _ _) ⟨g,0,none⟩ l.length cap (heldCells l) rfl (Zf l) (fun j' u hj'=>HR.out.cells (g:=g) rfl j' u hj') (Zm _) (by have:=HN.out;unfold maxLen;omega) (by have:=HN.out;omega) wz ?_;intro v3 w3 ho3 hg3 _;rw[Nat.zero_add,List.nil_append]at ho3;have hB3:Below w.heap.size w w3:=(Below.refl _ w).grown hg3 wz (fun k hk=>by cases hk);have HO3:=Qa ho3;have HB3:=Qa hB3;clear hg3 ho3 hB3;obtain⟨p3,c3,hu3⟩:=Jh HO3.out;subst hu3);go_ret;have hal:=(Below.refl _ w3).alloc wz (.cells #[.slice p3 l.length c3] 130);refine⟨_,rfl,_,⟨Blk.new w3 #[.slice p3 l.length c3] 130,Jc (Qi HO3.out hal) (Nat.zero_le _)⟩,fun k hk => ?_,HB3.out.trans (hal.mono HB3.out.size)⟩;rcases hk with rfl|hk
  ·exact HB3.out.size
  ·exact(HO3.out.lt k hk).1
end Go.Proofs.YtjngnnbondejaabGreatDoor
