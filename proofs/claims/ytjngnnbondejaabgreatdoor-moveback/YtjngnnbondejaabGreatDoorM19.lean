/- A part. -/
import Derived.Test.YtjngnnbondejaabGreatDoorM18
import Derived.Test.YtjngnnbondejaabGreatDoorM13
set_option maxHeartbeats 8000000
set_option maxRecDepth 100000
namespace Go.Proofs.YtjngnnbondejaabGreatDoor
open Go.RowKit Go.Maps Go.Shelf
attribute [local go_sem] Oper.semAt_some
theorem Qd1 {w w':World}{row:Option Nat}(h:w.grownBy w' row):Off (fun k=>row=some k) w w':=⟨h.os,h.tape,h.output,h.size,fun k hk hn=>h.block k hk (fun e=>hn e.symm)⟩
theorem Qun:(Tryz.prog.info? 25).map (fun i=>(i.zero,i.size,i.bytes))=some (some (idV 0 0),2,16):=by kernel_rfl
theorem Qts (n:Nat)(mb:Option Nat)(w:World) :
 CallsIn Fence.wide n Tryz.prog 107 #[.map mb] w fun e w'=>e=.returned (.func (.func 184) #[] #[.pointer (some ⟨w.heap.size,0,none⟩)])∧w'=w.alloc (.cells #[.map mb] 119):=by
 refine callsIn_of_wp Tryz.func107 rfl trivial ?_ rfl;simp only[Tryz.ntmps107,List.size_toArray,List.length_cons,List.length_nil,Nat.reduceAdd,Nat.reduceSub,Array.replicate_succ,Array.replicate_zero,List.push_toArray,List.append_toArray,List.nil_append,List.cons_append]
 gi_wp2
 go_ret;exact⟨rfl,rfl⟩
theorem Qqj (n:Nat)(hn:1≤n)(l Bm b:Nat)(L:List ((Nat×Int)×Option Addr))(J:List (Nat×Int)→World→Prop)(W:World)(hJ:Qcw W.heap.size J)
 (hY:∀pre x W1,J pre W1→pre.length<L.length→YieldAt Fence.wide (n - 1) Tryz.prog l #[idV (x.1:Nat) x.2] W1 fun e W'=>e=.returned (.bool true)∧J (pre++[x]) W'∧KeepsWalks W1 W')
 (hm:W.cell? ⟨Bm,0,none⟩=some (.map (some b)))(hM:idBins.Of W b L)(h0:J [] W) :
 CallsIn Fence.wide n Tryz.prog 184 #[.func (.yield l) #[] #[],.pointer (some ⟨Bm,0,none⟩)] W fun e W'=>(∃v,e=.returned v)∧∃xs:List (Nat×Int),xs.Perm (L.map (·.1))∧J xs W':=by
 have hap:=hM.apart;have HJ:Hid (Qcw W.heap.size J):=hJ;have HY:Hid (∀pre x W1,J pre W1→pre.length<L.length→YieldAt Fence.wide (n - 1) Tryz.prog l #[idV (x.1:Nat) x.2] W1 fun e W'=>e=.returned (.bool true)∧J (pre++[x]) W'∧KeepsWalks W1 W'):=hY;clear hJ hY;refine callsIn_of_wp Tryz.func184 rfl trivial ?_ rfl;simp only[Tryz.ntmps184,List.size_toArray,List.length_cons,List.length_nil,Nat.reduceAdd,Nat.reduceSub,Array.replicate_succ,Array.replicate_zero,List.push_toArray,List.append_toArray,List.nil_append,List.cons_append];gi_wp2_with (first|(gi_at_range;refine wpIn_range_kit idBins _ rfl _ 119 rfl 47 Tryz.underlying119 b L rfl hM ?_;intro w0 hr0 hg0 hs0)|gi_in);go_frame
 gi_loopw [6] (fun _ wr=>∃(left:Nat×Int→Bool) (cnt:Nat) (xs:List (Nat×Int)),idBins.Rng wr b W.heap.size L left cnt∧Hid (xs.Perm ((L.filter (fun y => !left y.1)).map (·.1)))∧J xs wr) (fun _ wr=>wr.rangeLeft b W.heap.size)
 case atStart=>
  refine⟨_,_,[],hr0,?_,HJ.out [] W w0 none h0 hg0 (fun r e=>by cases e)⟩;show List.Perm _ _;rw[List.filter_eq_nil_iff.2 (fun y hy=>by simp only[Bool.not_eq_true',Bool.not_eq_false,decide_eq_true_eq];exact List.mem_map.2 ⟨y,hy,rfl⟩)];exact List.Perm.refl _
 case round=>
  obtain⟨left,cnt,xs,hrg,HP,hJs⟩:=hrel;gi_wp2_with (first|(gi_at_next;refine wpIn_next_kit idBins _ rfl _ rfl b W.heap.size L left cnt rfl hrg ?_ ?_)|gi_in)
  ·intro h0';have HL0:Hid (∀y∈L,left y.1=false):=fun y hy=>h0' y.1.1 y.1.2 y.2 hy;clear h0'
   gi_wp2
   go_end0
   refine⟨⟨_,rfl⟩,xs,?_,hJs⟩;have:=HP.out;rw[List.filter_eq_self.2 (fun y hy=>by rw[HL0.out y hy];rfl)]at this;exact this
  ·intro xp xl c w2 cnt2 hmem hlx hrg2 hlt hg2 hs2 hen;have hfl:=Yo hap (p:=left) hmem hlx;have HP2:Hid ((xs++[(xp,xl)]).Perm ((L.filter (fun y => !(left y.1 && !decide (y.1=(xp,xl))))).map (·.1))):=by show List.Perm _ _;have h1:=hfl.map (·.1);rw[List.map_cons]at h1;exact(List.perm_append_comm.trans (HP.out.cons _)).trans h1.symm
   have HLN:Hid (xs.length<L.length):=(by show _<_;have h1:(L.filter (fun y:(Nat×Int)×Option Addr => !(left y.1 && !decide (y.1=(xp,xl))))).length=(((xp,xl),c)::L.filter (fun y => !left y.1)).length:=hfl.length_eq;have h2:=List.length_filter_le (fun y:(Nat×Int)×Option Addr => !(left y.1 && !decide (y.1=(xp,xl)))) L;have h3:=HP.out.length_eq;rw[List.length_map]at h3;rw[List.length_cons]at h1;omega);have hJ2:J xs w2:=HJ.out xs wr w2 (some W.heap.size) hJs hg2 (fun r e=>by cases e;exact⟨wz,hrg.iter_walk⟩);have hJ3:=HJ.out xs w2 _ none hJ2 (World.grownBy_alloc w2 (.cells #[.int .u32 (xp:Nat),.int .i64 xl] 25) none) (fun r e=>by cases e);have hrg3:=hrg2.kept (World.grownBy_alloc w2 (.cells #[.int .u32 (xp:Nat),.int .i64 xl] 25) none) (by simp) (by simp);obtain⟨fn,tmps,assign,body,hy,hR⟩:=HY.out xs (xp,xl) _ hJ3 HLN.out;simp only at hy hR;have HRR:=Qa hR;have HRG3:=Qa hrg3;change(Instr.entry (.pointer (some ⟨W.heap.size,0,none⟩))).run Tryz.prog w2=.ok (.tuple #[idV (xp:Nat) xl,.pointer c]) w2 at hen;clear hs2 hfl hJ2 hJ3 hR hrg3 hM hr0 hg0 hs0
   gi_wp2
   refine HRR.out.mono ?_;rintro e W3 ⟨rfl,hJ4,hk4⟩;have hrg4:=HRG3.out.of_walks hk4;clear hen
   gi_wp2
   go_roundw
   case rel=>exact⟨_,cnt2,xs++[(xp,xl)],hrg4,HP2.out,hJ4⟩
   case measure=>rw[hrg4.left_eq,hrg.left_eq];exact hlt
theorem Qnv {base:Nat}{e:TypeId}{size:Nat}{v:Value}{k:Nat}{xs:List Value}{W W':World}{row:Option Nat}(h:W.ownsRow base e size v k xs)(hg:W.grownBy W' row)(hrow:∀j o,row=some j→W.heap[j]? = some o→o.isCells=false):W'.ownsRow base e size v k xs:=
 (Qd1 hg).row h (fun j hj e=>by
  rcases h.2 with⟨rfl,_⟩|⟨g,cap,cur,rfl,_,hb,_⟩
  ·simp[Value.ownBlock]at hj
  ·have:g=j:=(by simpa[Value.ownBlock]using hj);subst this;have:=hrow g _ e hb;cases this)
theorem Qho (n:Nat)(hn:3≤n)(g:Nat)(lb:Array Value)(eg:∀args w,(callFunc g args).run Tryz.prog w=.ok (.enter g args) w)(S:List (Nat×Int)→Prop)(N:Nat)(hN:N≤50000)(w w0:World)(hb0:Below w0.heap.size w0 w)
 (hseq:Qvu Fence.wide (n - 1) Tryz.prog g lb (fun x:Nat×Int => #[idV (x.1:Nat) x.2]) S N w0) :
 CallsIn Fence.wide n Tryz.prog 183 #[.slice none 0 0,.func (.func g) #[] lb] w fun e w'=>∃v xs,e=.returned v∧S xs∧w'.ownsRow w.heap.size 25 2 v xs.length (idCells xs)∧Below w.heap.size w w':=by
 have h1:1≤n:=by omega
 obtain⟨i0,hi,hz0,hz1,hz2⟩:=info_parts Qun;refine callsIn_of_wp_marks Tryz.func183 rfl trivial ?_ rfl;simp only[Tryz.ntmps183,List.size_toArray,List.length_cons,List.length_nil,Nat.reduceAdd,Nat.reduceSub,Array.replicate_succ,Array.replicate_zero,List.push_toArray,List.append_toArray,List.nil_append,List.cons_append]
 gi_wp2
 have bO:=Boxed.new w 38 (.slice none 0 0);have hB0:Below w.heap.size w (w.alloc (.cells #[.slice none 0 0] 38)):=(Below.refl _ w).alloc wz _;refine Qmq rfl h1 (gf:=g) (lb:=lb) rfl trivial eg hseq (hb0.trans (hB0.mono hb0.size)) (fun _=>rfl)
  (fun pre W=>(∃v,Boxed W w.heap.size 38 v∧W.ownsRow w.heap.size 25 2 v pre.length (idCells pre))∧Below w.heap.size w W) ?abides ?put
  ⟨⟨_,bO,World.ownsRow_nil _ _ _ _⟩,hB0⟩
  (fun x a' W=>∃Bx,w.heap.size<Bx∧Blk W Bx #[.int .u32 (x.1:Nat),.int .i64 x.2] 25∧a'={ tmps := #[.slice none 0 0,.func (.func g) #[] lb,.pointer (some ⟨w.heap.size,0,none⟩),undef,.slice none 0 0,.pointer (some ⟨Bx,0,none⟩),.func (.func g) #[] lb,idV (x.1:Nat) x.2,undef,undef,undef,undef,undef],defers:=[] }) ?ax ?assign ?body ?done
 case abides=>
  rintro s A B row ⟨⟨v,hv,hr⟩,hb⟩ hg hrow;have hwalk:∀j o,row=some j→A.heap[j]? = some o→o.isCells=false:=fun j o e ho=>by obtain⟨_,o',h1,h2⟩:=hrow j e;rw[ho]at h1;cases h1;cases o<;>first|rfl|cases h2
  refine⟨⟨v,hv.kept hg (fun e => ?_),Qnv hr hg hwalk⟩,hb.trans ⟨hg.os,hg.tape,hg.output,hg.size,fun k hk=>hg.block k (by have:=hb.size;omega) (fun e => ?_)⟩⟩
  ·have:=hwalk w.heap.size _ e.symm hv;cases this
  ·obtain⟨h1,_⟩:=hrow k e.symm;simp at h1;omega
 case put=>
  rintro pre A l o o' hl ⟨⟨v,hv,hr⟩,hb⟩ ho hc;have hl':w.heap.size<l:=by simp at hl;omega
  exact⟨⟨v,(World.putObj_heap_other (by omega)).trans hv,ownsRow_putObj hr o' ho hc⟩,hb.trans (Vp A o' (by omega))⟩
 case ax=>
  rintro x a' A l o ⟨r,hr⟩ ⟨Bx,h1,h2,h3⟩;refine⟨Bx,h1,(World.putObj_heap_other (fun e => ?_)).trans h2,h3⟩;subst e;have:A.heap[Bx]? = some (.cells #[.int .u32 (x.1:Nat),.int .i64 x.2] 25 (0,0)):=h2;rw[hr]at this;cases this
 case assign=>
  rintro l pre x W K ⟨⟨v,hv,hr⟩,hb⟩ hK;have hlt:=hv.lt
  gi_wp2
  exact hK _ _ (KeepsOthers.alloc _ _) ⟨⟨v,hv.alloc _,hr.alloc _⟩,hb.alloc hb.size _⟩ ⟨W.heap.size,hlt,Blk.new W _ _,rfl⟩
 case body=>
  rintro l pre x a' W ⟨⟨v,hv,hrow⟩,hB⟩ ⟨Bx,hBx,hX,rfl⟩ hlt;have hc:=hv.cell;have x0:=hX.cell (i:=0) rfl;have x1:=hX.cell (i:=1) rfl;gi_wp2_with (gi_at_builtin;refine wpListIn_append_own _ rfl _ _ 38 rfl w.heap.size 25 i0 (idV 0 0) 2 16 Tryz.underlying38 hi hz0 hz1 hz2 rfl (by decide) _ _ _ rfl (hrow.alloc _) ⟨W.heap.size,0,none⟩ 1 1 [.int .u32 (x.1:Nat),.int .i64 x.2] rfl rfl (Qi0 W _ _ _ _ rfl) (by simp[Value.oneCell']) (by unfold maxLen;omega) (by omega) (by have:=hB.size;simp;omega) ?_;intro v' w1 hown' hgrow _;obtain⟨g',cap',rfl⟩:=ownsRow_succ hown';obtain⟨hv1,hv2,hr2,hk2,hb2⟩:=hv.appended (by decide) hrow hB.size wz hown' hgrow;have hc1:=hv1.cell;have hf1:=hv1.frozen);refine⟨⟨_,hv2,?_⟩,hB.trans hb2⟩;rw[Xy];exact hr2
 case done=>
  rintro D ys W hD hS ⟨⟨v,hv,hrow⟩,hB⟩ hK;have hc:=hv.cell
  gi_wp2
  refine⟨by simp,.inl ⟨_,_,rfl,run_takeDeferred hK,?_⟩⟩;exact⟨_,results_tmp rfl _ _ _,v,ys,rfl,hS,ownsRow_putObj hrow _ hK rfl,hB.trans (Vp _ _ (by simp at hD;omega))⟩
theorem Qlw (n:Nat)(hn:4≤n)(g:Nat)(lb:Array Value)(eg:∀args w,(callFunc g args).run Tryz.prog w=.ok (.enter g args) w)(S:List (Nat×Int)→Prop)(N:Nat)(hN:N≤50000)(w:World)
 (hseq:Qvu Fence.wide (n - 1 - 1) Tryz.prog g lb (fun x:Nat×Int => #[idV (x.1:Nat) x.2]) S N w) :
 CallsIn Fence.wide n Tryz.prog 106 #[.func (.func g) #[] lb] w fun e w'=>∃v xs,e=.returned v∧S xs∧w'.ownsRow w.heap.size 25 2 v xs.length (idCells xs)∧Below w.heap.size w w':=by
 have h1:1≤n:=by omega
 refine callsIn_of_wp Tryz.func106 rfl trivial ?_ rfl;simp only[Tryz.ntmps106,List.size_toArray,List.length_cons,List.length_nil,Nat.reduceAdd,Nat.reduceSub,Array.replicate_succ,Array.replicate_zero,List.push_toArray,List.append_toArray,List.nil_append,List.cons_append];gi_wp2_with (refine⟨trivial,?_⟩;gi_at_call 183;refine(Qho (n - 1) (by omega) g lb eg S N hN _ _ (Below.refl _ _) hseq).mono ?_;rintro e w' ⟨v,xs,rfl,hS,hrow,hb⟩);go_ret;exact⟨v,xs,rfl,hS,hrow,hb⟩
open Go.RowKit Go.Maps Go.Sort
theorem Qhb {α:Type}{R:α→α→Prop}:∀(xs:List α),¬2≤xs.length→xs.Pairwise R
 | [],_=>List.Pairwise.nil
 | [_],_=>List.pairwise_singleton _ _
 | _::_::_,h=>absurd (by simp) h
def encID (x:Nat×Int):List Value:=[.int .u32 (x.1:Nat),.int .i64 x.2]
theorem Qqw:SWO Qo where
 irrefl x:=Vd x
 trans x y z h1 h2:=K3 h1 h2
 ntrans x y z h1 h2:=by
  have n1:¬(Qo x y=true):=by rw[h1];decide
  have n2:¬(Qo y z=true):=by rw[h2];decide
  cases h3:Qo x z with
  | false=>rfl
  | true=>
   rw[Kb]at *;omega
theorem Qo5:(Tryz.prog.info? 38).map (·.desc)=some (.slice 25):=by kernel_rfl
theorem Qpk:(Tryz.prog.info? 25).map (fun i=>(i.size,i.hasPointers,i.bytes))=some (2,false,16):=by kernel_rfl
theorem Qje (w:World):(Extern.Rtype.kind 25).run Tryz.prog w=.ok 25 w:=by kernel_rfl
theorem Qv5 (w:World):(isAgg 25).run Tryz.prog w=.ok true w:=by kernel_rfl
theorem Qd0:Tryz.prog.packed 38=false:=by kernel_rfl
theorem Qrk (x:Nat×Int):∀v∈encID x,v.oneCell'=true:=by
 intro v hv;simp only[encID,List.mem_cons,List.not_mem_nil,or_false]at hv;rcases hv with rfl|rfl<;>rfl
theorem Qrm (Bs blk off n c i j:Nat)(x y:Nat×Int)(W:World)(hs:W.cell? ⟨Bs,0,none⟩=some (.slice (some ⟨blk,off,none⟩) n c))(hi:i<n)(hj:j<n)
 (i0:W.cell? ⟨blk,off+i*2,none⟩=some (.int .u32 (x.1:Nat)))(i1:W.cell? ⟨blk,off+i*2+1,none⟩=some (.int .i64 x.2))(j0:W.cell? ⟨blk,off+j*2,none⟩=some (.int .u32 (y.1:Nat)))(j1:W.cell? ⟨blk,off+j*2+1,none⟩=some (.int .i64 y.2)) :
 Calls Tryz.prog 109 #[.int .i64 i,.int .i64 j,.pointer (some ⟨Bs,0,none⟩)] W fun e w'=>e=.returned (.bool (Qo x y))∧Below W.heap.size W w':=by
 have hi':(i:Int)<(n:Int):=by omega
 have hj':(j:Int)<(n:Int):=by omega
 have HL:=Qpe x y;have HLb:Hid _:=HL;obtain⟨r,hr⟩:∃r,Qo x y=r:=⟨_,rfl⟩;rw[hr]at HLb ⊢;clear HL hr;obtain⟨xp,xl⟩:=x;obtain⟨yp,yl⟩:=y;simp only at i0 i1 j0 j1 HLb;have HC:Hid (∀w',Below W.heap.size W w'→w'.cell? ⟨Bs,0,none⟩=some (.slice (some ⟨blk,off,none⟩) n c)∧w'.cell? ⟨blk,off+i*2,none⟩=some (.int .u32 (xp:Nat))∧w'.cell? ⟨blk,off+i*2+1,none⟩=some (.int .i64 xl)∧w'.cell? ⟨blk,off+j*2,none⟩=some (.int .u32 (yp:Nat))∧w'.cell? ⟨blk,off+j*2+1,none⟩=some (.int .i64 yl)):=fun w' hb=>⟨(hb.cell (p:=⟨Bs,0,none⟩) (lt_of_cell hs)).trans hs,(hb.cell (p:=⟨blk,off+i*2,none⟩) (lt_of_cell i0)).trans i0,(hb.cell (p:=⟨blk,off+i*2+1,none⟩) (lt_of_cell i0)).trans i1,(hb.cell (p:=⟨blk,off+j*2,none⟩) (lt_of_cell i0)).trans j0,(hb.cell (p:=⟨blk,off+j*2+1,none⟩) (lt_of_cell i0)).trans j1⟩;go_enter Tryz.func109,Tryz.ntmps109;go_wp2_with fail
 go_region_held3 (fun w'=>w'.cell? ⟨Bs,0,none⟩=some (.slice (some ⟨blk,off,none⟩) n c)∧w'.cell? ⟨blk,off+i*2,none⟩=some (.int .u32 (xp:Nat))∧w'.cell? ⟨blk,off+i*2+1,none⟩=some (.int .i64 xl)∧w'.cell? ⟨blk,off+j*2,none⟩=some (.int .u32 (yp:Nat))∧w'.cell? ⟨blk,off+j*2+1,none⟩=some (.int .i64 yl)) (go_keep) (first
  | (go_at_call 110;refine(Kn _ _ _ _ _).mono ?_;rintro e w2 ⟨rfl,hb2⟩;rw[HLb.out];have hB2:Below W.heap.size W w2:=(Below.refl _ W).drew.trans hb2;have HB2:Hid (Below W.heap.size W w2):=hB2;obtain⟨z0,z1,z2,z3,z4⟩:=HC.out w2 hB2;clear hb2 hB2))
 go_wp2_with fail;go_ret;exact⟨rfl,HB2.out⟩
theorem U6 {w:World}{g off:Nat}{d:Array (Nat×Int)}(h:HoldsK encID 2 w g off d){i:Nat}(hi:i<d.size) :
 w.cell? ⟨g,off+i*2,none⟩=some (.int .u32 (d[i].1:Nat))∧w.cell? ⟨g,off+i*2+1,none⟩=some (.int .i64 d[i].2):=by have e:d[i]! = d[i]:=getElem!_pos d i hi;have c0:=(h.cell (i:=i) (c:=0) hi (by decide)).1;have c1:=(h.cell (i:=i) (c:=1) hi (by decide)).1;rw[e]at c0 c1;exact⟨c0,c1⟩
theorem Qhs {w:World}{base g cap:Nat}{c:List (Nat×Int)}(h:w.ownsRow base 25 2 (.slice (some ⟨g,0,none⟩) c.length cap) c.length (idCells c)):HoldsK encID 2 w g 0 c.toArray:=by
 obtain⟨hl,ho⟩:=h;rcases ho with⟨he,_⟩|⟨g',cap',cur,he,_,hb,h1,h2,h3,h4⟩
 ·cases he
 ·obtain⟨e1,e2⟩:g=g'∧cap=cap':=by simpa using he
  subst e1 e2;intro j hj;have hj':j<c.length*2:=by simpa using hj
  have hi:j / 2<c.length:=by omega
  have ef:(flatK encID 2 c.toArray)[j]! = (encID c[j / 2])[j % 2]! := by rw[get_flatK _ _ _ _ (by simpa using hj')];rw[getElem!_pos c.toArray (j / 2) (by simpa using hi)];simp
  obtain⟨a0,a1⟩:=Vw c (j / 2) hi;have hv:(idCells c)[j]? = some ((encID c[j / 2])[j % 2]!):=by
   have:j % 2=0∨j % 2=1:=(by omega);rcases this with hm|hm
   ·rw[show j / 2*2=j by omega]at a0;rw[a0,hm];rfl
   ·rw[show j / 2*2+1=j by omega]at a1;rw[a1,hm];rfl
  have hcur:cur.toList[j]? = some ((encID c[j / 2])[j % 2]!):=by rw[←hv,←h4,List.getElem?_take,if_pos (by omega)]
  refine⟨?_,by simp[World.frozen?,hb]⟩;rw[Nat.zero_add,ef];simp only[World.cell?,hb];rw[←Array.getElem?_toList,hcur];rfl
theorem Qez {d:Array (Nat×Int)}(hap:d.toList.Pairwise (fun p q=>p≠q))(hs:SortedIn Qo 0 d.size d):d.toList.Pairwise (fun p q=>Qo p q=true):=by
 rw[List.pairwise_iff_getElem]at *;intro i j hi hj hij;have h1:=hs i j (Nat.zero_le _) hij (by simpa using hj);rw[getElem!_pos d j (by simpa using hj),getElem!_pos d i (by simpa using hi)]at h1;have h2:=hap i j hi hj hij;simp only[Array.getElem_toList]at h2 ⊢;exact Qck h1 (fun e=>h2 e.symm)
theorem Qu3 (Bs g cap:Nat)(c:List (Nat×Int))(w:World)(hs:w.cell? ⟨Bs,0,none⟩=some (.slice (some ⟨g,0,none⟩) c.length cap))(hBs:Bs≠g)(hg:g<w.heap.size)(hH:HoldsK encID 2 w g 0 c.toArray)(h2:2≤c.length)(hsz:c.length≤1000)(hap:c.Pairwise (fun p q=>p≠q)) :
 Calls Tryz.prog 108 #[.iface 38 (.slice (some ⟨g,0,none⟩) c.length cap),.func (.func 109) #[] #[.pointer (some ⟨Bs,0,none⟩)]] w fun e w'=>e=.returned (.tuple #[])∧∃c':List (Nat×Int),c'.Perm c∧c'.Pairwise (fun p q=>Qo p q=true)∧Q3 w' (.slice (some ⟨g,0,none⟩) c.length cap) c'∧w.grownBy w' (some g):=by
 obtain⟨i,hi,hd⟩:=Option.map_eq_some_iff.1 Qo5;obtain⟨ie,hie,hm⟩:=Option.map_eq_some_iff.1 Qpk;obtain⟨m1,m2,m3⟩:ie.size=2∧ie.hasPointers=false∧ie.bytes=16:=by simpa using hm
 have hk9:Lib.swapperK c.toArray.size ie 25=9:=by have e0:(c.toArray.size==0)=false:=beq_eq_false_iff_ne.2 (by rw[List.size_toArray];omega);have e1:(c.toArray.size==1)=false:=beq_eq_false_iff_ne.2 (by rw[List.size_toArray];omega);simp only[Lib.swapperK,e0,e1,m2,m3];rfl
 have hBl:=lt_of_cell hs;have hlen:c.length=c.toArray.size:=by simp
 have H:=Qiu (α:=Nat×Int) Tryz.laysGg6 38 25 i ie hi hd Qd0 hie 25 Qje encID 2 (fun _=>rfl) m1 Qv5 Qrk Qo Qqw 109 #[.pointer (some ⟨Bs,0,none⟩)]
  (enters_of Tryz.func109 (by kernel_rfl) rfl) g 0 cap c.toArray (by simpa using h2) (by simp;omega) 251 (by rw[hk9];exact swap9) false
  (fun args W=>run_callFunc_extern Tryz.func251 (by kernel_rfl) (by kernel_rfl) (by kernel_rfl) (e:=Extern.ReflectliteSwapper.swap false) (by kernel_rfl) args W) w hg hH
  (fun W dk i j hgW hHk hdk hi hj=>by have hsW:W.cell? ⟨Bs,0,none⟩=some (.slice (some ⟨g,0,none⟩) c.toArray.size cap):=(by rw[←hlen];exact cell_kept hs hgW hBl (fun e=>hBs (Option.some.inj e)));obtain⟨a0,a1⟩:=U6 hHk (i:=i) (by omega);obtain⟨b0,b1⟩:=U6 hHk (i:=j) (by omega);refine(Qrm Bs g 0 c.toArray.size cap i j dk[i] dk[j] W hsW hi hj a0 a1 b0 b1).mono ?_;rintro e w' ⟨rfl,hb⟩;refine⟨?_,Qw hb⟩;rw[getElem!_pos dk i (by omega),getElem!_pos dk j (by omega)])
 rw[←hlen]at H;refine H.mono ?_;rintro e w' ⟨rfl,d',hp,hso,hh,hg'⟩;have hsz':d'.size=c.length:=by rw[hp.1];simp
 have hpm:d'.toList.Perm c:=by have h:=hp.2.2;rw[Array.extract_eq_self_of_le (by omega),Array.extract_eq_self_of_le (by simp)]at h;simpa using h
 refine⟨rfl,d'.toList,hpm,Qez (((hpm.pairwise_iff (fun {_ _} hne=>Ne.symm hne))).2 hap) (by rw[hsz'];exact hso),⟨some ⟨g,0,none⟩,cap,by simp[hsz'],fun i hi => ?_⟩,hg'⟩;have hi':i<d'.size:=by simpa using hi
 obtain⟨a0,a1⟩:=U6 hh (i:=i) hi';exact⟨g,0,rfl,Nat.lt_of_lt_of_le hg hg'.size,a0,a1⟩
theorem Qdd (p:Addr)(F:Nat→Prop)(st:NSt)(w:World)(hn:st.bins.length≤1000)(hP:Q9 w p F st) :
 Calls Tryz.prog 35 #[.pointer (some p)] w fun e w'=>∃(v:Value) (rs:List (Nat×Int)),e=.returned v∧rs.Perm (st.bins.map (·.1))∧rs.Pairwise (fun p q=>Qo p q=true)∧Q3 w' v rs∧Below w.heap.size w w'∧(∀k,v.ownBlock=some k→w.heap.size≤k):=by
 obtain⟨N,mf,mb,vi,pi,Fi,rfl,h,_⟩:=hP;have q1:=h.blk.cell (i:=1) rfl;have hM:=h.bins;obtain⟨L,hL⟩:∃L,(st.bins.map fun b=>(b.1,some (pi b.1)))=L:=⟨_,rfl⟩;have HLK:Hid (L.map (·.1)=st.bins.map (·.1)):=by show _=_;rw[←hL,List.map_map];rfl
 rw[hL]at hM;have HAP:Hid (L.Pairwise (fun p q=>p.1≠q.1)):=hM.apart;have HLN:Hid (L.length≤1000):=by show _≤_;rw[←hL,List.length_map];exact hn
 have hal1:=(Below.refl _ w).alloc wz (.cells #[.map (some mb)] 119);have hb1:=Blk.new w #[.map (some mb)] 119;have hM1:=Qig hM hal1;have HK:=Qa ((callsIn_wide (n:=8)).1 (Qts 8 (some mb) w));have HC:=Qa ((callsIn_wide (n:=8)).1 (Qlw 8 (by decide) 184 #[.pointer (some ⟨w.heap.size,0,none⟩)] (enters_of Tryz.func184 (by kernel_rfl) rfl) (fun xs=>xs.Perm (L.map (·.1))) L.length (by have:=HLN.out;omega) (w.alloc (.cells #[.map (some mb)] 119))
  (fun l J W' hW hJ hY h0=>Qqj (8 - 1 - 1) (by decide) l w.heap.size mb L J W' hJ hY ((hb1.next hW).cell (i:=0) rfl) (Qig hM1 hW) h0)))
 have HB1:=Qa hal1;clear h hM hL hal1 hb1 hM1 hn;go_enter Tryz.func35,Tryz.ntmps35;go_wp2_with fail;refine HK.out.mono ?_;rintro e w1 ⟨rfl,rfl⟩;clear HK q1;go_wp2_with fail;refine HC.out.mono ?_;rintro e w2 ⟨v,xs,rfl,hS,hrow,hb2⟩;have HS:=Qa hS;have HB2:Hid (Below w.heap.size w w2):=HB1.out.trans (hb2.mono HB1.out.size);have hxl:xs.length≤1000:=by rw[HS.out.length_eq,List.length_map];exact HLN.out
 have hxap:xs.Pairwise (fun p q=>p≠q):=by refine(HS.out.pairwise_iff (fun {_ _} hne=>Ne.symm hne)).2 ?_;rw[List.pairwise_map];exact HAP.out
 have HXA:=Qa hxap;have hW1s:(w.alloc (.cells #[.map (some mb)] 119)).heap.size=w.heap.size+1:=by simp
 rw[hW1s]at hrow;obtain⟨pv,cv,hv⟩:∃p c,v=.slice p xs.length c:=by
  rcases hrow.2 with⟨rfl,e⟩|⟨g,cap,cur,rfl,_⟩
  ·exact⟨none,0,by rw[e]⟩
  ·exact⟨_,_,rfl⟩
 subst hv;have HROW:=Qa hrow;have hal3:=(Below.refl _ w2).alloc wz (.cells #[.slice pv xs.length cv] 38);have HBX:=Qa (Blk.new w2 #[.slice pv xs.length cv] 38);have HROW3:=Qa (Qi hrow hal3);have HB3:Hid (Below w.heap.size w _):=Qa (HB2.out.trans (hal3.mono HB2.out.size));have HGL:Hid (∀g,(Value.slice pv xs.length cv).ownBlock=some g→w.heap.size+1≤g∧g<w2.heap.size):=fun g hg=>by
  rcases hrow.2 with⟨e,_⟩|⟨g',cap,cur,e,h1,h2,_⟩
  ·rw[e]at hg;simp[Value.ownBlock]at hg
  ·rw[e]at hg;have:g'=g:=(by simpa[Value.ownBlock]using hg);subst this;exact⟨h1,lt_of_block h2⟩
 have c0:=HBX.out.cell (i:=0) rfl;clear hS hrow hb2 hxap hW1s hal3 HC HROW HB2;go_wp2_with fail;generalize w2.alloc (.cells #[.slice pv xs.length cv] 38)=W3 at *;obtain⟨BX,hBX⟩:∃BX,w2.heap.size=BX:=⟨_,rfl⟩;rw[hBX]at HBX HGL c0 ⊢;clear hBX;obtain⟨i,hi',hd⟩:=Option.map_eq_some_iff.1 Qo5;obtain⟨ie,hie,hmm⟩:=Option.map_eq_some_iff.1 Qpk;by_cases h2:2≤xs.length
 ·obtain⟨g,cp',hv,h3,h4⟩:=Xq HROW3.out (by omega);obtain⟨rfl,rfl⟩:pv=some ⟨g,0,none⟩∧cv=cp':=by simpa using hv
  have hgg:=HGL.out g rfl;clear hi' hd hie hmm;have HSRT:=Qa (Qu3 BX g cv xs W3 c0 (by omega) (by have:=HBX.out.lt;omega) (Qhs HROW3.out) h2 hxl HXA.out);refine HSRT.out.mono ?_;rintro e w5 ⟨rfl,rs,hp,hr,hat,hg5⟩;have c5:=cell_kept c0 hg5 (lt_of_cell c0) (fun e=>by have:=Option.some.inj e;simp only at this;omega);have HAT:=Qa hat;have HB5:Hid (Below w.heap.size w w5):=HB3.out.trans ⟨hg5.os,hg5.tape,hg5.output,hg5.size,fun k hk=>hg5.block k (by have:=HB3.out.size;omega) (fun e=>by have:=Option.some.inj e;omega)⟩;have HPR:=Qa (And.intro (hp.trans HS.out) hr);clear hat hg5 hp hr HSRT;go_wp2_with fail;go_ret;exact⟨_,rs,rfl,by rw[←HLK.out];exact HPR.out.1,HPR.out.2,HAT.out,HB5.out,fun k hk=>by have:=(HGL.out k hk).1;omega⟩
 ·have htiny:Calls Tryz.prog 108 #[.iface 38 (.slice pv xs.length cv),.func (.func 109) #[] #[.pointer (some ⟨BX,0,none⟩)]] W3 fun e w'=>e=.returned (.tuple #[])∧∃os,w'=grow W3 os:=by
   have h01:xs.length=0∨xs.length=1:=(by omega);rcases h01 with h01|h01
   ·exact Any.sort_Slice_tiny Tryz.laysGg6 38 25 i ie hi' hd Qd0 hie 25 Qje pv xs.length cv (by omega) 243 (by rw[h01];exact Qvl) _ _ _ W3
   ·exact Any.sort_Slice_tiny Tryz.laysGg6 38 25 i ie hi' hd Qd0 hie 25 Qje pv xs.length cv (by omega) 244 (by rw[h01];exact Qvo) _ _ _ W3
  have hone:xs.Pairwise (fun p q=>Qo p q=true):=Qhb xs h2;have HONE:=Qa hone;clear hi' hd hie hmm hone;refine htiny.mono ?_;rintro e w5 ⟨rfl,os,rfl⟩;have hgr:W3.grownBy (grow W3 os) none:=Qgp W3 os;have c5:=cell_kept c0 hgr (lt_of_cell c0) (by simp);have HAT:=Qa ((Q3.of_row HROW3.out).below (Qe hgr));have HB5:Hid (Below w.heap.size w _):=Qa (HB3.out.trans ((Qe hgr).mono HB3.out.size));clear hgr;go_wp2_with fail;go_ret;exact⟨_,xs,rfl,by rw[←HLK.out];exact HS.out,HONE.out,HAT.out,HB5.out,fun k hk=>by have:=(HGL.out k hk).1;omega⟩
theorem Uv (p:Addr)(F:Nat→Prop)(st:NSt)(w:World)(hn:st.bins.length≤1000)(hP:Q9 w p F st) :
 Calls Tryz.prog 35 #[.pointer (some p)] w fun e w'=>∃(v:Value) (rs:List (Nat×Int)),e=.returned v∧rs.Perm (st.bins.map (·.1))∧rs.Pairwise (fun p q=>Qo p q=true)∧Q3 w' v rs∧Below w.heap.size w w':=
 (Qdd p F st w hn hP).mono fun _ _ ⟨v,rs,h1,h2,h3,h4,h5,_⟩=>⟨v,rs,h1,h2,h3,h4,h5⟩
open Go.RowKit Go.Maps
theorem Qut:Xh st1:=by
 have:=Xh.empty.put NOk.empty (by decide) [97] Q6;rw[Quq]at this;exact this
theorem Quc:Xj st1:=by
 have:=Xj.empty.put [97] Q6;rw[Quq]at this;exact this
abbrev fl1:List Qz:=[([97],Q6)]
abbrev hl1:List Hd:=[(Qc Q6,1,Q6)]
theorem fl1_perm:fl1.Perm (st1.files.filter fun f=>decide (Qg f.2=Qg Q6)):=by
 have e:st1.files.filter (fun f=>decide (Qg f.2=Qg Q6))=fl1:=by show[([97],Q6)].filter _=_;rw[List.filter_cons_of_pos (by simp)];rfl
 rw[e]
theorem Qwu:Qbh 4000 (Qg Q6) fl1 hl1:=Qr8 Qut Quc ok1 (List.mem_singleton.2 rfl) fl1_perm
theorem Qsj (f:Qz)(hl:f.2.length≤4000)(hn:Qj f.1=true):(K8 (rcpOf f)).length≤f.1.length+29*(idsOf f.2).length+20:=by
 have h0:=Gd f.1 f.2 hn hl;have h2:=J4 f.2.length 4 (by omega) (by omega);have h3:=U8 (idsOf f.2) (fun x hx=>(Qfw f.2 x hx).2);have e:K8 (rcpOf f)=Zy f.1 f.2.length (pmore 2166136261 f.2) (idsOf f.2)++[10]:=by show Ud f.1 (f.2.length:Int) (((pmore 2166136261 f.2:Nat):Int)).toNat (idsOf f.2)++[10]=_;rw[Int.toNat_natCast];unfold Ud;rw[if_pos h0]
 rw[e];unfold Zy;simp only[List.length_append,List.length_cons,List.length_nil,Int.toNat_natCast,Qm];omega
theorem text1:(Ql (fl1.map rcpOf) hl1).length≤40000:=by
 have h0:=(Jy (fl1.map rcpOf) hl1).1;have h1:(Qu hl1).length≤hl1.length*160:=V9 _ (fun h hh=>by rw[List.mem_singleton.1 hh];exact⟨by decide,by decide,by decide⟩);have h2:(Zo (fl1.map rcpOf)).length≤1000:=by
  have e:Zo (fl1.map rcpOf)=K8 (rcpOf ([97],Q6)):=by simp[Zo]
  have h3:=Qsj ([97],Q6) (by decide) (by decide);have h5:=Qy Q6;have h6:(idsOf Q6).length≤10:=by unfold idsOf;rw[List.length_map];have:Q6.length=5:=rfl;omega
  simp only[List.length_cons,List.length_nil]at h3;rw[e];omega
 have h7:(Ky (fl1.map rcpOf).length (Qu hl1).length).length≤100:=by unfold Ky;have a1:=Qd5 (fl1.map rcpOf).length (by decide);have a2:=Qd5 (Qu hl1).length (by have:hl1.length=1:=rfl;omega);simp only[List.length_append,List.length_cons,List.length_nil]at *;omega
 have h8:(loadBody (fl1.map rcpOf) hl1).length=(Ky (fl1.map rcpOf).length (Qu hl1).length).length+(Zo (fl1.map rcpOf)).length+(Qu hl1).length:=by unfold loadBody;rw[List.length_append,List.length_append]
 have h9:hl1.length=1:=rfl;omega
theorem Qqz (a:Nat→Addr)(m:Int)(w:World)(hE:J6 w a)(hp:Y9 w)(hm:w.cell? ⟨14,0,none⟩=some (.int .i64 m)) :
 Calls Tryz.prog 37 #[] w fun e w'=>e=.returned (.bool true)∧Below w.heap.size w w':=by
 have HEE:Hid (∀W,Below w.heap.size w W→J6 W a):=fun W hb=>hE.below hb wz;have HPW:Hid (∀W,Below w.heap.size w W→Y9 W):=fun W hb=>hp.below hb wz;have HMM:Hid (∀W,Below w.heap.size w W→W.cell? ⟨14,0,none⟩=some (.int .i64 m)):=fun W hb=>(hb.cell (p:=⟨14,0,none⟩) (lt_of_cell hm)).trans hm;clear hE hp hm;go_enter Tryz.func37,Tryz.ntmps37;go_wp2_with fail;refine(Qcv w).mono ?_;rintro e w1 ⟨p,F1,rfl,hP1,hF1,hb1⟩;have HB1:=Qa hb1;have HP1:=Qa hP1;have HF1:=Qa hF1;have HL1:=Qa hP1.lt;clear hb1 hP1 hF1;go_wp2_with fail;refine(Qcv w1).mono ?_;rintro e w2 ⟨q,F2,rfl,hP2,hF2,hb2⟩;have HB2:Hid (Below w.heap.size w w2):=HB1.out.trans (hb2.mono HB1.out.size);have HQ2:=Qa hP2;have HP2:=Qa (HP1.out.below hb2);have HF2:Hid (∀k,F2 k→w.heap.size≤k∧¬F1 k):=fun k hk=>by have h1:=hF2 k hk;have h2:=HB1.out.size;exact⟨by omega,fun hf=>by have:=HL1.out k hf;omega⟩
 clear hb2 hP2 hF2;go_wp2_with fail;refine(Qen a ⟨#[97]⟩ Qth p F1 0 ⟨[],[]⟩ w2 (by decide) (by decide) ⟨by decide,by decide⟩ (fun b hb=>by simp at hb) (by simp) ((HEE.out _ HB2.out).on (by decide)) HP2.out).mono ?_;rw[show(⟨#[97]⟩:ByteArray).data.toList=[97] from rfl,show Qth.data.toList=Q6 from rfl,Quq];rintro e w3 ⟨ev3,F3,rfl,he3,hP3,hF3,ho3⟩;simp only at he3 hP3;obtain rfl:=he3.nil;have HB3:Hid (Below w.heap.size w w3):=HB2.out.trans (ho3.below HB2.out.size (fun j hj hF=>by have:=HF1.out j hF;omega));have HP3:=Qa hP3;have HQ3:=Qa (HQ2.out.off ho3 (fun k hk hf=>(HF2.out k hk).2 hf));clear he3 hP3 hF3 ho3 HP2 HP1 HB2 HQ2;go_wp2_with fail;refine(Uv p F3 st1 w3 (by decide) HP3.out).mono ?_;rintro e w4 ⟨v4,rs,rfl,hrs,_,hids,hb4⟩;obtain rfl:rs=[Qg Q6]:=List.perm_singleton.1 hrs;have HB4:=Qa (HB3.out.trans (hb4.mono HB3.out.size));have HP4:=Qa (HP3.out.below hb4);have HQ4:=Qa (HQ3.out.below hb4);obtain⟨pv,cv,rfl,hcell⟩:=hids;obtain⟨b,o,rfl,_,d0,d1⟩:=hcell 0 (by simp);simp only[List.getElem_cons_zero,Nat.zero_mul,Nat.add_zero,List.length_cons,List.length_nil,Nat.zero_add]at d0 d1 ⊢;obtain⟨xp,hxp⟩:∃xp,(Qg Q6).1=xp:=⟨_,rfl⟩;obtain⟨xl,hxl⟩:∃xl,(Qg Q6).2=xl:=⟨_,rfl⟩;have HX:Hid (Qg Q6=(xp,xl)):=by show _=_;rw[←hxp,←hxl]
 have HWX:Hid (Zv (xp,xl)):=by show Zv _;rw[←HX.out];exact Gi Q6
 rw[hxp]at d0;rw[hxl]at d1;clear hb4 hrs hcell hxp hxl HP3 HQ3 HB3;go_wp2_with fail;have hsub:=Qwu;have hbin:Zi st1.bins (xp,xl)=some hl1:=by rw[←HX.out];simp[st1,Zi]
 refine(Qc2 (U:=4000) (by decide) a p F3 st1 xp xl hl1 w4 HWX.out (fun f hf=>(ok1.files f hf).1) (fun f hf=>Qdl f (ok1.files f hf).1 (ok1.files f hf).2) (by decide) hbin (ok1.bins _ (List.mem_singleton.2 rfl)) (HEE.out _ HB4.out) (HPW.out _ HB4.out) HP4.out).mono ?_;rintro e w5 ⟨fl,rfl,hfp,_,hb5⟩;obtain rfl:fl=fl1:=by rw[←HX.out]at hfp;exact List.perm_singleton.1 (hfp.trans fl1_perm.symm)
 have HB5:=Qa (HB4.out.trans (hb5.mono HB4.out.size));have HQ5:=Qa (HQ4.out.below hb5);clear hb5 hfp d0 d1 hsub hbin HP4 HQ4 HB4;have HIN:=Qa (Qcz (U:=4000) (by decide) a m fl1 hl1 (Qg Q6) q F2 w5 Qwu (List.pairwise_singleton _ _) text1 (HEE.out _ HB5.out) (HMM.out _ HB5.out) HQ5.out);obtain⟨TX,hTX⟩:∃TX:ByteArray,(⟨(Ql (fl1.map rcpOf) hl1).toArray⟩:ByteArray)=TX:=⟨_,rfl⟩;rw[hTX]at HIN ⊢;clear hTX;go_wp2_with fail;refine HIN.out.mono ?_;rintro e w6 ⟨v6,F6,rfl,hrow6,hP6,hF6,ho6⟩;have HB6:Hid (Below w.heap.size w w6):=HB5.out.trans (ho6.below HB5.out.size (fun j hj hF=>by have:=(HF2.out j hF).1;omega));have HROW6:=Qa hrow6;have HP6:=Qa hP6;clear hrow6 hP6 hF6 ho6 HIN;go_wp2_with fail;refine(Vg a ⟨#[97]⟩ q F6 ⟨fl1.reverse,[(Qg Q6,hl1)]⟩ w6 Q6 hl1 (by decide) (by decide) (by simp[Zi]) (fun t ht=>by rw[Qeh]at ht;rw[List.mem_singleton.1 ht];simp[Qal,Z8]) (by decide) (by decide) ((HEE.out _ HB6.out).on (by decide)) HP6.out).mono ?_;rintro e w7 ⟨rfl,hb7⟩;have HB7:=Qa (HB6.out.trans (hb7.mono HB6.out.size));have HCA:=Qa ((Zj.of_row HROW6.out).below hb7);obtain⟨p6,c6,rfl⟩:=Jv HROW6.out;have hST:=fun (W:World) (hb:Below w7.heap.size w7 W) (hc:Zj W (.slice (some ⟨w7.heap.size,0,none⟩) 1 1) ([[97]].map Qcd))=>Qfv (.slice p6 fl1.length c6) (.slice (some ⟨w7.heap.size,0,none⟩) 1 1) [[97]] W (by decide) (HCA.out.below hb) hc;have HST:=Qa hST;have HCB:Hid (Zj (w7.alloc (.cells #[.string ⟨#[97]⟩] 9)) (.slice (some ⟨w7.heap.size,0,none⟩) 1 1) ([[97]].map Qcd)):=⟨some ⟨w7.heap.size,0,none⟩,1,rfl,fun i hi=>by
  have h0:i=0:=by simp at hi;exact hi
  subst h0;exact⟨w7.heap.size,0,rfl,⟨by simp,by simp⟩,(Blk.new w7 #[.string ⟨#[97]⟩] 9).cell (i:=0) rfl⟩⟩
 have hal7:=(Below.refl _ w7).alloc wz (.cells #[.string ⟨#[97]⟩] 9);have HB8:=Qa (HB7.out.trans (hal7.mono HB7.out.size));have HSX:=Qa (HST.out _ hal7 HCB.out);rw[show(⟨Q6.toArray⟩:ByteArray)=⟨#[104,101,108,108,111]⟩ from rfl];clear hb7 hST hal7;go_wp2_with fail;refine HSX.out.mono ?_;rintro e w9 ⟨rfl,hb9⟩;have HB9:=Qa (HB8.out.trans (hb9.mono HB8.out.size));clear hb9;go_wp2_with fail;go_ret;exact⟨rfl,HB9.out⟩
def Jf (st:NSt)(fl:List Qz):NSt:=fl.foldl (fun s f=>(Z5 s f.1).2) st
theorem Qkz (st:NSt)(fl:List Qz)(k:Nat)(h:k<fl.length):Jf st (fl.take (k+1))=(Z5 (Jf st (fl.take k)) (fl[k]'h).1).2:=by
 unfold Jf;rw[List.take_succ_eq_append_getElem h,List.foldl_append];rfl
theorem Qhk (a:Nat→Addr)(p:Addr)(F:Nat→Prop)(st:NSt)(xp:Nat)(xl:Int)(l:List Hd)(U:Int)(n:Nat)(w:World)(hx:Zv (xp,xl))(hb:Zi st.bins (xp,xl)=some l)(hI:Xh st)(hK:NOk U n st)(hU:U≤1000000)(hn:st.files.length≤1000)(hE:Je [4,10] w a)(hG:∀i,([4,10]:List Nat).contains i=true→¬F (Xn i))(hP:Q9 w p F st) :
 Calls Tryz.prog 41 #[.pointer (some p),idV (xp:Nat) xl] w fun e w'=>∃(v:Value) (fl:List Qz) (F':Nat→Prop),e=.returned (.tuple #[v,.nilIface])∧fl.Perm (st.files.filter fun f=>decide (Qg f.2=(xp,xl)))∧fl.Pairwise (fun f g=>f.1<g.1)∧w'.ownsRow w.heap.size 9 1 v fl.length (fl.map fun f=>.string ⟨f.1.toArray⟩)∧Q9 w' p F' (Jf st fl)∧(∀k,F' k→F k∨w.heap.size≤k)∧Off F w w':=by
 have HFW:Hid (∀k,F k→k<w.heap.size):=hP.lt;have HEO:Hid (∀W,Off F w W→Je [4,10] W a):=fun W ho=>hE.off ho hG;have HGL:Hid (∀i,([4,10]:List Nat).contains i=true→¬F (Xn i)∧Xn i<w.heap.size):=fun i hi=>⟨hG i hi,lt_of_cell (hE.glob i hi)⟩;have hal0:=(Below.refl _ w).alloc wz (.cells #[.int .u32 (xp:Nat),.int .i64 xl] 25);have HBX0:=Qa (Blk.new w #[.int .u32 (xp:Nat),.int .i64 xl] 25);have HB0:=Qa hal0;have HP0:=Qa (hP.below hal0);have HII:=Qa hI;have HKK:=Qa hK;have HUU:=Qa hU;have HN:=Qa hn;have HBN:=Qa (Gm (xp,xl) p F st _ hx (hP.below hal0));rw[hb]at HBN;have x0:=HBX0.out.cell (i:=0) rfl;have x1:=HBX0.out.cell (i:=1) rfl;clear hx hb hI hK hU hn hE hG hP hal0;go_enter Tryz.func41,Tryz.ntmps41;go_wp2_with fail;generalize w.alloc (.cells #[.int .u32 (xp:Nat),.int .i64 xl] 25)=W0 at *;refine HBN.out.mono ?_;intro e w1 hpost;unfold Qi4 at hpost;obtain⟨⟨q,Fq,rfl,_,_⟩,hb1⟩:=hpost;clear x0 x1;have HBX1:=Qa (HBX0.out.next hb1);have HP1:=Qa (HP0.out.below hb1);have HB1:=Qa (HB0.out.trans (hb1.mono HB0.out.size));have x0:=HBX1.out.cell (i:=0) rfl;have x1:=HBX1.out.cell (i:=1) rfl;clear hb1 HBN;go_wp2_with fail;refine(Qbl p F st xp xl w1 (fun f hf=>(HKK.out.files f hf).1) HN.out HP1.out).mono ?_;rintro e w2 ⟨vf,fl,rfl,hfp,hfs,hfr,hb2⟩;have HFP:=Qa hfp;have HFS:=Qa hfs;have HFR:=Qa hfr;have HB2:=Qa (HB1.out.trans (hb2.mono HB1.out.size));have HP2:=Qa (HP1.out.below hb2);have hlen:fl.length≤1000:=by rw[hfp.length_eq];exact Nat.le_trans (List.length_filter_le _ _) HN.out
 clear x0 x1 hb2 hfp hfs hfr;go_wp2_with fail;refine(Qbw vf (fl.map rcpOf) w2 (by rw[List.length_map];exact hlen) HFR.out).mono ?_;rintro e w3 ⟨vn,rfl,hrow,hb3⟩;rw[List.length_map,List.map_map]at hrow;change w3.ownsRow w2.heap.size 9 1 vn fl.length (fl.map fun f=>Value.string ⟨f.1.toArray⟩)at hrow;have HROW:=Qa hrow;have HB3:=Qa (HB2.out.trans (hb3.mono HB2.out.size));have HP3:=Qa (HP2.out.below hb3);have HS2:Hid (w.heap.size≤w2.heap.size):=HB2.out.size;have HCN:Hid (fl≠[]→∃g,(∃c,vn=.slice (some ⟨g,0,none⟩) fl.length c)∧(w.heap.size≤g∧g<w3.heap.size)∧∀i (hi:i<fl.length),w3.cell? ⟨g,i,none⟩=some (.string ⟨fl[i].1.toArray⟩)):=fun hne=>by
  rcases hrow.2 with⟨_,hz⟩|⟨g,cap,cur,hv,hge,hb,_⟩
  ·exact absurd (List.length_eq_zero_iff.1 hz) hne
  ·refine⟨g,⟨cap,hv⟩,⟨Nat.le_trans HS2.out (Kc hrow (by rw[hv];rfl)),lt_of_block hb⟩,fun i hi => ?_⟩;have c1:=hrow.cells (g:=g) (by rw[hv];rfl) i (.string ⟨fl[i].1.toArray⟩) (by simp[hi]);simp only[add_plain]at c1;exact c1
 obtain⟨pn,cn,hvn⟩:=Jh hrow;subst hvn;clear hrow hb3;go_wp2_with fail
 go_loopw [23] (fun i wr=>∃(k:Nat) (Fk:Nat→Prop),k≤fl.length∧i=.int .i64 k∧Hid (Q9 wr p Fk (Jf st (fl.take k)))∧Hid (Xh (Jf st (fl.take k)))∧Hid (NOk U n (Jf st (fl.take k)))∧Hid (∀j,Fk j→F j∨w3.heap.size≤j)∧Hid (Off F w3 wr)) (fun i _=>fl.length - (intOf i).toNat)
 case atStart=>exact⟨0,F,Nat.zero_le _,rfl,HP3.out,HII.out,HKK.out,fun _ h=>.inl h,Off.refl _ _⟩
 case round=>
  obtain⟨k,Fk,hk,rfl,HPk,HIk,HKk,HFk,HOk⟩:=hrel;by_cases hlt:k<fl.length
  ·have hlt':(k:Int)<(fl.length:Int):=(by omega);have hk0:(0:Int)≤(k:Int):=(by omega);obtain⟨g,⟨cg,hvg⟩,⟨hgw,hgl⟩,hcell⟩:=HCN.out (fun e=>by rw[e]at hlt;simp at hlt);obtain⟨rfl,rfl⟩:pn=some ⟨g,0,none⟩∧cn=cg:=(by simpa using hvg);have d0:=(World.cell?_of_block (w:=w3) (HOk.out.block g hgl (fun hf=>by have:=HFW.out _ hf;omega)):wr.cell? ⟨g,k,none⟩=_).trans (hcell k hlt);have HSN:=Qa (Qkz st fl k hlt);obtain⟨X,hX⟩:∃X:ByteArray,(⟨(fl[k]'hlt).1.toArray⟩:ByteArray)=X:=⟨_,rfl⟩;have hXd:X.data.toList=(fl[k]'hlt).1:=(by rw[←hX]);rw[hX]at d0;rw[←hXd]at HSN;have hfm:=HFP.out.mem_iff.1 (List.getElem_mem hlt);have hnm12:=Vu (HKK.out.files _ (List.mem_filter.1 hfm).1).2;have hXs:X.size≤50000:=(by have:X.data.toList.length=X.size:=(by rw[Array.length_toList];rfl);rw[hXd]at this;omega);have HDR:=Qa (Qdh a X p Fk (Jf st (fl.take k)) wr hXs (fun b hb=>(HKk.out.bins b hb).mono HUU.out) (fun f hf=>(HKk.out.files f hf).1) HIk.out.has (HEO.out _ ((Off.of_below HB3.out).trans HOk.out (fun _ _ h=>h))) (fun i hi hf=>by
    obtain⟨h1,h2⟩:=HGL.out i hi;rcases HFk.out _ hf with h|h
    ·exact h1 h
    ·have:=HB3.out.size;omega) HPk.out)
   have HIN:=Qa (HIk.out.drop HKk.out X.data.toList);have HKN:=Qa (HKk.out.drop X.data.toList);rw[←HSN.out]at HIN HKN;clear hvg hcell hfm hnm12 hX hXd hXs;go_wp2_with fail;refine HDR.out.mono ?_;intro e w4 hpost;unfold Qdw at hpost;rw[←HSN.out]at hpost;obtain⟨ev,F4,rfl,_,hP4,hF4,ho4⟩:=hpost;have HP4:=Qa hP4;have HF4:Hid (∀j,F4 j→F j∨w3.heap.size≤j):=fun j hj=>by
    rcases hF4 j hj with h|h
    ·exact HFk.out j h
    ·exact .inr (Nat.le_trans HOk.out.size h)
   have HO4:Hid (Off F w3 w4):=HOk.out.trans ho4 (fun i hi hf=>by
    rcases HFk.out i hf with h|h
    ·exact h
    ·omega)
   clear hP4 hF4 ho4 d0;go_wp2_with fail;go_roundw
   case rel=>exact⟨k+1,F4,hlt,by go_num,HP4.out,HIN.out,HKN.out,HF4.out,HO4.out⟩
   case measure=>simp[intOf];omega
  ·have hge:(fl.length:Int)≤(k:Int):=(by omega);have hke:fl.take k=fl:=List.take_of_length_le (by omega);rw[hke]at HPk;clear hke;go_wp2_with fail;go_ret2;refine⟨_,fl,Fk,rfl,HFP.out,HFS.out,?_,HPk.out,fun j hj => ?_,(Off.of_below HB3.out).trans HOk.out (fun _ _ h=>h)⟩
   ·exact ownsRow_base_a (HOk.out.row HROW.out (fun j hj hf=>by have h1:=Kc HROW.out hj;have h2:=HFW.out _ hf;have h3:=HS2.out;omega)) HS2.out
   ·rcases HFk.out j hj with h|h
    ·exact .inl h
    ·exact .inr (Nat.le_trans HB3.out.size h)
theorem Qme (st:NSt)(nm:List UInt8):(Z5 st nm).2.files=st.files.filter (fun f => !decide (f.1=nm)):=by
 unfold Z5;cases hf:nFile st.files nm with
 | none=>
  refine(List.filter_eq_self.2 fun f hm => ?_).symm;have:=Ju hf f hm;simp[this]
 | some s=>
  simp only;split<;>rfl
theorem Qpz (st:NSt)(g:Qz)(r:List Qz):Jf st (g::r)=Jf (Z5 st g.1).2 r:=rfl
theorem Qpj {U:Int}{n:Nat}:∀(fl:List Qz) (st:NSt),Xh st→Xj st→NOk U n st→Xh (Jf st fl)∧Xj (Jf st fl)∧NOk U n (Jf st fl)∧(Jf st fl).files=st.files.filter (fun f => !(fl.any fun g=>decide (f.1=g.1)))
 | [],st,hI,hN,hK=>⟨hI,hN,hK,by show st.files=_;exact(List.filter_eq_self.2 fun f _=>by simp).symm⟩
 | g::r,st,hI,hN,hK=>by obtain⟨h1,h2,h3,h4⟩:=Qpj r (Z5 st g.1).2 (hI.drop hK g.1) (hN.drop hI g.1) (hK.drop g.1);rw[Qpz];refine⟨h1,h2,h3,?_⟩;rw[h4,Qme,List.filter_filter];refine List.filter_congr fun f _ => ?_;rw[List.any_cons,Bool.not_or,Bool.and_comm]
theorem Qe6 {α:Type}(p:α→Bool):∀(l:List α),(l.filter p).length+(l.filter fun x => !p x).length=l.length
 | []=>rfl
 | x::r=>by
  have:=Qe6 p r;cases h:p x with
  | true=>rw[List.filter_cons_of_pos h,List.filter_cons_of_neg (by simp[h]),List.length_cons,List.length_cons];omega
  | false=>rw[List.filter_cons_of_neg (by simp[h]),List.filter_cons_of_pos (by simp[h]),List.length_cons,List.length_cons];omega
theorem Qqc {fs:List Qz}(hp:fs.Pairwise (fun f g=>f.1≠g.1)){f g:Qz}(hf:f∈fs)(hg:g∈fs)(e:f.1=g.1):f=g:=by
 obtain⟨i,hi,rfl⟩:=List.mem_iff_getElem.1 hf;obtain⟨j,hj,rfl⟩:=List.mem_iff_getElem.1 hg;rw[List.pairwise_iff_getElem]at hp;rcases Nat.lt_trichotomy i j with h|h|h
 ·exact absurd e (hp i j hi hj h)
 ·subst h;rfl
 ·exact absurd e.symm (hp j i hj hi h)
theorem Ql5 {α:Type}[DecidableEq α]{x:α}:∀{l:List α},l.Pairwise (fun a b=>a≠b)→x∈l→(l.filter fun y => !decide (y=x)).length+1=l.length
 | a::r,hp,hx=>by
  rw[List.pairwise_cons]at hp;by_cases h:a=x
  ·subst h;rw[List.filter_cons_of_neg (by simp),List.length_cons,List.filter_eq_self.2 (fun y hy=>by have:=hp.1 y hy;simp[Ne.symm this])]
  ·have hm:x∈r:=by
    rcases List.mem_cons.1 hx with e|e
    ·exact absurd e.symm h
    ·exact e
   have:=Ql5 hp.2 hm;rw[List.filter_cons_of_pos (by simp[h]),List.length_cons,List.length_cons];omega
structure Qvy (U:Int)(n:Nat)(st st':NSt)(fl:List Qz):Prop where
 inv:Xh st'
 full:Xj st'
 ok:NOk U n st'
 files:st'.files.length+fl.length=st.files.length
 bins:st'.bins.length+1=st.bins.length
theorem Qtt {U:Int}{n:Nat}{st:NSt}(hI:Xh st)(hN:Xj st)(hK:NOk U n st){x:Nat×Int}{l:List Hd}{fl:List Qz}(hb:(x,l)∈st.bins)(hp:fl.Perm (st.files.filter fun f=>decide (Qg f.2=x))):Qvy U n st (Jf st fl) fl:=by
 obtain⟨h1,h2,h3,h4⟩:=Qpj fl st hI hN hK;have e:(Jf st fl).files=st.files.filter (fun f => !decide (Qg f.2=x)):=by
  rw[h4];refine List.filter_congr fun f hf => ?_;congr 1;by_cases hr:Qg f.2=x
  ·rw[decide_eq_true hr];exact List.any_eq_true.2 ⟨f,hp.mem_iff.2 (List.mem_filter.2 ⟨hf,by simpa using hr⟩),by simp⟩
  ·rw[decide_eq_false hr,List.any_eq_false];intro g hg;simp only[decide_eq_true_eq];intro hfg;obtain⟨hg1,hg2⟩:=List.mem_filter.1 (hp.mem_iff.1 hg);rw[Qqc hI.fap hf hg1 hfg]at hr;exact hr (by simpa using hg2)
 refine⟨h1,h2,h3,?_,?_⟩
 ·rw[e,hp.length_eq,Nat.add_comm];exact Qe6 _ _
 ·have k1:(st.bins.map (·.1)).Pairwise (fun a b=>a≠b):=by rw[List.pairwise_map];exact hI.bap
  have k2:((Jf st fl).bins.map (·.1)).Pairwise (fun a b=>a≠b):=by rw[List.pairwise_map];exact h1.bap
  have k3:((st.bins.map (·.1)).filter fun y => !decide (y=x)).Pairwise (fun a b=>a≠b):=k1.filter _;have hmem:∀y,y∈(Jf st fl).bins.map (·.1)↔y∈(st.bins.map (·.1)).filter fun y => !decide (y=x):=fun y=>by
   constructor
   ·intro hy;obtain⟨b,hb',rfl⟩:=List.mem_map.1 hy;obtain⟨f,hf,hfe⟩:=h2.bhas b hb';rw[e]at hf;obtain⟨hf1,hf2⟩:=List.mem_filter.1 hf;obtain⟨l',hl'⟩:=hI.has f hf1;refine List.mem_filter.2 ⟨List.mem_map.2 ⟨_,hl',hfe⟩,?_⟩;rw[←hfe];exact hf2
   ·intro hy;obtain⟨hy1,hy2⟩:=List.mem_filter.1 hy;obtain⟨b,hb',rfl⟩:=List.mem_map.1 hy1;obtain⟨f,hf,hfe⟩:=hN.bhas b hb';have hf':f∈(Jf st fl).files:=by rw[e];refine List.mem_filter.2 ⟨hf,?_⟩;rw[hfe];exact hy2
    obtain⟨l',hl'⟩:=h1.has f hf';exact List.mem_map.2 ⟨_,hl',hfe⟩
  have hperm:((Jf st fl).bins.map (·.1)).Perm ((st.bins.map (·.1)).filter fun y => !decide (y=x)):=(List.perm_ext_iff_of_nodup k2 k3).2 hmem;have h5:=hperm.length_eq;have h6:=Ql5 k1 (List.mem_map.2 ⟨_,hb,rfl⟩:x∈st.bins.map (·.1));rw[List.length_map]at h5 h6;omega
open Go.RowKit
theorem Qnj (W:World)(e:TypeId)(s:ByteArray)(j:Nat)(h:j<s.size):(Lib.bytesWorld W e s).frozen? ⟨W.heap.size,j,none⟩=false:=by
 unfold World.frozen?;rw[Lib.bytesWorld_at_new];have:s.size≤(Lib.bytesCells W e s).size:=by unfold Lib.bytesCells;simp
 simp;omega
theorem Qle (W:World)(e:TypeId)(s:ByteArray):Below W.heap.size W (Lib.bytesWorld W e s):=
 ⟨rfl,rfl,rfl,by rw[Lib.bytesWorld_size];omega,fun j hj=>Lib.bytesWorld_at_old W e s j hj⟩
theorem Qp2 (W:World)(a:ByteArray)(k:Nat)(hk:k<a.size)(x:UInt8)(c:Nat) :
 (convert 82 9 (.slice (some ⟨W.heap.size,0,none⟩) a.size c)).run Tryz.prog ((Lib.bytesWorld W 5 a).setCell ⟨W.heap.size,k,none⟩ (.int .u8 (x.toNat:Int)))=.ok (.string ⟨(a.data.toList.set k x).toArray⟩) ((Lib.bytesWorld W 5 a).setCell ⟨W.heap.size,k,none⟩ (.int .u8 (x.toNat:Int))):=by
 have hl:(a.data.toList.set k x).length=a.size:=by rw[List.length_set,Qh]
 have:=run_convert_bytes_back (P:=Tryz.prog) ((Lib.bytesWorld W 5 a).setCell ⟨W.heap.size,k,none⟩ (.int .u8 (x.toNat:Int))) 82 9 5 ⟨W.heap.size,0,none⟩ c (a.data.toList.set k x) Tryz.underlying82 Tryz.underlying5 Tryz.underlying9 (fun j hj=>by
  have hp:(⟨W.heap.size,0,none⟩:Addr).add j=⟨W.heap.size,j,none⟩:=by unfold Addr.add;split<;>simp_all
  rw[hp];by_cases hjk:j=k
  ·subst hjk;rw[World.cell?_setCell_same _ _ _ (Lib.bytesWorld_cell W 5 a j hk)];simp
  ·rw[World.cell?_setCell_other _ _ _ _ (fun e=>hjk (by injection e;omega)),Lib.bytesWorld_cell W 5 a j (by omega)];rw[List.getElem_set_ne (by omega)];simp[List.getD,List.getElem?_eq_getElem (show j<a.data.toList.length by rw[Qh];omega)])
 rw[hl]at this;exact this
def PartsAt (a:ByteArray)(at0:Int)(x:UInt8):Prop:=
 at0<0∨(0≤at0∧(a.size:Int)≤at0)∨(∃(k:Nat) (hk:k<a.size),at0=k∧((a[k].toNat:Int)==(x.toNat:Int))=true)∨(∃(k:Nat) (hk:k<a.size),at0=k∧((a[k].toNat:Int)==(x.toNat:Int))=false∧a[k]≠x)
open Go.RowKit Go.Maps Go.Sort Go.Shelf
theorem Jn.off {F:Nat→Prop}{base:Nat}{w w':World}{v:Value}{l:List Hd}(h:Jn base w v l)(ho:Off F w w')(hn:l≠[]→∀k,v.ownBlock=some k→¬F k):Jn base w' v l:=by
 by_cases hl:l=[]
 ·subst hl;obtain⟨⟨p,c,rfl,_⟩,_⟩:=h;exact⟨⟨p,c,rfl,fun i hi=>by simp at hi⟩,fun hne=>absurd rfl hne⟩
 ·obtain⟨g,c,hv,hg,hf⟩:=h.2 hl;have hlt:g<w.heap.size:=by obtain⟨p,c',hv',hc⟩:=h.1;obtain⟨b,o,hp,⟨hb,_⟩,_⟩:=hc 0 (List.length_pos_iff.2 hl);subst hp;have:b=g:=(by rw[hv]at hv';simp at hv';exact hv'.1.1.symm);omega
  have hgn:¬F g:=hn hl g (by rw[hv];rfl);exact⟨h.1.off ho (hn hl),fun _=>⟨g,c,hv,hg,(World.frozen?_of_block (w:=w) (ho.block g hlt hgn)).trans hf⟩⟩
theorem Jn.below {base:Nat}{w w':World}{v:Value}{l:List Hd}(h:Jn base w v l)(hb:Below w.heap.size w w'):Jn base w' v l:=
 h.off (Off.of_below (F:=fun _=>False) hb) (fun _ _ _ h=>h)
theorem Jn.mono {b b':Nat}{w:World}{v:Value}{l:List Hd}(h:Jn b w v l)(hb:b'≤b):Jn b' w v l:=
 ⟨h.1,fun hne=>by obtain⟨g,c,h1,h2,h3⟩:=h.2 hne;exact⟨g,c,h1,Nat.le_trans hb h2,h3⟩⟩
theorem Jn.own {b:Nat}{w:World}{v:Value}{l:List Hd}(h:Jn b w v l)(hne:l≠[]){j:Nat}(hj:v.ownBlock=some j):b≤j∧j<w.heap.size:=by
 obtain⟨g,c,hv,hg,_⟩:=h.2 hne;obtain⟨p,c',hv',hc⟩:=h.1;obtain⟨b',o,hp,⟨hb,_⟩,_⟩:=hc 0 (List.length_pos_iff.2 hne);subst hp;have e1:b'=g:=by rw[hv]at hv';simp at hv';exact hv'.1.1.symm
 have e2:g=j:=by rw[hv]at hj;simpa[Value.ownBlock]using hj
 omega
abbrev BP:=Qr×Value
def ldCells:List BP→List Value
 | []=>[]
 | q::r=>.int .u32 (q.1.1.1:Nat)::.int .i64 q.1.1.2::q.2::ldCells r
theorem Qao:∀(a b:List BP),ldCells (a++b)=ldCells a++ldCells b
 | [],_=>rfl
 | x::r,b=>by rw[List.cons_append,ldCells,Qao r b,ldCells];rfl
theorem Qgk:∀(a:List BP) (i:Nat) (h:i<a.length),(ldCells a)[i*3]? = some (.int .u32 (a[i].1.1.1:Nat))∧(ldCells a)[i*3+1]? = some (.int .i64 a[i].1.1.2)∧(ldCells a)[i*3+2]? = some a[i].2
 | x::r,0,_=>⟨rfl,rfl,rfl⟩
 | x::r,i+1,h=>by have:=Qgk r i (by simpa using h);rw[ldCells,show(i+1)*3=i*3+1+1+1 by omega];simpa using this
abbrev Qwo (v:Value):Value:=.agg #[.int .u32 0,.int .i64 0,v]
theorem Qrw:(Tryz.prog.info? 60).map (fun i=>(i.zero,i.size,i.bytes))=some (some (Qwo (.slice none 0 0)),3,40):=by kernel_rfl
structure Y8 (base:Nat)(W:World)(v:Value)(ps:List BP):Prop where
 row:W.ownsRow base 60 3 v ps.length (ldCells ps)
 helds:∀q∈ps,Jn base W q.2 q.1.2
 off:∀q∈ps,q.1.2≠[]→∀j,q.2.ownBlock=some j→v.ownBlock≠some j
 apart:ps.Pairwise (fun a b=>a.1.2≠[]→b.1.2≠[]→∀j,a.2.ownBlock=some j→b.2.ownBlock≠some j)
theorem Qs2 {b b':Nat}{W:World}{e:TypeId}{size:Nat}{v:Value}{n:Nat}{xs:List Value}(h:W.ownsRow b e size v n xs)(hb:b'≤b):W.ownsRow b' e size v n xs:=by
 obtain⟨h0,h⟩:=h;refine⟨h0,?_⟩;rcases h with h|⟨g,cap,cur,h1,h2,h3⟩
 ·exact .inl h
 ·exact .inr ⟨g,cap,cur,h1,Nat.le_trans hb h2,h3⟩
theorem Y8.mono {b b':Nat}{W:World}{v:Value}{ps:List BP}(h:Y8 b W v ps)(hb:b'≤b):Y8 b' W v ps:=
 ⟨Qs2 h.row hb,fun q hq=>(h.helds q hq).mono hb,h.off,h.apart⟩
theorem Y8.nil (base:Nat)(W:World):Y8 base W (.slice none 0 0) []:=⟨World.ownsRow_nil _ _ _ _,fun q hq=>by simp at hq,fun q hq=>by simp at hq,List.Pairwise.nil⟩
theorem Y8.next {base:Nat}{W W':World}{v:Value}{ps:List BP}(h:Y8 base W v ps)(hb:Below W.heap.size W W'):Y8 base W' v ps:=
 ⟨Qi h.row hb,fun q hq=>(h.helds q hq).below hb,h.off,h.apart⟩
theorem Y8.app {base:Nat}{W W':World}{v v':Value}{ps:List BP}{q:BP}(h:Y8 base W v ps)(hq:Jn base W q.2 q.1.2)(hn:q.1.2≠[]→∀j,q.2.ownBlock=some j→v.ownBlock≠some j∧∀x∈ps,x.1.2≠[]→x.2.ownBlock≠some j)(hg:W.grownBy W' v.ownBlock)(hr:W'.ownsRow base 60 3 v' (ps.length+1) (ldCells (ps++[q])))(hv:v'.ownBlock=v.ownBlock∨v'.ownBlock=some W.heap.size):Y8 base W' v' (ps++[q]):=by
 have ho:=Zd hg;have hall:∀x∈ps++[q],Jn base W x.2 x.1.2∧(x.1.2≠[]→∀j,x.2.ownBlock=some j→v.ownBlock≠some j):=fun x hx=>by
  rcases List.mem_append.1 hx with hx|hx
  ·exact⟨h.helds x hx,h.off x hx⟩
  ·rw[List.mem_singleton.1 hx];exact⟨hq,fun hne j hj=>(hn hne j hj).1⟩
 refine⟨by rw[List.length_append];exact hr,fun x hx=>(hall x hx).1.off ho (fun hne j hj e=>(hall x hx).2 hne j hj e),fun x hx hne j hj e => ?_,?_⟩
 ·rcases hv with hv|hv
  ·exact(hall x hx).2 hne j hj (hv▸e)
  ·have:=((hall x hx).1.own hne hj).2;rw[hv]at e;have:=Option.some.inj e;omega
 ·rw[List.pairwise_append];refine⟨h.apart,List.pairwise_singleton _ _,fun x hx y hy hx1 hy1 j hj e => ?_⟩;rw[List.mem_singleton.1 hy]at hy1 e;exact(hn hy1 j e).2 x hx hx1 hj
theorem Y8.at {base:Nat}{W:World}{v:Value}{ps:List BP}(h:Y8 base W v ps):Y3 W v (ps.map (·.1)):=by
 rcases h.row.2 with⟨rfl,e⟩|⟨g,cap,cur,hv,_,hb,_⟩
 ·have:ps=[]:=List.length_eq_zero_iff.1 e;subst this;exact⟨none,0,rfl,fun i hi=>by simp at hi⟩
 ·refine⟨some ⟨g,0,none⟩,cap,by rw[hv,List.length_map],fun i hi => ?_⟩;have hi':i<ps.length:=by simpa using hi
  obtain⟨a0,a1,a2⟩:=Qgk ps i hi';have c0:=h.row.cells (g:=g) (by rw[hv];rfl) (i*3) _ a0;have c1:=h.row.cells (g:=g) (by rw[hv];rfl) (i*3+1) _ a1;have c2:=h.row.cells (g:=g) (by rw[hv];rfl) (i*3+2) _ a2;simp only[add_plain]at c0 c1 c2;refine⟨g,0,ps[i].2,rfl,?_⟩;simp only[List.getElem_map,Nat.zero_add];exact⟨lt_of_block hb,c0,c1,c2,(h.helds _ (List.getElem_mem hi')).1⟩
theorem Qnu {st:NSt}(hap:st.bins.Pairwise (fun f g=>f.1≠g.1)){RS:List (Nat×Int)}(hp:RS.Perm (st.bins.map (·.1))):(RS.map fun n=>(n,(Zi st.bins n).getD [])).Perm st.bins:=by
 refine(hp.map _).trans ?_;rw[List.map_map];have:st.bins.map ((fun n=>(n,(Zi st.bins n).getD [])) ∘ (·.1))=st.bins:=by
  conv=>rhs;rw[←List.map_id st.bins]
  refine List.map_congr_left fun f hf => ?_;simp only[Function.comp,id];rw[Zz hap (show(f.1,f.2)∈st.bins from hf)];rfl
 rw[this]
theorem Q9.bapart {w:World}{p:Addr}{F:Nat→Prop}{st:NSt}(hP:Q9 w p F st):st.bins.Pairwise (fun f g=>f.1≠g.1):=by
 obtain⟨N,mf,mb,vi,pi,Fi,_,h,_⟩:=hP;have:=h.bins.apart;rw[List.pairwise_map]at this;exact this
theorem Qok (p:Addr)(F:Nat→Prop)(st:NSt)(w:World)(hbk:∀b∈st.bins,Qd 1000000 b.2∧Zv b.1)(hn:st.bins.length≤100)(hP:Q9 w p F st) :
 Calls Tryz.prog 94 #[.pointer (some p)] w fun e w'=>∃(v:Value) (ps:List BP),e=.returned v∧(ps.map (·.1)).Perm st.bins∧(ps.map (·.1)).Pairwise (fun f g=>Qo f.1 g.1=true)∧Y8 w.heap.size w' v ps∧Below w.heap.size w w':=by
 have HAP:=Qa hP.bapart;have HP:=Qa hP;have HBK:=Qa hbk;obtain⟨iR,hiR,zR0,zR1,zR2⟩:=info_parts Qrw;have HNM:=Qa (Uv p F st w (by omega) hP);clear hP hbk;go_enter Tryz.func94,Tryz.ntmps94;go_wp2_with fail;refine HNM.out.mono ?_;rintro e w1 ⟨vn,NS,rfl,hs1,hs2,hids,hb1⟩;have HS1:=Qa hs1;have HS2:=Qa hs2;have HB1:=Qa hb1;have HPE:=Qa (Qnu HAP.out hs1);have hnl:(NS.length:Int)≤100:=by have:=hs1.length_eq;rw[List.length_map]at this;omega
 obtain⟨pn,cn,hvn,hcell⟩:=hids;have HCN:=Qa hcell;subst hvn;clear hs1 hs2 hb1 HNM hcell;go_wp2_with fail
 go_loopw [3,9] (fun v iv wr=>∃(k:Nat) (ps:List BP),k≤NS.length∧iv=.int .i64 k∧Hid (ps.map (·.1)=(NS.take k).map (fun n=>(n,(Zi st.bins n).getD [])))∧Hid (Y8 w1.heap.size wr v ps)∧Hid (Below w1.heap.size w1 wr)) (fun _ iv _=>NS.length - (intOf iv).toNat)
 case atStart=>exact⟨0,[],Nat.zero_le _,rfl,rfl,Y8.nil _ _,Below.refl _ _⟩
 case round=>
  obtain⟨k,ps,hk,rfl,HPS,HFS,HB⟩:=hrel;have HPL:Hid (ps.length=k):=by show _=_;have:=congrArg List.length HPS.out;rw[List.length_map,List.length_map,List.length_take]at this;omega
  by_cases hlt:k<NS.length
  ·have hlt':(k:Int)<(NS.length:Int):=(by omega);have hk0:(0:Int)≤(k:Int):=(by omega);obtain⟨g,og,rfl,hgl,e0,e1⟩:=HCN.out k hlt;have d0:=(HB.out.cell (p:=⟨g,og+k*2,none⟩) (lt_of_cell e0)).trans e0;have d1:=(HB.out.cell (p:=⟨g,og+k*2+1,none⟩) (lt_of_cell e0)).trans e1;have HTK:=Qa (List.take_succ_eq_append_getElem hlt);have hxm:NS[k]∈st.bins.map (·.1):=HS1.out.mem_iff.1 (List.getElem_mem hlt);obtain⟨x,hx⟩:∃x,NS[k]=x:=⟨_,rfl⟩;rw[hx]at d0 d1 HTK hxm;obtain⟨⟨⟨xp,xl⟩,l⟩,hf,rfl⟩:=List.mem_map.1 hxm;simp only at d0 d1 HTK;have hnf:=Zz HAP.out hf;have HNF:=Qa hnf;obtain⟨hok,hwf⟩:=HBK.out _ hf;have HOK:=Qa hok;have HBIN:Hid (∀W',Below w.heap.size w W'→Calls Tryz.prog 19 #[.pointer (some p),idV (xp:Nat) xl] W' fun e w'=>∃p' F',e=.returned (.pointer (some p'))∧Q0 w' p' F' l∧Below W'.heap.size W' w'):=fun W' hb=>by have h:=Gm (xp,xl) p F st W' hwf (HP.out.below hb);rw[hnf]at h;exact h.mono fun e w' ⟨⟨p',F',h1,h2,_⟩,h4⟩=>⟨p',F',h1,h2,h4⟩
   have hal5:=(Below.refl _ wr).alloc wz (.cells #[.int .u32 (xp:Nat),.int .i64 xl] 25);have HR5:=Qa (Blk.new wr #[.int .u32 (xp:Nat),.int .i64 xl] 25);have HFS5:=Qa (HFS.out.next hal5);have HB5:Hid (Below w1.heap.size w1 _):=Qa (HB.out.trans (hal5.mono HB.out.size));have HIBN:Hid (∀j,u3.ownBlock=some j→j≠wr.heap.size):=fun j hj e=>by have:=(HFS.out.row.lt j hj).2;omega
   clear hal5 e0 e1 hx hxm hf hnf hok hwf hgl;have HPLN:Hid (ps.length≤100):=(by show _≤_;rw[HPL.out];omega);go_wp2_with fail;generalize wr.alloc (.cells #[.int .u32 (xp:Nat),.int .i64 xl] 25)=W5 at *;obtain⟨IB,hIB⟩:∃IB,wr.heap.size=IB:=⟨_,rfl⟩;rw[hIB]at HR5 HIBN ⊢;clear hIB;have r0:=HR5.out.cell (i:=0) rfl;have r1:=HR5.out.cell (i:=1) rfl;have HCE:Hid (∀W',Blk W' IB #[.int .u32 (xp:Nat),.int .i64 xl] 25→W'.cell? ⟨IB,0,none⟩=some (.int .u32 (xp:Nat))∧W'.cell? ⟨IB,1,none⟩=some (.int .i64 xl)):=fun W' h=>⟨h.cell (i:=0) rfl,h.cell (i:=1) rfl⟩;have HBW5:Hid (Below w.heap.size w W5):=HB1.out.trans (HB5.out.mono HB1.out.size);obtain⟨pv,cv,hv⟩:∃pv cv,u3=.slice pv ps.length cv:=by
    rcases HFS5.out.row.2 with⟨e,e2⟩|⟨g',cap,cur,e,_⟩
    ·exact⟨none,0,by rw[e,e2]⟩
    ·exact⟨_,_,e⟩
   subst hv;clear HB HFS;go_wp2_with fail
   go_region_held3 (fun w'=>w'.cell? ⟨IB,0,none⟩=some (.int .u32 (xp:Nat))∧w'.cell? ⟨IB,1,none⟩=some (.int .i64 xl)) (first|exact HCE.out _ HR9.out|exact HCE.out _ HR8.out|exact HCE.out _ HR7.out|exact HCE.out _ HR6.out|go_keep) (first
    | (go_at_call 19;refine(HBIN.out _ HBW5.out.drew).mono ?_;rintro e w6 ⟨p6,F6,rfl,hp6,hb6⟩;have hB6:Below W5.heap.size W5 w6:=(Below.refl _ W5).drew.trans hb6;have HB6:=Qa hB6;have HP6:=Qa hp6;have HR6:=Qa (HR5.out.next hB6);clear hb6 hp6 hB6)
    | (go_at_call 36;refine(Qk1 p6 F6 l w6 HOK.out HP6.out).mono ?_;rintro e w7 ⟨v7,rfl,hh7,hb7⟩;have HR7:=Qa (HR6.out.next hb7);have HH7:=Qa hh7;have HB7:=Qa hb7;have HFS7:=Qa ((HFS5.out.next HB6.out).next hb7);obtain⟨pq,cq,hv7⟩:∃pq cq,v7=.slice pq l.length cq:=(by obtain⟨p',c',h1,_⟩:=hh7.1;exact⟨p',c',h1⟩);subst hv7;have HR8:=Qa (HR7.out.next ((Below.refl _ w7).alloc wz (.cells #[.int .u32 (xp:Nat),.int .i64 xl,.slice pq l.length cq] 60)));clear hh7 hb7)
    | (refine step_append_lies _ (by rfl) _ _ _ (by rfl) w1.heap.size 60 iR _ 3 40 Tryz.underlying54 hiR zR0 zR1 zR2 rfl (by decide) (.slice pv ps.length cv) ps.length _ (by rfl) (HFS7.out.row.alloc _) ⟨w7.heap.size,0,none⟩ 1 1 [.int .u32 (xp:Nat),.int .i64 xl,.slice pq l.length cq] (by rfl) (by rfl) (World.news_of_block (cs := #[.int .u32 (xp:Nat),.int .i64 xl,.slice pq l.length cq]) (t:=60) (fr:=(0,0)) (heap_alloc_new w7 _)) (by simp[Value.oneCell']) (by omega) (by unfold maxLen;have:=HPLN.out;omega) (by have:=HPLN.out;omega) (by simp;have:=HB5.out.size;have:=HB6.out.size;have:=HB7.out.size;omega) (w7.heap.size+1) (by simp) ?_;intro gg cap w9 hown9 hgrow hat hglt;have HR9:=Qa (show Blk w9 IB _ _ from (hgrow.block _ HR8.out.lt (fun e=>HIBN.out _ e.symm rfl)).trans HR8.out)))
   have hal8:=(Below.refl _ w7).alloc wz (.cells #[.int .u32 (xp:Nat),.int .i64 xl,.slice pq l.length cq] 60);have hsz:w1.heap.size≤W5.heap.size:=HB5.out.size;have hsz6:W5.heap.size≤w6.heap.size:=HB6.out.size;have HFS9:Hid (Y8 w1.heap.size w9 (.slice (some ⟨gg,0,none⟩) (ps.length+1) cap) (ps++[(((xp,xl),l),.slice pq l.length cq)])):=(HFS7.out.next hal8).app (q:=(((xp,xl),l),.slice pq l.length cq)) ((HH7.out.mono (Nat.le_trans hsz hsz6)).below hal8) (fun hne j hj=>by
    have h6:=(HH7.out.own hne hj).1;refine⟨fun e => ?_,fun x hx hxn e => ?_⟩
    ·have:=(HFS5.out.row.lt j e).2;omega
    ·have:=((HFS5.out.helds x hx).own hxn e).2;omega) hgrow (by rw[Qao];exact hown9) (by
    rcases hat with h|h
    ·exact .inl h.symm
    ·exact .inr (by rw[h];simp[Value.ownBlock]))
   have hB8:Below w1.heap.size w1 _:=((HB5.out.trans (HB6.out.mono hsz)).trans (HB7.out.mono (Nat.le_trans hsz hsz6))).trans (hal8.mono (Nat.le_trans (Nat.le_trans hsz hsz6) HB7.out.size));have HB9:Hid (Below w1.heap.size w1 w9):=hB8.trans ⟨hgrow.os,hgrow.tape,hgrow.output,hgrow.size,fun j hj=>hgrow.block j (Nat.lt_of_lt_of_le hj hB8.size) (fun e=>by have:=Kc HFS5.out.row e.symm;omega)⟩;have HPS9:Hid ((ps++[(((xp,xl),l),Value.slice pq l.length cq)]).map (·.1)=(NS.take (k+1)).map (fun n=>(n,(Zi st.bins n).getD []))):=(by show _=_;rw[List.map_append,HPS.out,HTK.out,List.map_append];congr 1;simp only[List.map_cons,List.map_nil];rw[HNF.out];rfl);clear hown9 hgrow hat hglt hal8 hB8 r0 r1 d0 d1 hsz hsz6;go_wp2_with fail;go_roundw
   case rel=>exact⟨k+1,_,hlt,by go_num,HPS9.out,HFS9.out,HB9.out⟩
   case measure=>simp[intOf];omega
  ·have hge:(NS.length:Int)≤(k:Int):=(by omega);have hke:NS.take k=NS:=List.take_of_length_le (by omega);rw[hke]at HPS;clear hke;go_wp2_with fail;go_ret;refine⟨_,ps,rfl,by rw[HPS.out];exact HPE.out,?_,?_,HB1.out.trans (HB.out.mono HB1.out.size)⟩
   ·rw[HPS.out,List.pairwise_map];exact HS2.out
   ·exact HFS.out.mono HB1.out.size
theorem Qbi {err:Nat→Int}(h:∀k,err k=0):∀(n k:Nat),Zc err k n=none
 | 0,_=>rfl
 | n+1,k=>by rw[Zc,if_neg (by rw[h];simp)];exact Qbi h n (k+1)
theorem Qka {fs:List Rcp}{bs:List Qr}(h:∀b∈bs,X4 (cU (Jp bs) fs) b=0):Zx (Y6 fs bs) bs.length=(0,-1):=by
 unfold Zx;rw[Qbi (fun k => ?_)];unfold Y6;split
 ·exact h _ (List.getElem_mem _)
 ·rfl
theorem Qss {U:Int}{n:Nat}{st:NSt}(hok:NOk U n st)(hU:U≤1000000)(hN:Xj st):∀b∈st.bins,Qd 1000000 b.2∧Zv b.1:=fun b hb=>by
 obtain⟨f,_,e⟩:=hN.bhas b hb;exact⟨(hok.bins b hb).mono hU,by rw[←e];exact Gi f.2⟩
theorem Qbu (a:Nat→Addr)(p:Addr)(F:Nat→Prop)(U:Int)(n:Nat)(st:NSt)(w:World)(hI:Xh st)(hN:Xj st)(hok:NOk U n st)(hU:U≤1000000)(hn:n≤100)(hE:Je [1,2,3,4,6,8,10] w a)(hP:Q9 w p F st) :
 Calls Tryz.prog 30 #[.pointer (some p)] w fun e w'=>e=.returned .nilIface∧Below w.heap.size w w':=by have HEE:Hid (∀W,Below w.heap.size w W→Je [1,2,3,4,6,8,10] W a):=fun W hb=>hE.below hb wz;have HP:=Qa hP;have HF:=Qa (Qkl a p F st w hok.files hN.fmany (hE.sub (by decide)) hP);have HBI:Hid (∀W,Below w.heap.size w W→Calls Tryz.prog 94 #[.pointer (some p)] W fun e w'=>∃(v:Value) (ps:List BP),e=.returned v∧(ps.map (·.1)).Perm st.bins∧(ps.map (·.1)).Pairwise (fun f g=>Qo f.1 g.1=true)∧Y8 W.heap.size w' v ps∧Below W.heap.size W w'):=fun W hb=>Qok p F st W (Qss hok hU hN) (Nat.le_trans hok.many hn) (HP.out.below hb);have HRT:=Qa (fun (fl:List Qz) (bl:List Qr) hf hb hfo hbo=>Qlg hI hN hok hn (fl:=fl) (bl:=bl) hf hb hfo hbo);clear hE hP hI hN hok;go_enter Tryz.func30,Tryz.ntmps30;go_wp2_with fail;refine HF.out.mono ?_;rintro e w1 ⟨v1,fl,rfl,hp1,ho1,hr1,hb1⟩;have HRT1:=Qa (fun (bl:List Qr) hb hbo=>HRT.out fl bl hp1 hb ho1 hbo);obtain⟨FS,hFS⟩:∃FS,fl.map rcpOf=FS:=⟨_,rfl⟩;rw[hFS]at hr1 HRT1;obtain⟨q1,c1,hv1,_⟩:=id hr1;subst hv1;have HB1:=Qa hb1;have HR1:=Qa hr1;clear hp1 ho1 hr1 hb1 HF HRT hFS;go_wp2_with fail;refine(HBI.out w1 HB1.out).mono ?_;rintro e w2 ⟨v2,ps,rfl,hp2,ho2,hs2,hb2⟩;have hl2:=hs2.at;have hrx:=HRT1.out _ hp2 ho2;obtain⟨BS,hBS⟩:∃BS,ps.map (·.1)=BS:=⟨_,rfl⟩;rw[hBS]at hl2 hrx;obtain⟨q2,c2,hv2,_⟩:=id hl2;subst hv2;have HB2:Hid (Below w.heap.size w w2):=HB1.out.trans (hb2.mono HB1.out.size);have HL2:=Qa hl2;have HR2:=Qa (HR1.out.below hb2);have HRX:=Qa hrx;clear hp2 ho2 hs2 hb2 hl2 hrx hBS HBI HRT1 HR1;have HCK:=Qa (qw a _ _ FS BS w2 HRX.out.1 HR2.out HL2.out (HEE.out _ HB2.out));go_wp2_with fail;refine HCK.out.mono ?_;rintro e w3 ⟨ev,rfl,he,hb3⟩;rw[Qka HRX.out.2]at he;obtain rfl:=he.nil;have HB3:Hid (Below w.heap.size w w3):=HB2.out.trans (hb3.mono HB2.out.size);clear he hb3 HCK;go_wp2_with fail;go_ret;exact⟨rfl,HB3.out⟩
theorem Qqg {a b:List Qz}(hp:a.Perm b)(ha:a.Pairwise (fun f g=>f.1<g.1))(hb:b.Pairwise (fun f g=>f.1<g.1)):a=b:=
 List.Perm.eq_of_pairwise (le:=fun f g:Qz=>f.1<g.1) (fun _ _ _ _ h1 h2=>absurd h2 (List.lt_asymm h1)) ha hb hp
theorem Ya.made0 (w:World):Ya (w.alloc (.cells #[.slice none 0 0,.slice none 0 0] 34)) ⟨w.heap.size,0,none⟩ (Vb w.heap.size (.slice none 0 0) (.slice none 0 0) [] []) ⟨[],[]⟩:=
 ⟨w.heap.size,_,_,[],[],rfl,⟨Blk.new w _ _,World.ownsRow_nil _ _ _ _,World.ownsRow_nil _ _ _ _,fun q hq=>by simp at hq,fun x hx=>by simp at hx,by simp[Value.ownBlock],by simp[Value.ownBlock],fun k hk=>by simp[Value.ownBlock]at hk,fun k ⟨x,hx,_⟩=>by simp at hx,List.Pairwise.nil,fun k ⟨q,hq,_⟩=>by simp at hq⟩,rfl,rfl⟩
theorem Qak {M k:Nat}(h:Vb M (.slice none 0 0) (.slice none 0 0) [] [] k):k=M:=by
 rcases h with h|h|h|⟨x,hx,_⟩|⟨q,hq,_⟩
 ·exact h
 ·simp[Value.ownBlock]at h
 ·simp[Value.ownBlock]at h
 ·simp at hx
 ·simp at hq
structure Qpm (a:Nat→Addr)(m:Int)(w:World):Prop where
 err:J6 w a
 pow:Y9 w
 max:w.cell? ⟨14,0,none⟩=some (.int .i64 m)
theorem Qpm.below {a:Nat→Addr}{m:Int}{w w':World}(h:Qpm a m w)(hb:Below w.heap.size w w'):Qpm a m w':=
 ⟨h.err.below hb wz,h.pow.below hb wz,(hb.cell (p:=⟨14,0,none⟩) (lt_of_cell h.max)).trans h.max⟩
theorem Qkb (a:Nat→Addr)(m:Int)(vl:Value)(l:List Qkr)(at0 spot:Int)(x:UInt8)(w:World)(hE:Qpm a m w)(hv:Qa5 w vl l) :
 Calls Tryz.prog 6 #[vl,.int .i64 at0,.int .i64 spot,.int .u8 (x.toNat:Int)] w fun e w'=>e=.returned (.bool true)∧Below w.heap.size w w':=by
 have HEN:=Qa (fun W (hb:Below w.heap.size w W)=>hE.below hb);have HV:=Qa hv;obtain⟨pa,ca,rfl,_⟩:=hv;have HGL:Hid (∀i,([4,10]:List Nat).contains i=true→Xn i<w.heap.size):=fun i hi=>lt_of_cell ((hE.err.on (L:=[4,10]) (by decide)).glob i hi);clear hE;go_enter Tryz.func6,Tryz.ntmps6;go_wp2_with fail;refine(Qqz a m w (HEN.out _ (Below.refl _ _)).err (HEN.out _ (Below.refl _ _)).pow (HEN.out _ (Below.refl _ _)).max).mono ?_;rintro e w1 ⟨rfl,hb1⟩;have HB1:=Qa hb1;clear hb1;go_wp2_with fail;refine(Qhg _ l 40 w1 (by decide) (HV.out.below HB1.out)).mono ?_;rintro e w2 ⟨n,rfl,hw2,hn,h0⟩;subst hw2;rcases hn with rfl|rfl
 rotate_left
 ·go_wp2_with fail;go_ret;exact⟨rfl,HB1.out⟩
 obtain⟨hlen,hfit⟩:=h0 rfl;have HFIT:=Qa hfit;have hlen':(l.length:Int)≤40:=by omega
 clear h0 hfit;go_wp2_with fail;refine(Qcv w2).mono ?_;rintro e w3 ⟨p,F3,rfl,hP3,hF3,hb3⟩;have HB3:=Qa (HB1.out.trans (hb3.mono HB1.out.size));have HP3:=Qa hP3;have HF3:Hid (∀k,F3 k→w.heap.size≤k∧k<w3.heap.size):=fun k hk=>⟨Nat.le_trans HB1.out.size (hF3 k hk),hP3.lt k hk⟩;clear hP3 hF3 hb3;go_wp2_with fail;refine(Qcv w3).mono ?_;rintro e w4 ⟨o,D,rfl,hO4,hD4,hb4⟩;have HB4:=Qa (HB3.out.trans (hb4.mono HB3.out.size));have HO4:=Qa hO4;have HP4:=Qa (HP3.out.below hb4);have HD4:Hid (∀k,D k→w3.heap.size≤k∧k<w4.heap.size):=fun k hk=>⟨hD4 k hk,hO4.lt k hk⟩;have HS34:Hid (w3.heap.size≤w4.heap.size):=hb4.size;clear hO4 hD4 hb4 HP3;go_wp2_with fail;have hal5:=(Below.refl _ w4).alloc wz (.cells #[.slice none 0 0,.slice none 0 0] 34);have HO5:=Qa (HO4.out.below hal5);have HB5:=Qa (HB4.out.trans (hal5.mono HB4.out.size));have HT5:Hid (Vm D (w4.alloc (.cells #[.slice none 0 0,.slice none 0 0] 34)) w (w4.alloc (.cells #[.slice none 0 0,.slice none 0 0] 34)) p F3 ⟨[],[]⟩ w4.heap.size (Vb w4.heap.size (.slice none 0 0) (.slice none 0 0) [] []) ⟨[],[]⟩):=
  ⟨⟨HB5.out,HP4.out.below hal5,Ya.made0 w4,fun k hk=>(HF3.out k hk).1,fun k hk=>by rw[Qak hk];exact HB4.out.size,fun k hk hg=>by have h1:=(HF3.out k hk).2;have h2:=HS34.out;rw[Qak hg]at h1;omega⟩,wz,fun k hk=>by have h1:=HD4.out k hk;refine⟨Nat.lt_of_lt_of_le h1.2 hal5.size,rfl,fun hf=>by have:=(HF3.out k hf).2;omega,fun hg => ?_⟩;have:=Qak hg;omega⟩
 obtain⟨W5,hW5⟩:∃W5,w4.alloc (.cells #[.slice none 0 0,.slice none 0 0] 34)=W5:=⟨_,rfl⟩;rw[hW5]at HT5 HO5 HB5 ⊢;obtain⟨M,hM⟩:∃M,w4.heap.size=M:=⟨_,rfl⟩;rw[hM]at HT5 ⊢;have HDW:Hid (∀k,D k→w.heap.size≤k):=fun k hk=>Nat.le_trans HB3.out.size (HD4.out k hk).1;clear hW5 hM hal5 HO4 HP4;have HENV:Hid (Qvq a w):=⟨fun W hb=>(HEN.out W hb).err,HGL.out⟩
 go_loopw [13] (fun iv wr=>∃(k:Nat) (F G:Nat→Prop) (st sm:NSt),k≤l.length∧iv=.int .i64 k∧Hid (Vm D W5 w wr p F st M G sm)∧Hid (G7 k st sm)) (fun iv _=>l.length - (intOf iv).toNat)
 case atStart=>exact⟨0,_,_,_,_,Nat.zero_le _,rfl,HT5.out,G7.start⟩
 case round=>
  clear HT5;obtain⟨k,F,G,st,sm,hk,rfl,HT,HI⟩:=hrel;by_cases hlt:k<l.length
  ·have hlt':(k:Int)<(l.length:Int):=(by omega);have hk0:(0:Int)≤(k:Int):=(by omega);obtain⟨_,_,hve,hcell⟩:=HV.out.below HT.out.below;obtain⟨rfl,rfl⟩:pa=_∧ca=_:=(by simpa using hve);obtain⟨b,oo,rfl,_,c0,c1,c2⟩:=hcell k hlt;obtain⟨ht1,ht2⟩:=HFIT.out k hlt;obtain⟨⟨y1,y2,y3⟩,hy⟩:∃y,l[k]=y:=⟨_,rfl⟩;rw[hy]at c0 c1 c2 ht1 ht2;simp only at c0 c1 c2 ht1 ht2;have HDO:=Qa (Quw D W5 a w wr p F st M G sm k y1 y2 y3 (by omega) ht1 ht2 HT.out HI.out HENV.out);clear hy hcell hve ht1 ht2;go_wp2_with fail;refine HDO.out.mono ?_;rintro e w5 ⟨rfl,F5,st5,G5,sm5,hT5,hI5⟩;have HT5:=Qa hT5;have HI5:=Qa hI5;clear hT5 hI5 HDO c0 c1 c2;go_wp2_with fail;go_roundw
   case rel=>exact⟨k+1,F5,G5,st5,sm5,hlt,by go_num,HT5.out,HI5.out⟩
   case measure=>simp[intOf];omega
  ·have hge:(l.length:Int)≤(k:Int):=(by omega);have HK40:Hid (k≤40):=(by show _≤_;omega);have HO:=Qa (HT.out.other HB5.out HO5.out);have HP:=Qa HT.out.node;have HBr:=Qa HT.out.below;have HFD:Hid (∀j,F j→w.heap.size≤j∧¬D j):=fun j hj=>⟨HT.out.fnew j hj,fun hd=>(HT.out.kept j hd).2.2.1 hj⟩;have HOK:Hid (NOk 900000 100 st):=HI.out.ok.mono (by have:=HK40.out;omega) (by have:=HK40.out;omega);have HIN:=Qa HI.out.inv;have HFU:=Qa HI.out.full;have hfm:=HFU.out.fmany;have hbm:st.bins.length≤100:=HOK.out.many;clear HT HI HO5 HENV;go_wp2_with fail;refine(Qdd p F st wr (by omega) HP.out).mono ?_;rintro e w6 ⟨v6,rs,rfl,hrs,_,hids,hb6,hown⟩;have HOWN:Hid (∀j,v6.ownBlock=some j→¬D j∧¬F j):=fun j hj=>by
    have h1:=hown j hj;refine⟨fun hd => ?_,fun hf => ?_⟩
    ·have:=HO.out.lt j hd;omega
    ·have:=HP.out.lt j hf;omega
   have HB6:=Qa (HBr.out.trans (hb6.mono HBr.out.size));have HP6:=Qa (HP.out.below hb6);have HO6:=Qa (HO.out.below hb6);have HIDS:=Qa (fun W (hb:Below w6.heap.size w6 W)=>hids.below hb);have HRS:=Qa hrs;have HRL:Hid (rs.length=st.bins.length):=(by show _=_;rw[hrs.length_eq,List.length_map]);obtain⟨pv,cv,rfl,_⟩:=hids;have hrl:(rs.length:Int)≤100:=(by have:=HRL.out;omega);clear hb6 hrs HP HO HBr hown;by_cases hat:at0<0∨(rs.length:Int)≤at0
   ·rcases hat with h|h
    ·go_wp2_with fail;go_ret;exact⟨rfl,HB6.out⟩
    ·by_cases h0:at0<0
     ·go_wp2_with fail;go_ret;exact⟨rfl,HB6.out⟩
     ·go_wp2_with fail;go_ret;exact⟨rfl,HB6.out⟩
   obtain⟨i,rfl⟩:∃i:Nat,at0=(i:Int):=⟨at0.toNat,by omega⟩;have hi:i<rs.length:=(by omega);have hi':(i:Int)<(rs.length:Int):=(by omega);have hi0:¬(i:Int)<0:=(by omega);have hi1:(0:Int)≤(i:Int):=(by omega);have hi2:¬(rs.length:Int)≤(i:Int):=(by omega);clear hat;obtain⟨_,_,hve,hcell⟩:=HIDS.out _ (Below.refl _ _);obtain⟨rfl,rfl⟩:pv=_∧cv=_:=(by simpa using hve);obtain⟨b,oo,rfl,_,d0,d1⟩:=hcell i hi;obtain⟨bn,hbn,hbe⟩:=List.mem_map.1 (HRS.out.mem_iff.1 (List.getElem_mem hi));obtain⟨⟨xp,xl⟩,hl⟩:=bn;simp only at hbe;have HBE:=Qa hbe;rw[←hbe]at d0 d1;simp only at d0 d1;have HBN:=Qa hbn;have HSUB:=Qa (fun fl hp=>Qr8 (fl:=fl) HIN.out HFU.out HOK.out hbn hp);have hapB:st.bins.Pairwise (fun p q=>p.1≠q.1):=HIN.out.bap;have HNB:Hid (Zi st.bins (xp,xl)=some hl):=Zz hapB hbn;have HWX:Hid (Zv (xp,xl)):=(by obtain⟨f,_,e⟩:=HFU.out.bhas _ hbn;have e2:Qg f.2=(xp,xl):=e;show Zv (xp,xl);rw[←e2];exact Gi f.2);clear hve hcell hbe hbn hapB;go_wp2_with fail;refine(Qc2 (U:=900000) (by decide) a p F st xp xl hl w6 HWX.out (fun f hf=>(HOK.out.files f hf).1) (fun f hf=>Qdl f (HOK.out.files f hf).1 (HOK.out.files f hf).2) (by omega) HNB.out (HOK.out.bins _ HBN.out) (HEN.out _ HB6.out).err (HEN.out _ HB6.out).pow HP6.out).mono ?_;rintro e w7 ⟨fl,rfl,hfp,hfo,hb7⟩;have HS:=Qa (HSUB.out fl hfp);have HSR:=Qa (HSUB.out fl.reverse ((List.reverse_perm fl).trans hfp));have HFP:=Qa hfp;have HFO:=Qa hfo;have HB7:=Qa (HB6.out.trans (hb7.mono HB6.out.size));have HP7:=Qa (HP6.out.below hb7);have HO7:=Qa (HO6.out.below hb7);have HB67:=Qa hb7;clear hb7 hfp hfo d0 d1 HP6 HO6 HSUB;obtain⟨L,hL⟩:∃L,Ql (fl.map rcpOf) hl=L:=⟨_,rfl⟩;have HL:=Qa hL;obtain⟨TX,hTX⟩:∃TX:ByteArray,(⟨L.toArray⟩:ByteArray)=TX:=⟨_,rfl⟩;have hTXd:TX.data.toList=L:=(by rw[←hTX]);have hTXs:TX.size=L.length:=(by rw[←hTX];exact parr_size L);have HTX:=Qa hTX;rw[hL,hTX];clear hL hTX;have htb:(TX.size:Int)≤140737488355328∨140737488355328<(TX.size:Int):=(by omega);by_cases hbig:(40000:Int)<(TX.size:Int)
   ·go_wp2_with fail;go_ret;exact⟨rfl,HB7.out⟩
   have hLL:Hid (L.length≤40000):=(by show _≤_;omega);have h8:Hid (8≤L.length):=(by show _≤_;have:=(Jy (fl.map rcpOf) hl).1;rw[HL.out]at this;omega);have h8':(8:Int)≤(TX.size:Int):=(by have:=h8.out;omega);have HTXS:=Qa hTXs;have HTXD:=Qa hTXd;clear htb hTXs hTXd;have hsp:spot<0∨(¬spot<0∧(TX.size:Int) - 8≤spot)∨(∃(k2:Nat) (hk2:k2<TX.size),k2+8<TX.size∧spot=(k2:Int)∧TX[k2]=x)∨(∃(k2:Nat) (hk2:k2<TX.size),k2+8<TX.size∧spot=(k2:Int)∧TX[k2]≠x):=by
    by_cases h1:spot<0
    ·exact .inl h1
    ·by_cases h2:(TX.size:Int) - 8≤spot
     ·exact .inr (.inl ⟨h1,h2⟩)
     ·have hk2:spot.toNat<TX.size:=(by omega);by_cases h3:TX[spot.toNat]=x
      ·exact .inr (.inr (.inl ⟨spot.toNat,hk2,by omega,by omega,h3⟩))
      ·exact .inr (.inr (.inr ⟨spot.toNat,hk2,by omega,by omega,h3⟩))
   rcases hsp with h1|⟨h1,h2⟩|⟨k2,hk2,hk8,rfl,hx⟩|⟨k2,hk2,hk8,rfl,hx⟩
   case' inl=>
    have h1':¬0≤spot:=(by omega);have HB8:=HB7;have HP8:=HP7;have HO8:=HO7;have HB68:=HB67;clear HB7 HP7 HO7 HB67;go_wp2_with fail;generalize w7=w8 at *
   case' inr.inl=>
    have h1':0≤spot:=(by omega);have h2':¬spot<(TX.size:Int) - 8:=(by omega);have HB8:=HB7;have HP8:=HP7;have HO8:=HO7;have HB68:=HB67;clear HB7 HP7 HO7 HB67;go_wp2_with fail;generalize w7=w8 at *
   case' inr.inr.inl=>
    have h1':(0:Int)≤(k2:Int):=(by omega);have h2':(k2:Int)<(TX.size:Int) - 8:=(by omega);have h3':(k2:Int)<(TX.size:Int):=(by omega);have h4':((TX[k2].toNat:Int) != (x.toNat:Int))=false:=(by rw[hx];simp);have HB8:=HB7;have HP8:=HP7;have HO8:=HO7;have HB68:=HB67;clear HB7 HP7 HO7 HB67;go_wp2_with fail;generalize w7=w8 at *
   case' inr.inr.inr=>
    have h1':(0:Int)≤(k2:Int):=(by omega);have h2':(k2:Int)<(TX.size:Int) - 8:=(by omega);have h3':(k2:Int)<(TX.size:Int):=(by omega);have h4':((TX[k2].toNat:Int) != (x.toNat:Int))=true:=(by rw[bne_iff_ne];intro e;exact hx (UInt8.toNat_inj.1 (by omega)));have hcv:=fun W=>Lib.run_convert_string_bytes (P:=Tryz.prog) W 9 82 5 TX Tryz.underlying9 Tryz.underlying82 Tryz.underlying5;have hcc:=fun W=>Lib.bytesWorld_cell W 5 TX k2 hk2;have hcf:=fun W=>Qnj W 5 TX k2 hk2;have hcs:=fun W=>Qp2 W TX k2 hk2 x;go_wp2_with fail;have HBW7:Hid (Below w7.heap.size w7 ((Lib.bytesWorld w7 5 TX).setCell ⟨w7.heap.size,k2,none⟩ (.int .u8 (x.toNat:Int)))):=(Qle w7 5 TX).setCell (p:=⟨w7.heap.size,k2,none⟩) wz _;have HBA:=Qa (HB7.out.trans (HBW7.out.mono HB7.out.size));have hxL:Ye ((⟨(TX.data.toList.set k2 x).toArray⟩:ByteArray).data.toList)≠0:=by
     rw[q8,HTXD.out,←HL.out];have hk3:k2<(loadBody (fl.map rcpOf) hl).length:=by have h1:=(Jy (fl.map rcpOf) hl).1;have h2:=HTXS.out;rw[←HL.out]at h2;omega
     refine Qkf _ _ k2 x hk3 (fun e=>hx ?_);have h3:TX.data.toList[k2]'(by rw[HTXD.out,←HTXS.out];exact hk2)=(loadBody (fl.map rcpOf) hl)[k2]:=by have h4:TX.data.toList=Ql (fl.map rcpOf) hl:=(by rw[HTXD.out,HL.out]);have h5:(Ql (fl.map rcpOf) hl)[k2]? = some ((loadBody (fl.map rcpOf) hl)[k2]):=(by unfold Ql;rw[List.getElem?_append_left hk3,List.getElem?_eq_getElem hk3]);rw[←h4]at h5;rw[List.getElem?_eq_getElem (by rw[HTXD.out,←HTXS.out];exact hk2)]at h5;exact Option.some.inj h5
     rw[e,←h3];rfl
    have HBAD:=Qa (Qoi a o ⟨(TX.data.toList.set k2 x).toArray⟩ m _ (by rw[parr_size,List.length_set,HTXD.out];have:=hLL.out;omega) (HEN.out _ HBA.out).err (HEN.out _ HBA.out).max hxL);obtain⟨cd,hcd⟩:∃c,Ye ((⟨(TX.data.toList.set k2 x).toArray⟩:ByteArray).data.toList) - 1=c:=⟨_,rfl⟩;rw[hcd]at HBAD;clear hxL hcd;go_wp2_with fail;refine HBAD.out.mono ?_;rintro e v8 ⟨rfl,hb8⟩;have HB78:Hid (Below w7.heap.size w7 v8):=HBW7.out.trans (hb8.mono HBW7.out.size);have HO8a:=Qa (HO7.out.below HB78.out);clear hb8 hcv hcc hcf hcs HBAD HBW7 HBA;go_wp2_with fail;refine(Yd o D ⟨[],[]⟩ v8 (by simp) HO8a.out).mono ?_;rintro e w8 ⟨v9,ss,rfl,hss,hrow,hb9⟩;obtain rfl:ss=[]:=List.perm_nil.1 (by simpa using hss);obtain⟨p9,c9,rfl⟩:=Jv hrow;have HB79:Hid (Below w7.heap.size w7 w8):=HB78.out.trans (hb9.mono HB78.out.size);have HB8:=Qa (HB7.out.trans (HB79.out.mono HB7.out.size));have HP8:=Qa (HP7.out.below HB79.out);have HO8:=Qa (HO7.out.below HB79.out);have HB68:=Qa (HB67.out.trans (HB79.out.mono HB67.out.size));clear hb9 hrow hss HB7 HP7 HO7 HB67 HB78 HB79 HO8a;go_wp2_with fail
   all_goals
    have HM:=Qa (Qcz (U:=900000) (by decide) a m fl hl (xp,xl) o D w8 HS.out HFO.out (by rw[HL.out];exact hLL.out) (HEN.out _ HB8.out).err (HEN.out _ HB8.out).max HO8.out);rw[HL.out,HTX.out]at HM;have hfl1:0<fl.length:=List.length_pos_iff.2 HS.out.ne;have hfl30:fl.length≤30:=HS.out.full.fmany;have hfl1':((fl.length:Int)==0)=false:=(by rw[beq_eq_false_iff_ne];omega);have hfl30':(fl.length:Int)≤30:=(by omega);refine HM.out.mono ?_;rintro e w10 ⟨v10,D10,rfl,hrow10,hO10,hD10,ho10⟩;have HO10:=Qa hO10;have HB10:Hid (Below w.heap.size w w10):=HB8.out.trans (ho10.below HB8.out.size (fun j hj hd=>by have:=HDW.out j hd;omega));have HP10:=Qa (HP8.out.off ho10 (fun j hj hd=>(HFD.out j hj).2 hd));have HFD10:Hid (∀j,F j→¬D10 j):=fun j hj hd=>by
     rcases hD10 j hd with h|h
     ·exact(HFD.out j hj).2 h
     ·have:=HP8.out.lt j hj;omega
    have HD10:Hid (∀j,D10 j→w.heap.size≤j):=fun j hj=>by
     rcases hD10 j hj with h|h
     ·exact HDW.out j h
     ·exact Nat.le_trans HB8.out.size h
    have HROW10:=Qa hrow10;have HNF:Hid (∀j,v10.ownBlock=some j→¬F j):=fun j hj hf=>by have h1:=(hrow10.lt j hj).1;have h2:=HP8.out.lt j hf;omega
    have HIDS10:Hid (Q3 w10 (.slice (some ⟨b,oo,none⟩) rs.length cv) rs):=(by exact(HIDS.out _ HB68.out).off ho10 (fun _ j hj=>(HOWN.out j hj).1));obtain⟨p10,c10,rfl⟩:=Jv hrow10;clear hrow10 hO10 hD10 ho10 HM HP8 HO8 HB8 HB68;go_wp2_with fail;refine(Qbu a o D10 900000 1 ⟨fl.reverse,[((xp,xl),hl)]⟩ w10 HSR.out.inv HSR.out.full HSR.out.ok (by decide) (by decide) ((HEN.out _ HB10.out).err.on (by decide)) HO10.out).mono ?_;rintro e w11 ⟨rfl,hb11⟩;have HB11:=Qa (HB10.out.trans (hb11.mono HB10.out.size));have HP11:=Qa (HP10.out.below hb11);have HO11:=Qa (HO10.out.below hb11);have HIDS11:=Qa (HIDS10.out.below hb11);have HROW11:=Qa (Zj.below (Zj.of_row HROW10.out) hb11);have HROR11:=Qa (Qi HROW10.out hb11);clear hb11 HP10 HO10;go_wp2_with fail;have hgot1:=fun f hf=>HIN.out.got (nm:=(f:Qz).1) (s:=f.2) HOK.out hf;have HG1:=Qa hgot1;have hgot2:=fun f hf=>HSR.out.inv.got (nm:=(f:Qz).1) (s:=f.2) HSR.out.ok hf;have HG2:=Qa hgot2;clear hgot1 hgot2
    go_loopw [21] (fun iv wr=>∃j:Nat,j≤fl.length∧iv=.int .i64 j∧Hid (Below w11.heap.size w11 wr)) (fun iv _=>fl.length - (intOf iv).toNat)
    case atStart=>exact⟨0,Nat.zero_le _,rfl,Below.refl _ _⟩
    case round=>
     obtain⟨j,hj,rfl,HBL⟩:=hrel;have HBw:=Qa (HB11.out.trans (HBL.out.mono HB11.out.size));have HPw:=Qa (HP11.out.below HBL.out);have HOw:=Qa (HO11.out.below HBL.out);by_cases hlt:j<fl.length
     ·have hlt':(j:Int)<(fl.length:Int):=(by omega);have hj0:(0:Int)≤(j:Int):=(by omega);obtain⟨_,_,hve,hcell⟩:=HROW11.out.below HBL.out;obtain⟨rfl,rfl⟩:p10=_∧c10=_:=(by simpa using hve);obtain⟨bb,ob,rfl,_,e0⟩:=hcell j (by simpa using hlt);have hm1:fl[j]'hlt∈st.files:=(List.mem_filter.1 (HFP.out.mem_iff.1 (List.getElem_mem hlt))).1;have hm2:fl[j]'hlt∈fl.reverse:=List.mem_reverse.2 (List.getElem_mem hlt);have hfo:=HOK.out.files _ hm1;obtain⟨g1,l1,g2,g3⟩:=HG1.out (fl[j]'hlt) hm1;obtain⟨g4,l2,g5,g6⟩:=HG2.out (fl[j]'hlt) hm2;simp only[List.getElem_map]at e0;obtain⟨⟨nm,sx⟩,hff⟩:∃f,fl[j]'hlt=f:=⟨_,rfl⟩;rw[hff]at e0 hfo g1 g2 g3 g4 g5 g6;simp only at e0 hfo g1 g2 g3 g4 g5 g6;obtain⟨X,hX⟩:∃X:ByteArray,(⟨nm.toArray⟩:ByteArray)=X:=⟨_,rfl⟩;have hXd:X.data.toList=nm:=(by rw[←hX]);have hXs:X.size≤50000:=(by have h1:X.data.toList.length=X.size:=Qh X;have h2:=Vu hfo.2;rw[hXd]at h1;omega);change _=some (Value.string ⟨nm.toArray⟩)at e0;rw[hX]at e0;have HGA:=Qa (fun W (hb:Below w.heap.size w W) (hP:Q9 W p F st)=>Vg a X p F st W sx l1 hXs (by rw[hXd];exact g1) g2 g3 (by rw[hXd];exact hfo.2) hfo.1 ((HEN.out W hb).err.on (by decide)) hP);have HGB:=Qa (fun W (hb:Below w.heap.size w W) (hP:Q9 W o D10 ⟨fl.reverse,[((xp,xl),hl)]⟩)=>Vg a X o D10 ⟨fl.reverse,[((xp,xl),hl)]⟩ W sx l2 hXs (by rw[hXd];exact g4) g5 g6 (by rw[hXd];exact hfo.2) hfo.1 ((HEN.out W hb).err.on (by decide)) hP);obtain⟨SX,hSX⟩:∃SX:ByteArray,(⟨sx.toArray⟩:ByteArray)=SX:=⟨_,rfl⟩;rw[hSX]at HGA HGB;have HEC:Hid (∀W,Below wr.heap.size wr W→W.cell? ⟨bb,ob+j,none⟩=some (.string X)):=fun W hb=>(hb.cell (p:=⟨bb,ob+j,none⟩) (lt_of_cell e0)).trans e0;have heq:(SX.toList==SX.toList)=true:=(by simp);clear hve hcell hm1 hm2 hfo g1 g2 g3 g4 g5 g6 hff hX hXd hXs hSX;go_wp2_with fail;refine(HGA.out wr HBw.out HPw.out).mono ?_;rintro e w12 ⟨rfl,hb12⟩;have HB12:=Qa (HBw.out.trans (hb12.mono HBw.out.size));have HO12:=Qa (HOw.out.below hb12);have HBL12:=Qa (HBL.out.trans (hb12.mono HBL.out.size));have e1:=HEC.out _ hb12;clear hb12 e0;go_wp2_with fail;refine(HGB.out w12 HB12.out HO12.out).mono ?_;rintro e w13 ⟨rfl,hb13⟩;have HBL13:=Qa (HBL12.out.trans (hb13.mono HBL12.out.size));clear hb13 e1;go_wp2_with fail;go_roundw
      case rel=>exact⟨j+1,hlt,by go_num,HBL13.out⟩
      case measure=>simp[intOf];omega
     ·have hge:(fl.length:Int)≤(j:Int):=(by omega);have HAG:=Qa (Qju (U:=900000) (by decide) a m fl hl (xp,xl) o D10 ⟨fl.reverse,[((xp,xl),hl)]⟩ wr HS.out HFO.out (by rw[HL.out];exact hLL.out) (HEN.out _ HBw.out).err (HEN.out _ HBw.out).max (by rw[List.length_reverse];omega) (by simp) ⟨_,List.mem_singleton.2 rfl,rfl⟩ HOw.out);rw[HL.out,HTX.out]at HAG;have HIDSw:=Qa (HIDS11.out.below HBL.out);have HRORw:=Qa (Qi HROR11.out HBL.out);clear HIDS11 HROR11 HROW11 HG1 HG2;go_wp2_with fail;refine HAG.out.mono ?_;rintro e w14 ⟨rfl,hb14⟩;have HB14:=Qa (HBw.out.trans (hb14.mono HBw.out.size));have HP14:=Qa (HPw.out.below hb14);have HIDS14:=Qa (HIDSw.out.below hb14);have HROR14:=Qa (Qi HRORw.out hb14);clear hb14 HAG HBw HPw HOw HIDSw HRORw;go_wp2_with fail;refine(Gg a (sentV a 5) 6 w14 (HEN.out _ HB14.out).err (.inr (.inl ⟨5,by decide,rfl,rfl⟩))).mono ?_;rintro e w15 ⟨rfl,hb15⟩;have HB15:=Qa (HB14.out.trans (hb15.mono HB14.out.size));have HP15:=Qa (HP14.out.below hb15);have HIDS15:=Qa (HIDS14.out.below hb15);have HROR15:=Qa (Qi HROR14.out hb15);clear hb15 HB14 HP14 HIDS14 HROR14;go_wp2_with fail;refine(Yd p F st w15 (by omega) HP15.out).mono ?_;rintro e w16 ⟨v16,ss,rfl,hss,hrow16,hb16⟩;obtain⟨p16,c16,rfl⟩:=Jv hrow16;have hssl:ss.length=st.files.length:=(by rw[hss.length_eq,List.length_map]);rw[hssl];have HB16:=Qa (HB15.out.trans (hb16.mono HB15.out.size));have HP16:=Qa (HP15.out.below hb16);have HIDS16:=Qa (HIDS15.out.below hb16);have HROR16:=Qa (Qi HROR15.out hb16);clear hb16 hrow16 hss hssl HB15 HP15 HIDS15 HROR15;obtain⟨_,_,hve,hcell⟩:=HIDS16.out;obtain⟨bb,ob,hbb,_,d0,d1⟩:=hcell i hi;obtain⟨rfl,rfl⟩:bb=b∧ob=oo:=(by obtain⟨h1,_⟩:some (⟨b,oo,none⟩:Addr)=_∧cv=_:=(by simpa using hve);rw[hbb]at h1;simpa[eq_comm]using h1);rw[←HBE.out]at d0 d1;simp only at d0 d1;have HGF:Hid (∀i,([4,10]:List Nat).contains i=true→¬F (Xn i)):=fun i hi hf=>by have h1:=HGL.out i hi;have h2:=(HFD.out _ hf).1;omega
      clear hve hcell hbb HIDS16;go_wp2_with fail;refine(Qhk a p F st xp xl hl 900000 100 w16 HWX.out HNB.out HIN.out HOK.out (by decide) (by omega) ((HEN.out _ HB16.out).err.on (by decide)) HGF.out HP16.out).mono ?_;rintro e w17 ⟨v17,fl2,F17,rfl,hfp2,hfo2,hrow17,hP17,hF17,ho17⟩;obtain rfl:fl2=fl:=Qqg (hfp2.trans HFP.out.symm) hfo2 HFO.out;have HAW:=Qa (Qtt HIN.out HFU.out HOK.out HBN.out hfp2);have HB17:=Qa (HB16.out.trans (ho17.below HB16.out.size (fun j hj hf=>by have:=(HFD.out j hf).1;omega)));have HP17:=Qa hP17;have HCN:=Qa (Zj.of_row (ho17.row HROR16.out (fun j hj=>HNF.out j hj)));have HCG:=Qa (Zj.of_row hrow17);obtain⟨p17,c17,rfl⟩:=Jv hrow17;clear hfp2 hfo2 hrow17 hP17 hF17 ho17 d0 d1 HROR16 HP16 HB16;have HST:=Qa (Qfv (.slice p17 fl2.length c17) (.slice p10 fl2.length c10) (fl2.map (·.1)) w17 (by rw[List.length_map];omega) (by rw[List.map_map];exact HCG.out) (by rw[List.map_map];exact HCN.out));clear HCN HCG;go_wp2_with fail;refine HST.out.mono ?_;rintro e w18 ⟨rfl,hb18⟩;have HB18:=Qa (HB17.out.trans (hb18.mono HB17.out.size));have HP18:=Qa (HP17.out.below hb18);clear hb18 HST HB17 HP17;have hf18:=HAW.out.files;have hb18:=HAW.out.bins;go_wp2_with fail;refine(Yd p F17 (Jf st fl2) w18 (by omega) HP18.out).mono ?_;rintro e w19 ⟨v19,ss2,rfl,hss2,hrow19,hb19⟩;obtain⟨p19,c19,rfl⟩:=Jv hrow19;have hs2l:ss2.length=(Jf st fl2).files.length:=(by rw[hss2.length_eq,List.length_map]);have HB19:=Qa (HB18.out.trans (hb19.mono HB18.out.size));have HP19:=Qa (HP18.out.below hb19);have hcnt:((ss2.length:Int)==(st.files.length:Int) - (fl2.length:Int))=true:=(by rw[beq_iff_eq];omega);have hsub:(0:Int)≤(st.files.length:Int) - (fl2.length:Int):=(by omega);clear hss2 hrow19 hb19 hs2l HB18 HP18;go_wp2_with fail;refine(Qbu a p F17 900000 100 (Jf st fl2) w19 HAW.out.inv HAW.out.full HAW.out.ok (by decide) (by decide) ((HEN.out _ HB19.out).err.on (by decide)) HP19.out).mono ?_;rintro e w20 ⟨rfl,hb20⟩;have HB20:=Qa (HB19.out.trans (hb20.mono HB19.out.size));have HP20:=Qa (HP19.out.below hb20);clear hb20 HB19 HP19;go_wp2_with fail;refine(Uv p F17 (Jf st fl2) w20 (by omega) HP20.out).mono ?_;rintro e w21 ⟨v21,rs2,rfl,hrs2,_,hids21,hb21⟩;obtain⟨p21,c21,rfl,_⟩:=hids21;have hr2l:rs2.length=(Jf st fl2).bins.length:=(by rw[hrs2.length_eq,List.length_map]);have hrsl:=HRL.out;have hcnt2:((rs2.length:Int)==(rs.length:Int) - 1)=true:=(by rw[beq_iff_eq];omega);have HB21:=Qa (HB20.out.trans (hb21.mono HB20.out.size));clear hrs2 hb21 hr2l hrsl HB20 HP20;go_wp2_with fail;go_ret;exact⟨rfl,HB21.out⟩
end Go.Proofs.YtjngnnbondejaabGreatDoor
