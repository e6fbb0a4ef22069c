/- A part. -/
import Derived.Test.YtjngnnbondejaabGreatDoorM03
import Derived.Shelf.SlMaps.Clone
set_option maxHeartbeats 8000000
set_option maxRecDepth 100000
namespace Go.Proofs.YtjngnnbondejaabGreatDoor
open Go.RowKit
theorem wrap_small (n:Int)(h:0≤n∧n≤100000):wrap64 n=n:=by unfold wrap64;omega
theorem Gb (l:List UInt8)(f k:Nat)(ps:List (List UInt8))(hf:f≤k)(hk:k<l.length)(hp:pieces l=ps++pieces (l.drop f))(hno:∀j,0<j→j≤k - f→Zp (l.drop f) j=false)
 (hy:Zp (l.drop f) (k+1 - f)=true∨k+1=l.length):pieces l=(ps++[(l.drop f).take (k+1 - f)])++pieces (l.drop (k+1)):=by
 have hne:l.drop f≠[]:=fun e=>by have:=congrArg List.length e;rw[List.length_drop,List.length_nil]at this;omega
 have h1:first (l.drop f)=k+1 - f:=by
  apply Yv.eq;refine⟨by omega,by rw[List.length_drop];omega,fun j h1 h2=>hno j h1 (by omega),?_⟩;rcases hy with y|y
  ·exact .inl y
  ·right;rw[List.length_drop];omega
 rw[hp,Ka _ hne,h1,List.drop_drop,show f+(k+1 - f)=k+1 by omega];simp
theorem Qop {l:List UInt8}{f k:Nat}(hf:f≤k)(hno:∀j,0<j→j≤k - f→Zp (l.drop f) j=false)(h:Zp (l.drop f) (k+1 - f)=false):∀j,0<j→j≤k+1 - f→Zp (l.drop f) j=false:=fun j h1 h2=>by
 by_cases e:j=k+1 - f
 ·rw[e];exact h
 ·exact hno j h1 (by omega)
theorem Qjx (l:List UInt8)(j:Nat)(h:j≤8):V7 (l.take j)≤2040:=by
 have:∀xs:List UInt8,V7 xs≤xs.length*255:=by
  intro xs
  induction xs with
  | nil=>simp[V7]
  | cons x r ih=>
   have hx:x.toNat<256:=x.toNat_lt;simp only[V7,List.map_cons,List.sum_cons,List.length_cons]at ih ⊢;omega
 exact Nat.le_trans (this (l.take j)) (Nat.mul_le_mul_right 255 (m:=8) (by rw[List.length_take];omega))
theorem Qs5 (l:List UInt8)(f k:Nat)(hf:f≤k)(h:16≤k+1 - f):win (l.drop f) (k+1 - f)=(l.drop (k - 7)).take 8:=by
 rw[Qr1 _ _ (by omega),List.drop_drop];congr 2;omega
theorem Qcy (s:ByteArray)(hs:s.size≤50000)(w:World) :
 Calls Tryz.prog 155 #[.string s] w fun e w'=>∃v,e=.returned v∧w'.ownsRow w.heap.size 9 1 v (pieces s.data.toList).length ((pieces s.data.toList).map Vz)∧Below w.heap.size w w':=by
 obtain⟨i0,hi,hz0,hz1,hz2⟩:=info_parts Qge;have HSL:Hid (s.data.toList.length=s.size):=by show _=_;rw[Array.length_toList];rfl
 go_enter Tryz.func155,Tryz.ntmps155
 go_wp2
 go_loopw [3,4,5] (fun v q i wr=>∃(k f:Nat) (ps:List (List UInt8)),k≤s.size∧f≤k∧(k=s.size→f=k)∧i=.int .i64 k∧q=.int .i64 f∧pieces s.data.toList=ps++pieces (s.data.toList.drop f)∧(∀j,0<j→j≤k - f→Zp (s.data.toList.drop f) j=false)∧ps.length≤k∧wr.ownsRow w.heap.size 9 1 v ps.length (ps.map Vz)∧Below w.heap.size w wr) (fun _ _ i _=>s.size - (intOf i).toNat)
 case atStart=>exact⟨0,0,[],Nat.zero_le _,wz,fun _=>rfl,rfl,rfl,by simp,fun j h1 h2=>by omega,wz,World.ownsRow_nil _ _ _ _,Below.refl _ _⟩
 case round=>
  obtain⟨k,f,ps,hk,hf,hkf,rfl,rfl,hcut,hno,hlen,hown,hbw⟩:=hrel;have HC:Hid (pieces s.data.toList=ps++pieces (s.data.toList.drop f)):=hcut;have HN:Hid (∀j,0<j→j≤k - f→Zp (s.data.toList.drop f) j=false):=hno;have HKF:Hid (k=s.size→f=k):=hkf;clear hcut hno hkf;by_cases hlt:k<s.size
  ·have hsf:(f:Int)≤(k:Int)+1:=(by omega);have hsk:(k:Int)+1≤(s.size:Int):=(by omega);by_cases h16:k+1 - f<16
   ·have HLOW:Hid (Zp (s.data.toList.drop f) (k+1 - f)=false):=Qe5 _ _ h16;have hq64:((k:Int)+1 - (f:Int)==64)=false:=(by simp;omega);have hq16:(k:Int)+1 - (f:Int)<16:=(by omega);go_wp2_with fail
    go_loopw [7,8] (fun t q wi=>t=.int .i64 0∧q=.int .i64 ((k:Int) - 8+1)∧wi=wr) (fun _ _ _=>0)
    case atStart=>exact⟨rfl,rfl,rfl⟩
    case round=>
     obtain⟨rfl,rfl,rfl⟩:=hrel;by_cases hl:k+1=s.size
     ·have hql:((k:Int)==(s.size:Int) - 1)=true:=(by simp;omega);have HL:Hid (k+1=s.size):=hl;clear hl;go_wp2_with (at_builtin;refine wpList_append_own _ rfl (.tmp 55) (.tmp 61) 73 rfl w.heap.size 9 i0 (.string ⟨#[]⟩) 1 16 Tryz.underlying73 hi hz0 hz1 hz2 rfl (by decide) _ _ _ rfl (hown.alloc _) ⟨wr.heap.size,0,none⟩ 1 1 [.string (s.extract f (k+1))] rfl rfl (cell_one_new _ _ _) (by simp[Value.oneCell']) (by unfold maxLen;omega) (by omega) (by have:=hbw.size;simp;omega) ?_;intro v' w1 hown' hgrow _;obtain⟨g',cap',rfl⟩:=ownsRow_succ hown');have hbw':Below w.heap.size w w1:=(hbw.alloc hbw.size _).grown hgrow (by have:=hbw.size;simp;omega) (fun j e=>Xf hown e);clear hgrow hown;rw[X5]at hown';go_wp2_with fail;go_roundw
      case rel=>exact⟨k+1,k+1,ps++[(s.data.toList.drop f).take (k+1 - f)],by omega,wz,fun _=>rfl,by go_num,by go_num,Gb _ _ _ _ hf (by rw[HSL.out];omega) HC.out HN.out (.inr (by rw[HSL.out];exact HL.out)),fun j h1 h2=>by omega,by simp;omega,by simpa using hown',hbw'⟩
      case measure=>simp[intOf];omega
     ·have hql:((k:Int)==(s.size:Int) - 1)=false:=(by simp;omega);go_wp2_with fail;go_roundw
      case rel=>exact⟨k+1,f,ps,by omega,by omega,fun e=>by omega,by go_num,rfl,HC.out,Qop hf HN.out (HLOW.out),by omega,hown,hbw⟩
      case measure=>simp[intOf];omega
   ·have hq16:16≤(k:Int)+1 - (f:Int):=(by omega);go_wp2_with fail
    go_loopw [7,8] (fun t q wi=>∃j:Nat,j≤8∧t=.int .i64 (V7 ((s.data.toList.drop (k - 7)).take j):Nat)∧q=.int .i64 ((k:Int) - 8+1+(j:Int))∧wi=wr) (fun _ q _=>8 - (intOf q - ((k:Int) - 8+1)).toNat)
    case atStart=>exact⟨0,by omega,rfl,by simp,rfl⟩
    case round=>
     obtain⟨j,hj,rfl,rfl,rfl⟩:=hrel;by_cases hj8:j<8
     ·have hxj:k - 8+1+j<s.size:=(by omega);have HX:Hid (V7 ((s.data.toList.drop (k - 7)).take (j+1))=V7 ((s.data.toList.drop (k - 7)).take j)+s[k - 8+1+j].toNat):=(by show _=_;have hlj:j<(s.data.toList.drop (k - 7)).length:=(by rw[List.length_drop,HSL.out];omega);rw[Qij _ _ hlj,List.getElem_drop];have e:k - 7+j=k - 8+1+j:=(by omega);simp only[e,Array.getElem_toList];rfl);have HB:Hid (V7 ((s.data.toList.drop (k - 7)).take j)≤2040):=Qjx _ _ hj;obtain⟨S,hS⟩:∃S,V7 ((s.data.toList.drop (k - 7)).take j)=S:=⟨_,rfl⟩;rw[hS]at HX HB ⊢;have HSS:Hid (V7 ((s.data.toList.drop (k - 7)).take j)=S):=hS;clear hS;go_wp2_with fail;go_roundw
      case rel=>
       have hb:=HB.out;have hu:s[k - 8+1+j].toNat<256:=s[k - 8+1+j].toNat_lt;refine⟨j+1,by omega,?_,by simp;omega,trivial⟩;rw[HX.out,wrap_small (s[k - 8+1+j].toNat:Int) ⟨by omega,by omega⟩,wrap_small _ ⟨by omega,by omega⟩];congr 1
      case measure=>simp[intOf];omega
     ·obtain rfl:j=8:=(by omega);have HW:Hid (V7 (win (s.data.toList.drop f) (k+1 - f))=V7 ((s.data.toList.drop (k - 7)).take 8)):=(by show _=_;rw[Qs5 _ _ _ hf (by omega)]);obtain⟨S,hS⟩:∃S,V7 ((s.data.toList.drop (k - 7)).take 8)=S:=⟨_,rfl⟩;rw[hS]at HW ⊢;clear hS;by_cases h64:k+1 - f=64
      ·have hq64:((k:Int)+1 - (f:Int)==64)=true:=(by simp;omega);have HY:Hid (Zp (s.data.toList.drop f) (k+1 - f)=true):=(by show _=_;rw[h64];exact Qid _);clear h64;go_wp2_with (at_builtin;refine wpList_append_own _ rfl (.tmp 55) (.tmp 61) 73 rfl w.heap.size 9 i0 (.string ⟨#[]⟩) 1 16 Tryz.underlying73 hi hz0 hz1 hz2 rfl (by decide) _ _ _ rfl (hown.alloc _) ⟨wr.heap.size,0,none⟩ 1 1 [.string (s.extract f (k+1))] rfl rfl (cell_one_new _ _ _) (by simp[Value.oneCell']) (by unfold maxLen;omega) (by omega) (by have:=hbw.size;simp;omega) ?_;intro v' w1 hown' hgrow _;obtain⟨g',cap',rfl⟩:=ownsRow_succ hown');have hbw':Below w.heap.size w w1:=(hbw.alloc hbw.size _).grown hgrow (by have:=hbw.size;simp;omega) (fun j e=>Xf hown e);clear hgrow hown;rw[X5]at hown';go_wp2_with fail;go_roundw
       case rel=>exact⟨k+1,k+1,ps++[(s.data.toList.drop f).take (k+1 - f)],by omega,wz,fun _=>rfl,by go_num,by go_num,Gb _ _ _ _ hf (by rw[HSL.out];omega) HC.out HN.out (.inl HY.out),fun j h1 h2=>by omega,by simp;omega,by simpa using hown',hbw'⟩
       case measure=>simp[intOf];omega
      ·have hq64:((k:Int)+1 - (f:Int)==64)=false:=(by simp;omega);have HE:Hid (Zp (s.data.toList.drop f) (k+1 - f)=(S % 16==15)):=(by show _=_;rw[Qcb _ _ (by omega) h64,HW.out]);by_cases h15:S % 16=15
       ·have hq15:((S:Int).tmod 16==15)=true:=(by rw[Int.tmod_eq_emod_of_nonneg (by omega)];simp;omega);have HY:Hid (Zp (s.data.toList.drop f) (k+1 - f)=true):=(by show _=_;rw[HE.out,h15];rfl);go_wp2_with (at_builtin;refine wpList_append_own _ rfl (.tmp 55) (.tmp 61) 73 rfl w.heap.size 9 i0 (.string ⟨#[]⟩) 1 16 Tryz.underlying73 hi hz0 hz1 hz2 rfl (by decide) _ _ _ rfl (hown.alloc _) ⟨wr.heap.size,0,none⟩ 1 1 [.string (s.extract f (k+1))] rfl rfl (cell_one_new _ _ _) (by simp[Value.oneCell']) (by unfold maxLen;omega) (by omega) (by have:=hbw.size;simp;omega) ?_;intro v' w1 hown' hgrow _;obtain⟨g',cap',rfl⟩:=ownsRow_succ hown');have hbw':Below w.heap.size w w1:=(hbw.alloc hbw.size _).grown hgrow (by have:=hbw.size;simp;omega) (fun j e=>Xf hown e);clear hgrow hown;rw[X5]at hown';go_wp2_with fail;go_roundw
        case rel=>exact⟨k+1,k+1,ps++[(s.data.toList.drop f).take (k+1 - f)],by omega,wz,fun _=>rfl,by go_num,by go_num,Gb _ _ _ _ hf (by rw[HSL.out];omega) HC.out HN.out (.inl HY.out),fun j h1 h2=>by omega,by simp;omega,by simpa using hown',hbw'⟩
        case measure=>simp[intOf];omega
       ·have hq15:((S:Int).tmod 16==15)=false:=(by rw[Int.tmod_eq_emod_of_nonneg (by omega)];simp;omega);have HY:Hid (Zp (s.data.toList.drop f) (k+1 - f)=false):=(by show _=_;rw[HE.out];simp[h15]);by_cases hl:k+1=s.size
        ·have hql:((k:Int)==(s.size:Int) - 1)=true:=(by simp;omega);have HL:Hid (k+1=s.size):=hl;clear hl;go_wp2_with (at_builtin;refine wpList_append_own _ rfl (.tmp 55) (.tmp 61) 73 rfl w.heap.size 9 i0 (.string ⟨#[]⟩) 1 16 Tryz.underlying73 hi hz0 hz1 hz2 rfl (by decide) _ _ _ rfl (hown.alloc _) ⟨wr.heap.size,0,none⟩ 1 1 [.string (s.extract f (k+1))] rfl rfl (cell_one_new _ _ _) (by simp[Value.oneCell']) (by unfold maxLen;omega) (by omega) (by have:=hbw.size;simp;omega) ?_;intro v' w1 hown' hgrow _;obtain⟨g',cap',rfl⟩:=ownsRow_succ hown');have hbw':Below w.heap.size w w1:=(hbw.alloc hbw.size _).grown hgrow (by have:=hbw.size;simp;omega) (fun j e=>Xf hown e);clear hgrow hown;rw[X5]at hown';go_wp2_with fail;go_roundw
         case rel=>exact⟨k+1,k+1,ps++[(s.data.toList.drop f).take (k+1 - f)],by omega,wz,fun _=>rfl,by go_num,by go_num,Gb _ _ _ _ hf (by rw[HSL.out];omega) HC.out HN.out (.inr (by rw[HSL.out];exact HL.out)),fun j h1 h2=>by omega,by simp;omega,by simpa using hown',hbw'⟩
         case measure=>simp[intOf];omega
        ·have hql:((k:Int)==(s.size:Int) - 1)=false:=(by simp;omega);go_wp2_with fail;go_roundw
         case rel=>exact⟨k+1,f,ps,by omega,by omega,fun e=>by omega,by go_num,rfl,HC.out,Qop hf HN.out (HY.out),by omega,hown,hbw⟩
         case measure=>simp[intOf];omega
  ·go_wp2_with fail;go_ret;refine⟨_,rfl,?_,hbw⟩;have e1:k=s.size:=(by omega);have e2:=HKF.out e1;have e3:=HC.out;rw[List.drop_eq_nil_of_le (by rw[HSL.out];omega),pieces_nil,List.append_nil]at e3;rw[e3];exact hown
def idsOf (l:List UInt8):List (Nat×Int):=(pieces l).map fun p=>(pmore 2166136261 p,(p.length:Int))
def idCells:List (Nat×Int)→List Value
 | []=>[]
 | x::r=>.int .u32 (x.1:Nat)::.int .i64 x.2::idCells r
theorem Xy:∀(a b:List (Nat×Int)),idCells (a++b)=idCells a++idCells b
 | [],_=>rfl
 | x::r,b=>by rw[List.cons_append,idCells,Xy r b,idCells];rfl
theorem Vv:∀(a:List (Nat×Int)),(idCells a).length=a.length*2
 | []=>rfl
 | x::r=>by rw[idCells,List.length_cons,List.length_cons,Vv r,List.length_cons];omega
theorem Vw:∀(a:List (Nat×Int)) (i:Nat) (h:i<a.length),(idCells a)[i*2]? = some (.int .u32 (a[i].1:Nat))∧(idCells a)[i*2+1]? = some (.int .i64 a[i].2)
 | x::r,0,_=>⟨rfl,rfl⟩
 | x::r,i+1,h=>by have:=Vw r i (by simpa using h);rw[show(i+1)*2=i*2+1+1 by omega];exact this
def Zb (base:Nat)(w:World)(v:Value)(ids:List (Nat×Int)):Prop:=
 ∃(p:Option Addr) (c:Nat),v=.slice p ids.length c∧∀i (h:i<ids.length),∃b o,p=some ⟨b,o,none⟩∧base≤b∧b<w.heap.size∧w.cell? ⟨b,o+i*2,none⟩=some (.int .u32 (ids[i].1:Nat))∧w.cell? ⟨b,o+i*2+1,none⟩=some (.int .i64 ids[i].2)
theorem Zb.at {base:Nat}{w:World}{v:Value}{ids:List (Nat×Int)}(h:Zb base w v ids):Q3 w v ids:=by
 obtain⟨p,c,hv,h⟩:=h;refine⟨p,c,hv,fun i hi => ?_⟩;obtain⟨b,o,hp,_,hlt,h1,h2⟩:=h i hi;exact⟨b,o,hp,hlt,h1,h2⟩
theorem Zb.low {base base':Nat}{w:World}{v:Value}{ids:List (Nat×Int)}(h:Zb base w v ids)(hb:base'≤base):Zb base' w v ids:=by
 obtain⟨p,c,hv,h⟩:=h;refine⟨p,c,hv,fun i hi => ?_⟩;obtain⟨b,o,hp,hl,h⟩:=h i hi;exact⟨b,o,hp,Nat.le_trans hb hl,h⟩
theorem Zb.below {base:Nat}{w w':World}{v:Value}{ids:List (Nat×Int)}(h:Zb base w v ids)(hb:Below w.heap.size w w'):Zb base w' v ids:=by
 obtain⟨p,c,hv,h⟩:=h;refine⟨p,c,hv,fun i hi => ?_⟩;obtain⟨b,o,hp,hl,hlt,h1,h2⟩:=h i hi;exact⟨b,o,hp,hl,Nat.lt_of_lt_of_le hlt hb.size,(hb.cell (p:=⟨b,o+i*2,none⟩) hlt).trans h1,(hb.cell (p:=⟨b,o+i*2+1,none⟩) hlt).trans h2⟩
theorem Zb.setCell {base:Nat}{w:World}{v:Value}{ids:List (Nat×Int)}(h:Zb base w v ids){a:Addr}(ha:a.block<base)(u:Value):Zb base (w.setCell a u) v ids:=by
 obtain⟨p,c,hv,h⟩:=h;refine⟨p,c,hv,fun i hi => ?_⟩;obtain⟨b,o,hp,hl,hlt,h1,h2⟩:=h i hi;have hn:∀j,a≠⟨b,j,none⟩:=fun j e=>by rw[e]at ha;simp at ha;omega
 exact⟨b,o,hp,hl,by simp[World.setCell];exact hlt,by rw[World.cell?_setCell_other _ _ _ _ (hn _)];exact h1,by rw[World.cell?_setCell_other _ _ _ _ (hn _)];exact h2⟩
theorem Zb.nil (base:Nat)(w:World):Zb base w (.slice none 0 0) []:=⟨none,0,rfl,fun i hi=>by simp at hi⟩
theorem Zb.of_row {w:World}{base:Nat}{e:TypeId}{v:Value}{ids:List (Nat×Int)}(h:w.ownsRow base e 2 v ids.length (idCells ids)):Zb base w v ids:=by
 obtain⟨hl,h⟩:=h;rcases h with⟨rfl,h0⟩|⟨g,cap,cur,rfl,hg,hb,h1,h2,h3,h4⟩
 ·exact⟨none,0,by rw[h0],fun i hi=>by omega⟩
 ·have hgl:g<w.heap.size:=by
   rcases Nat.lt_or_ge g w.heap.size with h'|h'
   ·exact h'
   ·simp[Array.getElem?_eq_none h']at hb
  have hc:∀j u,(idCells ids)[j]? = some u→w.cell? ⟨g,0+j,none⟩=some u:=fun j u hj=>by have hjl:j<(idCells ids).length:=(List.getElem?_eq_some_iff.1 hj).1;have e1:cur.toList[j]? = some u:=(by rw[←hj,←h4,List.getElem?_take,if_pos (by omega)]);rw[Nat.zero_add];simp only[World.cell?,hb];rw[←Array.getElem?_toList,e1];simp
  exact⟨some ⟨g,0,none⟩,cap,rfl,fun i hi=>⟨g,0,rfl,hg,hgl,hc _ _ (Vw ids i hi).1,hc _ _ (Vw ids i hi).2⟩⟩
theorem Q3.of_row {w:World}{base:Nat}{e:TypeId}{v:Value}{ids:List (Nat×Int)}(h:w.ownsRow base e 2 v ids.length (idCells ids)):Q3 w v ids:=(Zb.of_row h).at
theorem Q3.nil (w:World):Q3 w (.slice none 0 0) []:=⟨none,0,rfl,fun i hi=>by simp at hi⟩
theorem Qi0 (W:World)(a b:Value)(t:TypeId)(B:Nat)(hB:B=W.heap.size):∀j u,[a,b][j]? = some u→(W.alloc (.cells #[a,b] t)).cell? ((⟨B,0,none⟩:Addr).add j)=some u:=by
 intro j u hj
 match j,hj with
 | 0,hj=>
  have:(⟨B,0,none⟩:Addr).add 0=⟨B,0,none⟩:=rfl;rw[this];exact Zh W #[a,b] t (by simpa using hj) hB
 | 1,hj=>
  have:(⟨B,0,none⟩:Addr).add 1=⟨B,1,none⟩:=rfl;rw[this];exact Zh W #[a,b] t (by simpa using hj) hB
 | j+2,hj=>simp at hj
theorem Qj5:(Tryz.prog.info? 25).map (fun i=>(i.zero,i.size,i.bytes))=some (some (idV 0 0),2,16):=by kernel_rfl
theorem Qh3 (nm s:ByteArray)(hnm:nm.size≤maxLen)(h:Qj nm.data.toList=false)(w:World) :
 Calls Tryz.prog 153 #[.string nm,.string s] w fun e w'=>e=.returned (.tuple #[rcpV ⟨#[]⟩ 0 0 (.slice none 0 0),.int .i64 4])∧Below w.heap.size w w':=by have HN:Hid (nm.size≤maxLen):=hnm;clear hnm;go_enter Tryz.func153,Tryz.ntmps153;go_wp2_with fail;refine(Gx nm HN.out _).mono ?_;rintro e w1 ⟨rfl,rfl⟩;rw[h];go_wp2_with fail;exact bodyPost_ret (v:=.tuple #[rcpV ⟨#[]⟩ 0 0 (.slice none 0 0),.int .i64 4]) (by simp[results,Tryz.results153,go_sem]) rfl ⟨rfl,(Below.refl _ w).alloc wz _⟩
theorem Qgl (nm s:ByteArray)(hnm:nm.size≤maxLen)(h:Qj nm.data.toList=true)(hs:4000<s.size)(w:World) :
 Calls Tryz.prog 153 #[.string nm,.string s] w fun e w'=>e=.returned (.tuple #[rcpV ⟨#[]⟩ 0 0 (.slice none 0 0),.int .i64 2])∧Below w.heap.size w w':=by
 have HN:Hid (nm.size≤maxLen):=hnm;have hs':(4000:Int)<(s.size:Int):=by omega
 clear hnm hs;go_enter Tryz.func153,Tryz.ntmps153;go_wp2_with fail;refine(Gx nm HN.out _).mono ?_;rintro e w1 ⟨rfl,rfl⟩;rw[h];go_wp2_with fail;exact bodyPost_ret (v:=.tuple #[rcpV ⟨#[]⟩ 0 0 (.slice none 0 0),.int .i64 2]) (by simp[results,Tryz.results153,go_sem]) rfl ⟨rfl,(Below.refl _ w).alloc wz _⟩
theorem Qha (nm s:ByteArray)(hnm:nm.size≤maxLen)(h:Qj nm.data.toList=true)(hs:s.size≤4000)(w:World) :
 Calls Tryz.prog 153 #[.string nm,.string s] w fun e w'=>∃v,e=.returned (.tuple #[rcpV nm s.size (pmore 2166136261 s.data.toList:Nat) v,.int .i64 0])∧Zb w.heap.size w' v (idsOf s.data.toList)∧Below w.heap.size w w':=by
 obtain⟨i0,hi,hz0,hz1,hz2⟩:=info_parts Qj5;have HN:Hid (nm.size≤maxLen):=hnm;have hs':¬(4000:Int)<(s.size:Int):=by omega
 have HS:Hid (s.size≤4000):=hs;have HSM:Hid (s.size≤maxLen):=by show _≤_;unfold maxLen;omega
 have HPL:Hid ((pieces s.data.toList).length≤4000):=Nat.le_trans (Qy _) (by rw[Array.length_toList];exact hs);have HPS:Hid (∀i (h:i<(pieces s.data.toList).length),((pieces s.data.toList)[i]).length≤64):=fun i h=>(Vr _ i h).2.1;clear hnm hs;have hP:=Qcy s (by have:=HS.out;omega);have HIO:Hid (idsOf s.data.toList=(pieces s.data.toList).map fun p=>(pmore 2166136261 p,(p.length:Int))):=rfl;rw[HIO.out];clear HIO;generalize pieces s.data.toList=qs at *;have HP:Hid (∀(w:World),Calls Tryz.prog 155 #[.string s] w fun e w'=>∃v,e=.returned v∧w'.ownsRow w.heap.size 9 1 v qs.length (qs.map Vz)∧Below w.heap.size w w'):=hP;clear hP;go_enter Tryz.func153,Tryz.ntmps153;go_wp2_with fail;refine(Gx nm HN.out _).mono ?_;rintro e w1 ⟨rfl,rfl⟩;rw[h];clear h;go_wp2_with fail;refine(HP.out _).mono ?_;clear HP;rintro e w0 ⟨v0,rfl,ho0,hb0⟩;obtain⟨p0,c0,rfl,hcell⟩:=Zj.of_row ho0;simp only[List.length_map,List.getElem_map]at hcell ⊢;have hs0:=hb0.size;have r0:w0.cell? ⟨w.heap.size,0,none⟩=some (.string ⟨#[]⟩):=(hb0.cell (p:=⟨w.heap.size,0,none⟩) (by simp)).trans (by simp);have r1:w0.cell? ⟨w.heap.size,1,none⟩=some (.int .i64 0):=(hb0.cell (p:=⟨w.heap.size,1,none⟩) (by simp)).trans (by simp);have r2:w0.cell? ⟨w.heap.size,2,none⟩=some (.int .u32 0):=(hb0.cell (p:=⟨w.heap.size,2,none⟩) (by simp)).trans (by simp);have r3:w0.cell? ⟨w.heap.size,3,none⟩=some (.slice none 0 0):=(hb0.cell (p:=⟨w.heap.size,3,none⟩) (by simp)).trans (by simp);have g:∀i,w0.frozen? ⟨w.heap.size,i,none⟩=false:=fun i=>(hb0.frozen (p:=⟨w.heap.size,i,none⟩) (by simp)).trans (Yh w _ _ rfl);have hlt0:w.heap.size<w0.heap.size:=by simp at hs0;omega
 have hbw0:Below w.heap.size w w0:=((Below.refl _ w).alloc wz _).trans (hb0.mono (by simp));have HR:Hid (∀W',Below w0.heap.size w0 W'→(W'.cell? ⟨w.heap.size,0,none⟩=some (.string ⟨#[]⟩)∧W'.cell? ⟨w.heap.size,1,none⟩=some (.int .i64 0)∧W'.cell? ⟨w.heap.size,2,none⟩=some (.int .u32 0)∧W'.cell? ⟨w.heap.size,3,none⟩=some (.slice none 0 0))∧∀i,W'.frozen? ⟨w.heap.size,i,none⟩=false):=fun W' hb=>
  ⟨⟨(hb.cell (p:=⟨w.heap.size,0,none⟩) hlt0).trans r0,(hb.cell (p:=⟨w.heap.size,1,none⟩) hlt0).trans r1,(hb.cell (p:=⟨w.heap.size,2,none⟩) hlt0).trans r2,(hb.cell (p:=⟨w.heap.size,3,none⟩) hlt0).trans r3⟩,fun i=>(hb.frozen (p:=⟨w.heap.size,i,none⟩) hlt0).trans (g i)⟩
 have HCELL:Hid (∀i (h:i<qs.length),∃b o,p0=some ⟨b,o,none⟩∧∀W',Below w0.heap.size w0 W'→W'.cell? ⟨b,o+i,none⟩=some (Vz qs[i])):=fun i hi=>by obtain⟨b,o,hp,hl,hc⟩:=hcell i hi;exact⟨b,o,hp,fun W' hb=>(hb.cell (p:=⟨b,o+i,none⟩) hl.1).trans hc⟩
 have hql:(qs.length:Int)≤4000:=by have:=HPL.out;omega
 clear hcell ho0 hb0 hs0 r0 r1 r2 r3 g;go_wp2_with fail
 go_loopw [7,9] (fun v i wr=>∃(k:Nat),k≤qs.length∧i=.int .i64 k∧wr.ownsRow w0.heap.size 25 2 v k (idCells ((qs.take k).map fun p=>(pmore 2166136261 p,(p.length:Int))))∧Below w0.heap.size w0 wr) (fun _ i _=>qs.length - (intOf i).toNat)
 case atStart=>exact⟨0,Nat.zero_le _,rfl,World.ownsRow_nil _ _ _ _,Below.refl _ _⟩
 case round=>
  obtain⟨k,hk,rfl,hown,hbr⟩:=hrel;by_cases hlt:k<qs.length
  ·have hlt':(k:Int)<(qs.length:Int):=(by omega);obtain⟨b,o,rfl,hc⟩:=HCELL.out k hlt;have hc':=hc wr hbr;have HNX:Hid (idCells ((qs.take (k+1)).map fun p=>(pmore 2166136261 p,(p.length:Int)))=idCells ((qs.take k).map fun p=>(pmore 2166136261 p,(p.length:Int)))++[.int .u32 (pmore 2166136261 qs[k]:Nat),.int .i64 (qs[k].length:Int)]):=(by show _=_;rw[List.take_succ_eq_append_getElem hlt,List.map_append,Xy];rfl);obtain⟨q,hq⟩:∃q:ByteArray,(⟨qs[k].toArray⟩:ByteArray)=q:=⟨_,rfl⟩;have hqd:q.data.toList=qs[k]:=(by rw[←hq]);have hqs:(q.size:Int)=(qs[k].length:Int):=(by rw[←hq];rfl);have HQM:Hid (q.size≤maxLen):=(by show _≤_;have:=HPS.out k hlt;unfold maxLen;omega);rw[Vz,hq]at hc';rw[←hqd]at HNX;obtain⟨P,hP⟩:∃P,pmore 2166136261 q.data.toList=P:=⟨_,rfl⟩;have HPP:Hid (pmore 2166136261 q.data.toList=P):=hP;rw[hP]at HNX;rw[hqd,←hqs]at HNX;obtain⟨L,hL⟩:∃L:Int,(q.size:Int)=L:=⟨_,rfl⟩;have HLL:Hid ((q.size:Int)=L):=hL;rw[hL]at HNX;clear hc hqs hqd hq hP hL;go_wp2_with fail;refine(Qap q _ HQM.out).mono ?_;rintro e w2 ⟨rfl,hb2⟩;rw[HPP.out,HLL.out];have hown2:=Qi hown hb2;have hbr2:Below w0.heap.size w0 w2:=hbr.trans (hb2.mono hbr.size);clear hown hb2;go_wp2_with (at_builtin;refine wpList_append_own _ rfl (.tmp 33) (.tmp 35) 38 rfl w0.heap.size 25 i0 (idV 0 0) 2 16 Tryz.underlying38 hi hz0 hz1 hz2 rfl (by decide) _ _ _ rfl ((hown2.alloc _).alloc _) ⟨w2.heap.size+1,0,none⟩ 1 1 [.int .u32 (P:Nat),.int .i64 L] rfl rfl (Qi0 _ _ _ _ _ (by simp)) (by simp[Value.oneCell']) (by unfold maxLen;omega) (by omega) (by have:=hbr2.size;simp;omega) ?_;intro v' w3 hown' hgrow _;obtain⟨g',cap',rfl⟩:=ownsRow_succ hown');have hbr3:Below w0.heap.size w0 w3:=((hbr2.alloc hbr2.size _).alloc (by have:=hbr2.size;simp;omega) _).grown hgrow (by have:=hbr2.size;simp;omega) (fun j e=>Xf hown2 e);clear hgrow hown2;go_wp2_with fail;go_roundw
   case rel=>exact⟨k+1,by omega,by go_num,by rw[HNX.out];exact hown',hbr3⟩
   case measure=>simp[intOf];omega
  ·have hge:(qs.length:Int)≤(k:Int):=(by omega);rw[List.take_of_length_le (by omega)]at hown;obtain rfl:k=qs.length:=(by omega);have HI:Hid (Q3 wr u7 (qs.map fun p=>(pmore 2166136261 p,(p.length:Int)))):=Q3.of_row (by rw[List.length_map];exact hown);obtain⟨⟨r0,r1,r2,r3⟩,g⟩:=HR.out wr hbr;have g0:=g 0;have g1:=g 1;have g2:=g 2;have g3:=g 3;have hbw:Below w.heap.size w wr:=hbw0.trans (hbr.mono hbw0.size);have hltr:w.heap.size<wr.heap.size:=Nat.lt_of_lt_of_le hlt0 hbr.size;have HIX:=HI.out;obtain⟨pp,cc,hu,_⟩:=HIX;rw[List.length_map]at hu;subst hu;have HROW:Hid (wr.ownsRow w0.heap.size 25 2 (.slice pp qs.length cc) qs.length (idCells (qs.map fun p=>(pmore 2166136261 p,(p.length:Int))))):=hown;clear g hown HI;go_wp2_with fail;refine(Qeb s _ HSM.out).mono ?_;rintro e w3 ⟨rfl,hw3⟩;subst hw3;obtain⟨P,hP⟩:∃P,pmore 2166136261 s.data.toList=P:=⟨_,rfl⟩;have HPP:Hid (pmore 2166136261 s.data.toList=P):=hP;rw[hP];clear hP;go_wp2_with fail;refine bodyPost_ret (v:=.tuple #[rcpV nm s.size (P:Nat) (.slice pp qs.length cc),.int .i64 0]) (by simp[results,Tryz.results153,go_sem,r0,r1,r2,r3]) rfl ⟨.slice pp qs.length cc,by rw[HPP.out],?_,(((hbw.setCell (p:=⟨w.heap.size,0,none⟩) wz _).setCell (p:=⟨w.heap.size,1,none⟩) wz _).setCell (p:=⟨w.heap.size,2,none⟩) wz _).setCell (p:=⟨w.heap.size,3,none⟩) wz _⟩;refine(Zb.of_row (base:=w0.heap.size) (e:=25) ?_).low (Nat.le_of_lt hlt0);rw[List.length_map];exact ownsRow_setCell_below (ownsRow_setCell_below (ownsRow_setCell_below (ownsRow_setCell_below HROW.out (a:=⟨w.heap.size,0,none⟩) hlt0 _) (a:=⟨w.heap.size,1,none⟩) hlt0 _) (a:=⟨w.heap.size,2,none⟩) hlt0 _) (a:=⟨w.heap.size,3,none⟩) hlt0 _
open Go.RowKit Go.Maps
theorem Qlx (w:World):Calls Tryz.prog 97 #[] w fun e w'=>∃p F,e=.returned (.pointer (some p))∧Q0 w' p F []∧(∀k,F k→w.heap.size≤k)∧Below w.heap.size w w':=by
 have hmm := @run_makeMap Tryz.prog;have hb1:=(Below.refl _ w).alloc wz (.map #[] 0);have hM:=Qf.Of.made idPieces w;have hb2:=(Below.refl _ (w.alloc (.map #[] 0))).alloc wz (.cells #[.map (some w.heap.size)] 170);have hB:=Blk.new (w.alloc (.map #[] 0)) #[.map (some w.heap.size)] 170;have hs:(w.alloc (.map #[] 0)).heap.size=w.heap.size+1:=by simp
 rw[hs]at hB;go_enter Tryz.func97,Tryz.ntmps97;go_wp2_with fail;go_ret;exact⟨⟨w.heap.size+1,0,none⟩,_,rfl,⟨w.heap.size+1,w.heap.size,rfl,hB,of_below hM hb2,by omega,rfl⟩,fun k hk=>by rcases hk with rfl|rfl<;>omega,hb1.trans (hb2.mono hb1.size)⟩
theorem Qp9 (b:Nat)(l:List Hd)(w:World)(h:idPieces.Of w b l) :
 Calls Tryz.prog 163 #[.map (some b)] w fun e w'=>e=.returned (.map (some w.heap.size))∧idPieces.Of w' w.heap.size l∧Below w.heap.size w w':=by obtain⟨es,clock,hb⟩:=h.isMap;have hq:=fun w=>run_eql_map_nil_sl (P:=Tryz.prog) w 168 _ _ (some b) Tryz.underlying168;go_enter Tryz.func163,Tryz.ntmps163;go_wp2_with fail;rw[run_callFunc_extern Tryz.func162 (by kernel_rfl) (by kernel_rfl) (by kernel_rfl) (e:=Extern.MapsClone.clone) (by kernel_rfl),run_maps_clone_sl w 168 hb];simp only[Result.andThen];rw[Oper.upon_value];go_wp2_with fail;rw[run_typeAssert_map_sl _ 168 20 _ _ _ Tryz.underlying168];simp only[Result.andThen];rw[Oper.upon_value];go_wp2_with fail;go_ret;exact⟨rfl,h.moved ((World.alloc_heap_new w _).trans hb.symm),(Below.refl _ w).alloc wz _⟩
theorem Qrl (p:Addr)(F:Nat→Prop)(l:List Hd)(w:World)(hP:Q0 w p F l) :
 Calls Tryz.prog 80 #[.pointer (some p)] w fun e w'=>∃p' F',e=.returned (.pointer (some p'))∧Q0 w' p' F' l∧(∀k,F' k→w.heap.size≤k)∧Below w.heap.size w w':=by obtain⟨B,b,rfl,hB,hM,hne,rfl⟩:=hP;have q0:=hB.cell (i:=0) rfl;have hc:=Qp9 b l w hM;go_enter Tryz.func80,Tryz.ntmps80;go_wp2_with fail;refine hc.mono ?_;rintro e w1 ⟨rfl,hM1,hb1⟩;have hb2:=(Below.refl _ w1).alloc wz (.cells #[.map (some w.heap.size)] 170);have hB2:=Blk.new w1 #[.map (some w.heap.size)] 170;have hM2:=of_below hM1 hb2;have hl:=hM1.lt;go_wp2_with fail;go_ret;exact⟨⟨w1.heap.size,0,none⟩,_,rfl,⟨w1.heap.size,w.heap.size,rfl,hB2,hM2,by omega,rfl⟩,fun k hk=>by rcases hk with rfl|rfl<;>omega,hb1.trans (hb2.mono hb1.size)⟩
theorem Xp (h:Hd)(l:List Hd):Qx (h::l)=h.1.2+Qx l:=by simp[Qx]
theorem Qgm {a b:List Hd}(h:a.Perm b):Qx a=Qx b:=by
 induction h with
 | nil=>rfl
 | cons x _ ih=>rw[Xp,Xp,ih]
 | swap x y l=>rw[Xp,Xp,Xp,Xp];omega
 | trans _ _ h1 h2=>rw[h1,h2]
theorem Z0 {U:Int}{l:List Hd}(h:Qd U l)(p:Hd→Bool):0≤Qx (l.filter p)∧Qx (l.filter p)≤16000:=by
 have h1:=Gq (l.filter p) 64 (by decide) (fun x hx=>h.lens x (List.mem_filter.1 hx).1);have h2:=List.length_filter_le p l;have h3:=h.many;omega
theorem Qqr (p:Addr)(F:Nat→Prop)(l:List Hd)(w:World)(hok:Qd 1000000 l)(hP:Q0 w p F l) :
 Calls Tryz.prog 152 #[.pointer (some p)] w fun e w'=>e=.returned (.int .i64 (Qx l))∧Below w.heap.size w w':=by
 obtain⟨B,b,rfl,hB,hM,hne,rfl⟩:=hP;have q0:=hB.cell (i:=0) rfl;have hap:=hM.apart;have hbl:=hM.lt;have HOK:Hid (Qd 1000000 l):=hok;clear hok;go_enter Tryz.func152,Tryz.ntmps152;go_wp2_with (first|(at_range;refine wp_range_kit idPieces _ rfl _ 168 rfl 172 Tryz.underlying168 b l rfl hM ?_;intro w0 hr0 hg0 hs0)|go_in);go_frame
 go_loopw [3,10] (fun n _ wr=>∃(left:Nat×Int→Bool) (cnt:Nat),n=.int .i64 (Qx (l.filter (fun h => !left h.1)))∧idPieces.Rng wr b w.heap.size l left cnt∧w.grownBy wr none) (fun _ _ wr=>wr.rangeLeft b w.heap.size)
 case atStart=>
  refine⟨_,_,?_,hr0,hg0⟩;rw[List.filter_eq_nil_iff.2 (fun h hm=>by simp only[Bool.not_eq_true',Bool.not_eq_false,decide_eq_true_eq];simp;exact⟨_,_,hm⟩)];rfl
 case round=>
  obtain⟨left,cnt,rfl,hrg,hgw⟩:=hrel;obtain⟨n1,n2⟩:=Z0 HOK.out (fun h => !left h.1);obtain⟨N,hN⟩:∃N,Qx (l.filter (fun h => !left h.1))=N:=⟨_,rfl⟩;have HN:Hid (Qx (l.filter (fun h => !left h.1))=N):=hN;rw[hN]at n1 n2 ⊢;clear hN;go_wp2_with (first|(at_next;refine wp_next_kit idPieces _ rfl _ rfl b w.heap.size l left cnt rfl hrg ?_ ?_)|go_in)
  ·intro h0;go_wp2_with fail;go_ret;refine⟨?_,Qe hgw⟩;rw[←HN.out,List.filter_eq_self.2 (fun h hm=>by have:=h0 h.1.1 h.1.2 h.2.1 h.2.2 hm;simp[this])];rfl
  ·intro xp xl u t w1 cnt1 hm hlx hrg1 hlt hg1 hs1 hen;change(Instr.entry (.pointer (some ⟨w.heap.size,0,none⟩))).run Tryz.prog w1=.ok (.tuple #[idV (xp:Nat) xl,Xz (u,t)]) w1 at hen;have hfl:=Yo hap (p:=left) hm hlx;have HS:Hid (Qx (l.filter (fun y => !(left y.1 && !decide (y.1=(xp,xl)))))=xl+N):=by show _=_;rw[Qgm hfl,Xp,HN.out]
   obtain⟨m1,m2⟩:=Z0 HOK.out (fun y => !(left y.1 && !decide (y.1=(xp,xl))));rw[HS.out]at m1 m2;have hw:IntKind.i64.wrap (N+xl)=N+xl:=(by rw[IntKind.wrap_i64];omega);have hgw1:=hgw.andThen hg1 (fun j hj=>by cases hj;exact .inl wz);have hal:=World.grownBy_alloc w1 (.cells #[.int .u32 (xp:Nat),.int .i64 xl] 25) none;have hrg2:=hrg1.kept hal (by simp) (by simp);have i1:=(Blk.new w1 #[.int .u32 (xp:Nat),.int .i64 xl] 25).cell (i:=1) rfl;have hgw2:=hgw1.andThen hal (fun j hj=>by cases hj);clear hfl hM hB hr0 hg0;go_wp2_with fail;go_roundw
   case rel=>exact⟨_,cnt1,by rw[HS.out,Int.add_comm],hrg2,hgw2⟩
   case measure=>rw[hrg2.left_eq,hrg.left_eq];exact hlt
abbrev Qz:=List UInt8×List UInt8
abbrev Qr:=(Nat×Int)×List Hd
structure NSt where
 files:List Qz
 bins:List Qr
abbrev Qg (s:List UInt8):Nat×Int:=Zq (idsOf s)
def Qex (f:Qz)(v:Value):Rw:=(f.1,(f.2.length:Int),((pmore 2166136261 f.2:Nat):Int),v)
theorem Q3.off {F:Nat→Prop}{w w':World}{v:Value}{ids:List (Nat×Int)}(h:Q3 w v ids)(ho:Off F w w')(hn:ids≠[]→∀k,v.ownBlock=some k→¬F k):Q3 w' v ids:=by
 obtain⟨p,c,rfl,h⟩:=h;refine⟨p,c,rfl,fun i hi => ?_⟩;obtain⟨b,o,rfl,hb,h0,h1⟩:=h i hi;have he:w'.heap[b]? = w.heap[b]? := ho.block b hb (hn (fun e=>by rw[e]at hi;simp at hi) b rfl);exact⟨b,o,rfl,Nat.lt_of_lt_of_le hb ho.size,(World.cell?_of_block (w:=w) he).trans h0,(World.cell?_of_block (w:=w) he).trans h1⟩
theorem Q3.lt {w:World}{v:Value}{ids:List (Nat×Int)}(h:Q3 w v ids)(hne:ids≠[]){k:Nat}(hk:v.ownBlock=some k):k<w.heap.size:=by
 obtain⟨p,c,rfl,h⟩:=h;have hl:0<ids.length:=List.length_pos_iff.2 hne;obtain⟨b,o,rfl,hb,_⟩:=h 0 hl;have:b=k:=by simpa[Value.ownBlock]using hk
 omega
structure NAt (w:World)(N mf mb:Nat)(vi:List UInt8→Value)(pi:Nat×Int→Addr)(Fi:Nat×Int→Nat→Prop)(st:NSt):Prop where
 blk:Blk w N #[.map (some mf),.map (some mb)] 121
 files:strRcps.Of w mf (st.files.map fun f=>(f.1,Qex f (vi f.1)))
 bins:idBins.Of w mb (st.bins.map fun b=>(b.1,some (pi b.1)))
 ids:∀f∈st.files,Q3 w (vi f.1) (idsOf f.2)
 rows:∀f∈st.files,idsOf f.2≠[]→∀k,(vi f.1).ownBlock=some k→k<w.heap.size∧k≠N∧k≠mf∧k≠mb∧∀b∈st.bins,¬Fi b.1 k
 bin:∀b∈st.bins,Q0 w (pi b.1) (Fi b.1) b.2
 ne:N≠mf∧N≠mb∧mf≠mb
 apart:∀b∈st.bins,¬Fi b.1 N∧¬Fi b.1 mf∧¬Fi b.1 mb
 two:∀b∈st.bins,∀c∈st.bins,b.1≠c.1→∀k,Fi b.1 k→¬Fi c.1 k
def X7 (N mf mb:Nat)(vi:List UInt8→Value)(Fi:Nat×Int→Nat→Prop)(st:NSt)(k:Nat):Prop:=
 k=N∨k=mf∨k=mb∨(∃b∈st.bins,Fi b.1 k)∨∃f∈st.files,idsOf f.2≠[]∧(vi f.1).ownBlock=some k
def Q9 (w:World)(p:Addr)(F:Nat→Prop)(st:NSt):Prop:=∃N mf mb vi pi Fi,p=⟨N,0,none⟩∧NAt w N mf mb vi pi Fi st∧F=X7 N mf mb vi Fi st
theorem NAt.lt {w:World}{N mf mb:Nat}{vi:List UInt8→Value}{pi:Nat×Int→Addr}{Fi:Nat×Int→Nat→Prop}{st:NSt}(h:NAt w N mf mb vi pi Fi st):∀k,X7 N mf mb vi Fi st k→k<w.heap.size:=by
 rintro k (rfl|rfl|rfl|⟨b,hb,hk⟩|⟨f,hf,hi,hk⟩)
 ·exact h.blk.lt
 ·exact h.files.lt
 ·exact h.bins.lt
 ·exact(h.bin b hb).lt k hk
 ·exact(h.rows f hf hi k hk).1
theorem NAt.off {w w':World}{N mf mb:Nat}{vi:List UInt8→Value}{pi:Nat×Int→Addr}{Fi:Nat×Int→Nat→Prop}{st:NSt}{G:Nat→Prop}(h:NAt w N mf mb vi pi Fi st)(ho:Off G w w')(hG:∀k,X7 N mf mb vi Fi st k→¬G k):NAt w' N mf mb vi pi Fi st where
 blk:=ho.blk h.blk (hG N (.inl rfl))
 files:=h.files.moved (ho.block mf h.files.lt (hG mf (.inr (.inl rfl))))
 bins:=h.bins.moved (ho.block mb h.bins.lt (hG mb (.inr (.inr (.inl rfl)))))
 ids f hf:=(h.ids f hf).off ho (fun hi k hk=>hG k (.inr (.inr (.inr (.inr ⟨f,hf,hi,hk⟩)))))
 rows f hf hi k hk:=by obtain⟨h1,h2⟩:=h.rows f hf hi k hk;exact⟨Nat.lt_of_lt_of_le h1 ho.size,h2⟩
 bin b hb:=(h.bin b hb).off ho (fun k hk=>hG k (.inr (.inr (.inr (.inl ⟨b,hb,hk⟩)))))
 ne:=h.ne
 apart:=h.apart
 two:=h.two
theorem NAt.below {w w':World}{N mf mb:Nat}{vi:List UInt8→Value}{pi:Nat×Int→Addr}{Fi:Nat×Int→Nat→Prop}{st:NSt}(h:NAt w N mf mb vi pi Fi st)(hb:Below w.heap.size w w'):NAt w' N mf mb vi pi Fi st:=h.off (Off.of_below (F:=fun _=>False) hb) (fun _ _ h=>h)
theorem Q9.lt {w:World}{p:Addr}{F:Nat→Prop}{st:NSt}(h:Q9 w p F st):∀k,F k→k<w.heap.size:=by
 obtain⟨N,mf,mb,vi,pi,Fi,_,h,rfl⟩:=h;exact h.lt
theorem Q9.off {w w':World}{p:Addr}{F G:Nat→Prop}{st:NSt}(h:Q9 w p F st)(ho:Off G w w')(hG:∀k,F k→¬G k):Q9 w' p F st:=by
 obtain⟨N,mf,mb,vi,pi,Fi,hp,h,rfl⟩:=h;exact⟨N,mf,mb,vi,pi,Fi,hp,h.off ho hG,rfl⟩
theorem Q9.below {w w':World}{p:Addr}{F:Nat→Prop}{st:NSt}(h:Q9 w p F st)(hb:Below w.heap.size w w'):Q9 w' p F st:=h.off (Off.of_below (F:=fun _=>False) hb) (fun _ _ h=>h)
theorem Qcv (w:World):Calls Tryz.prog 13 #[] w fun e w'=>∃p F,e=.returned (.pointer (some p))∧Q9 w' p F ⟨[],[]⟩∧(∀k,F k→w.heap.size≤k)∧Below w.heap.size w w':=by
 have hmm := @run_makeMap Tryz.prog;have hb1:=(Below.refl _ w).alloc wz (.map #[] 0);have hM1:=Qf.Of.made strRcps w;have hb2:=(Below.refl _ (w.alloc (.map #[] 0))).alloc wz (.map #[] 0);have hM2:=Qf.Of.made idBins (w.alloc (.map #[] 0));have hb3:=(Below.refl _ ((w.alloc (.map #[] 0)).alloc (.map #[] 0))).alloc wz (.cells #[.map (some w.heap.size),.map (some (w.heap.size+1))] 121);have hB:=Blk.new ((w.alloc (.map #[] 0)).alloc (.map #[] 0)) #[.map (some w.heap.size),.map (some (w.heap.size+1))] 121;have hs1:(w.alloc (.map #[] 0)).heap.size=w.heap.size+1:=by simp
 have hs2:((w.alloc (.map #[] 0)).alloc (.map #[] 0)).heap.size=w.heap.size+2:=by simp
 rw[hs2]at hB;rw[hs1]at hM2;go_enter Tryz.func13,Tryz.ntmps13;go_wp2_with fail;go_ret;refine⟨⟨w.heap.size+2,0,none⟩,_,rfl,⟨w.heap.size+2,w.heap.size,w.heap.size+1,fun _=>.nilIface,fun _=>⟨0,0,none⟩,fun _ _=>False,rfl,⟨hB,(hM1.kept (Qw hb2) (by simp)).kept (Qw hb3) (by simp),hM2.kept (Qw hb3) (by simp),fun f hf=>by simp at hf,fun f hf=>by simp at hf,fun b hb=>by simp at hb,⟨by omega,by omega,by omega⟩,fun b hb=>by simp at hb,fun b hb=>by simp at hb⟩,rfl⟩,?_,?_⟩
 ·rintro k (rfl|rfl|rfl|⟨b,hb,_⟩|⟨f,hf,_⟩)
  ·omega
  ·omega
  ·omega
  ·simp at hb
  ·simp at hf
 ·exact hb1.trans ((hb2.mono hb1.size).trans (hb3.mono (by rw[hs2];omega)))
def Zi:List Qr→Nat×Int→Option (List Hd)
 | [],_=>none
 | b::r,x=>if b.1=x then some b.2 else Zi r x
theorem J3:∀{l:List Qr} {x:Nat×Int} {h:List Hd},Zi l x=some h→(x,h)∈l
 | [],_,_,h=>by cases h
 | b::r,x,h,e=>by
  rw[Zi]at e;split at e
  ·rename_i hb
   cases e;rw[←hb];exact List.mem_cons_self ..
  ·exact List.mem_cons_of_mem _ (J3 e)
theorem Qa3:∀{l:List Qr} {x:Nat×Int},Zi l x=none→∀b∈l,b.1≠x
 | [],_,_,_,hb=>by simp at hb
 | c::r,x,e,b,hb=>by
  rw[Zi]at e;split at e
  ·cases e
  ·rename_i hc
   rcases List.mem_cons.1 hb with rfl|hb
   ·exact hc
   ·exact Qa3 e b hb
def nFile:List Qz→List UInt8→Option (List UInt8)
 | [],_=>none
 | b::r,x=>if b.1=x then some b.2 else nFile r x
theorem nFile_some:∀{l:List Qz} {x h:List UInt8},nFile l x=some h→(x,h)∈l
 | [],_,_,h=>by cases h
 | b::r,x,h,e=>by
  rw[nFile]at e;split at e
  ·rename_i hb
   cases e;rw[←hb];exact List.mem_cons_self ..
  ·exact List.mem_cons_of_mem _ (nFile_some e)
theorem Ju:∀{l:List Qz} {x:List UInt8},nFile l x=none→∀b∈l,b.1≠x
 | [],_,_,_,hb=>by simp at hb
 | c::r,x,e,b,hb=>by
  rw[nFile]at e;split at e
  ·cases e
  ·rename_i hc
   rcases List.mem_cons.1 hb with rfl|hb
   ·exact hc
   ·exact Ju e b hb
theorem Ki (B:Nat)(v:Value)(l:List Hd)(x:Nat×Int)(w:World)(hn:l.length≤maxLen)(h:Qt w B v l) :
 Calls Tryz.prog 159 #[.pointer (some ⟨B,0,none⟩),idV (x.1:Nat) x.2] w fun e w'=>e=.returned (.int .i64 (Yb l x))∧Below w.heap.size w w':=by
 obtain⟨pa,c,hv,hcell⟩:=h.at;have hB0:=h.blk.cell (i:=0) rfl;rw[hv]at hB0;have hBl:=h.blk.lt;have hl2:(l.length:Int)≤9223372036854775807:=by unfold maxLen at hn;omega
 have HC:Hid (∀i (h:i<l.length),∃b o,pa=some ⟨b,o,none⟩∧(b<w.heap.size∧l.length≤c)∧w.cell? ⟨b,o+i*4,none⟩=some (.int .u32 (l[i].1.1:Nat))∧w.cell? ⟨b,o+i*4+1,none⟩=some (.int .i64 l[i].1.2) ∧
  w.cell? ⟨b,o+i*4+2,none⟩=some (.int .i64 l[i].2.1)∧w.cell? ⟨b,o+i*4+3,none⟩=some (.string ⟨l[i].2.2.toArray⟩)):=hcell
 clear hcell h hn hv;have hx:=Blk.new w #[.int .u32 (x.1:Nat),.int .i64 x.2] 25;have hal:Below w.heap.size w (w.alloc (.cells #[.int .u32 (x.1:Nat),.int .i64 x.2] 25)):=(Below.refl _ w).alloc wz _;go_enter Tryz.func159,Tryz.ntmps159;go_wp2_with fail;obtain⟨W,hW⟩:∃W,w.alloc (.cells #[.int .u32 (x.1:Nat),.int .i64 x.2] 25)=W:=⟨_,rfl⟩;rw[hW]at hx hal ⊢;have x0:=hx.cell (i:=0) rfl;have x1:=hx.cell (i:=1) rfl;have q0:=(hal.cell (p:=⟨B,0,none⟩) hBl).trans hB0;clear hW hB0
 go_loopw [5] (fun i wr=>∃j m:Nat,j≤l.length∧i=.int .i64 j∧wr=W.drewN m∧∀k (hk:k<l.length),k<j→l[k].1≠x) (fun i _=>l.length - (intOf i).toNat)
 case atStart=>exact⟨0,0,Nat.zero_le _,rfl,rfl,fun k _ h=>by omega⟩
 case round=>
  obtain⟨j,m,hj,rfl,rfl,hno⟩:=hrel;have HNO:Hid (∀k (hk:k<l.length),k<j→l[k].1≠x):=hno;clear hno;by_cases hlt:j<l.length
  ·obtain⟨ba,oa,rfl,⟨hbl,_⟩,a0,a1,_,_⟩:=HC.out j hlt;have hlt':(j:Int)<(l.length:Int):=(by omega);have a0':=(hal.cell (p:=⟨ba,oa+j*4,none⟩) hbl).trans a0;have a1':=(hal.cell (p:=⟨ba,oa+j*4+1,none⟩) hbl).trans a1;have HNX:Hid (l[j].1≠x→∀k (hk:k<l.length),k<j+1→l[k].1≠x):=fun hne k hk hkj=>by
    rcases Nat.lt_or_ge k j with h'|h'
    ·exact HNO.out k hk h'
    ·obtain rfl:k=j:=(by omega);exact hne
   have HAT:Hid (l[j].1=x→Yb l x=(j:Int)):=fun he=>by unfold Yb;rw[Qlq l x j hlt HNO.out he]
   obtain⟨y,hy⟩:∃y,l[j].1=y:=⟨_,rfl⟩;rw[hy]at a0' a1' HNX HAT;clear hy a0 a1;obtain⟨yp,yl⟩:=y;obtain⟨xp,xl⟩:=x;simp only at a0' a1' x0 x1;by_cases e1:(yp:Int)=(xp:Int)
   ·by_cases e2:yl=xl
    ·have HE:Hid (Yb l (xp,xl)=(j:Int)):=HAT.out (by rw[e2,show yp=xp by omega]);clear HAT HNX;subst e2;obtain rfl:yp=xp:=(by omega);go_wp2_with fail;go_quiet (fail);go_wp2_with fail;go_ret;exact⟨by rw[HE.out];rfl,⟨hal.os,hal.tape,hal.output,hal.size,fun k hk=>hal.block k hk⟩⟩
    ·have HE:Hid (∀k (hk:k<l.length),k<j+1→l[k].1≠(xp,xl)):=HNX.out (fun e=>e2 (Prod.mk.inj e).2);clear HAT HNX;obtain rfl:yp=xp:=(by omega);have e2':(yl==xl)=false:=beq_eq_false_iff_ne.2 e2;go_wp2_with fail;go_quiet (fail);go_wp2_with fail;go_roundw
     case rel=>exact⟨j+1,_,by omega,by go_num,rfl,HE.out⟩
     case measure=>simp[intOf];omega
   ·have HE:Hid (∀k (hk:k<l.length),k<j+1→l[k].1≠(xp,xl)):=HNX.out (fun e=>e1 (by rw[(Prod.mk.inj e).1]));clear HAT HNX;have e1':((yp:Int)==(xp:Int))=false:=beq_eq_false_iff_ne.2 e1;go_wp2_with fail;go_quiet (fail);go_wp2_with fail;go_roundw
    case rel=>exact⟨j+1,_,by omega,by go_num,rfl,HE.out⟩
    case measure=>simp[intOf];omega
  ·have hge:(l.length:Int)≤(j:Int):=(by omega);have HE:Hid (Yb l x=-1):=(by show _=_;unfold Yb;rw[Qfo l x (fun k hk=>HNO.out k hk (by omega))]);go_wp2_with fail;go_ret;exact⟨by rw[HE.out];rfl,⟨hal.os,hal.tape,hal.output,hal.size,fun k hk=>hal.block k hk⟩⟩
theorem Qqh (B:Nat)(v:Value)(l:List Hd)(w:World)(hn:l.length≤250)(hs:∀h∈l,0≤h.1.2∧h.1.2≤64)(h:Qt w B v l) :
 Calls Tryz.prog 160 #[.pointer (some ⟨B,0,none⟩)] w fun e w'=>e=.returned (.int .i64 (Qx l))∧w'=w:=by
 obtain⟨pa,c,hv,hcell⟩:=h.at;have hB0:=h.blk.cell (i:=0) rfl;rw[hv]at hB0;have hl2:(l.length:Int)≤250:=by omega
 have HC:Hid (∀i (h:i<l.length),∃b o,pa=some ⟨b,o,none⟩∧(b<w.heap.size∧l.length≤c)∧w.cell? ⟨b,o+i*4,none⟩=some (.int .u32 (l[i].1.1:Nat))∧w.cell? ⟨b,o+i*4+1,none⟩=some (.int .i64 l[i].1.2) ∧
  w.cell? ⟨b,o+i*4+2,none⟩=some (.int .i64 l[i].2.1)∧w.cell? ⟨b,o+i*4+3,none⟩=some (.string ⟨l[i].2.2.toArray⟩)):=hcell
 have HB:Hid (∀k,k≤l.length→0≤Qx (l.take k)∧Qx (l.take k)≤16000):=fun k hk=>by have:=Gq (l.take k) 64 (by decide) (fun h hm=>hs h (List.mem_of_mem_take hm));rw[List.length_take,Nat.min_eq_left hk]at this;omega
 clear hcell h hn hv hs;go_enter Tryz.func160,Tryz.ntmps160;go_wp2_with fail
 go_loopw [3,4] (fun n i wr=>∃j:Nat,j≤l.length∧i=.int .i64 j∧n=.int .i64 (Qx (l.take j))∧wr=w) (fun _ i _=>l.length - (intOf i).toNat)
 case atStart=>exact⟨0,Nat.zero_le _,rfl,rfl,rfl⟩
 case round=>
  obtain⟨j,hj,rfl,rfl,rfl⟩:=hrel;by_cases hlt:j<l.length
  ·obtain⟨ba,oa,rfl,_,_,a1,_,_⟩:=HC.out j hlt;have hlt':(j:Int)<(l.length:Int):=(by omega);obtain⟨n1,n2⟩:=HB.out j hj;obtain⟨m1,m2⟩:=HB.out (j+1) hlt;have HSN:=Qoc l j hlt;have HSN':Hid (Qx (l.take (j+1))=Qx (l.take j)+l[j].1.2):=HSN;rw[HSN]at m1 m2;clear HSN;generalize Qx (l.take j)=n at *;obtain⟨y,hy⟩:∃y,l[j].1.2=y:=⟨_,rfl⟩;rw[hy]at a1 m1 m2 HSN';clear hy;have HW:IntKind.i64.wrap (n+y)=n+y:=(by rw[IntKind.wrap_i64];omega);go_wp2_with fail;go_roundw
   case rel=>exact⟨j+1,by omega,by go_num,by rw[HSN'.out],trivial⟩
   case measure=>simp[intOf];omega
  ·have hge:(l.length:Int)≤(j:Int):=(by omega);rw[List.take_of_length_le (by omega)];obtain⟨n,hn⟩:∃n,Qx l=n:=⟨_,rfl⟩;have HN:Hid (Qx l=n):=hn;rw[hn];clear hn;go_wp2_with fail;go_ret;exact⟨by rw[HN.out];rfl,rfl⟩
theorem Qbf:∀(l:List Hd) (k:Nat) (u:Int),k<l.length→(heldCells l).set (k*4+2) (.int .i64 u)=heldCells (l.modify k (fun h=>(h.1,u,h.2.2)))
 | [],_,_,h=>by simp at h
 | x::r,0,u,_=>rfl
 | x::r,k+1,u,h=>by have:=Qbf r k u (by simpa using h);rw[show(k+1)*4+2=k*4+2+1+1+1+1 by omega];show _::_::_::_::_=heldCells (x::r.modify k _);rw[this];rfl
theorem Qt.open {w:World}{B:Nat}{v:Value}{l:List Hd}(h:Qt w B v l)(hn:1≤l.length):∃g cap,v=.slice (some ⟨g,0,none⟩) l.length cap∧(g≠B∧l.length≤cap∧cap≤maxLen)∧(∀i,w.frozen? ⟨g,i,none⟩=false)∧∀i (hi:i<l.length),w.cell? ⟨g,i*4,none⟩=some (.int .u32 (l[i].1.1:Nat))∧w.cell? ⟨g,i*4+1,none⟩=some (.int .i64 l[i].1.2)∧w.cell? ⟨g,i*4+2,none⟩=some (.int .i64 l[i].2.1)∧w.cell? ⟨g,i*4+3,none⟩=some (.string ⟨l[i].2.2.toArray⟩):=by
 have hap:=h.apart;obtain⟨p,c,hv,hc⟩:=h.at;obtain⟨_,ho⟩:=h.row;rcases ho with⟨rfl,h0⟩|⟨g,cap,cur,rfl,_,hb,h1,h2,_⟩
 ·omega
 ·refine⟨g,cap,rfl,⟨fun e=>hap (by simp[Value.ownBlock,e]),h1,h2⟩,fun i => ?_,fun i hi => ?_⟩
  ·simp only[World.frozen?,hb];simp
  ·obtain⟨b,o,hp,_,a⟩:=hc i hi;have hpp:p=some ⟨g,0,none⟩:=(by simpa using hv.symm:p=some ⟨g,0,none⟩∧c=cap).1;rw[hpp]at hp;cases hp;simpa using a
theorem Qt.setUses {w:World}{B g cap:Nat}{l:List Hd}(h:Qt w B (.slice (some ⟨g,0,none⟩) l.length cap) l)(k:Nat)(hk:k<l.length)(u:Int) :
 Qt (w.setCell ⟨g,k*4+2,none⟩ (.int .i64 u)) B (.slice (some ⟨g,0,none⟩) l.length cap) (l.modify k (fun h=>(h.1,u,h.2.2))):=by
 have hap:g≠B:=fun e=>h.apart (by simp[Value.ownBlock,e]);refine⟨h.blk.other (a:=⟨g,k*4+2,none⟩) (fun e=>hap e.symm) _,?_⟩;obtain⟨hl,ho⟩:=h.row;rcases ho with⟨he,h0⟩|⟨g',cap',cur,he,hg,hb,h1,h2,h3,h4⟩
 ·omega
 ·obtain⟨e1,e2⟩:g'=g∧cap'=cap:=by simp at he;exact⟨he.1.symm,he.2.symm⟩
  subst e1 e2;rw[List.length_modify];refine⟨by rw[Zf,List.length_modify],.inr ⟨g',cap',cur.setIfInBounds (k*4+2) (.int .i64 u),rfl,hg,?_,h1,h2,by rw[Array.size_setIfInBounds];exact h3,?_⟩⟩
  ·exact Blk.set (W:=w) (B:=g') (cs:=cur) hb (k*4+2) (.int .i64 u)
  ·rw[Array.toList_setIfInBounds,List.take_set,h4,Qbf l k u hk]
theorem Qf8 (l:List Hd)(k:Nat)(h:k<l.length)(d:Int):l.modify k (fun h=>(h.1,l[k].2.1+d,h.2.2))=l.modify k (hUse d):=by
 apply List.ext_getElem
 ·simp
 ·intro i h1 h2;simp only[List.getElem_modify];split
  ·rename_i e
   subst e;rfl
  ·rfl
theorem Qro (B:Nat)(v:Value)(l:List Hd)(x:Nat×Int)(w:World)(hn:l.length≤maxLen)(hu:∀h∈l,0≤h.2.1∧h.2.1≤9223372036854775807)(h:Qt w B v l) :
 Calls Tryz.prog 157 #[.pointer (some ⟨B,0,none⟩),idV (x.1:Nat) x.2] w fun e w'=>e=.returned (.int .i64 (Jw l x).1)∧Qt w' B v (Jw l x).2∧Off (Qt.Of B v) w w':=by
 have HR:Hid (Qt w B v l):=h;have HN:Hid (l.length≤maxLen):=hn;have hal:Below w.heap.size w (w.alloc (.cells #[.int .u32 (x.1:Nat),.int .i64 x.2] 25)):=(Below.refl _ w).alloc wz _;have HR1:Hid (Qt (w.alloc (.cells #[.int .u32 (x.1:Nat),.int .i64 x.2] 25)) B v l):=h.below hal;have HAL:Hid (Below w.heap.size w (w.alloc (.cells #[.int .u32 (x.1:Nat),.int .i64 x.2] 25))):=hal;clear h hn hal;cases hf:Z8 l x with
 | none=>
  have e1:Hid (Yb l x=-1):=by show _=_;unfold Yb;rw[hf]
  have e2:Hid (Jw l x=(5,l)):=by show _=_;unfold Jw;rw[hf]
  clear hf hu;go_enter Tryz.func157,Tryz.ntmps157;go_wp2_with fail;refine(Ki B v l x _ HN.out HR1.out).mono ?_;rintro e w1 ⟨rfl,hb1⟩;rw[e1.out];have hB:=HAL.out.trans (hb1.mono (by simp));go_wp2_with fail;go_ret;refine⟨by rw[e2.out];rfl,by rw[e2.out];exact HR.out.below hB,Off.of_below hB⟩
 | some k=>
  obtain⟨hk,_⟩:=Jg hf;obtain⟨hu0,hu1⟩:=hu _ (List.getElem_mem hk);have e1:Hid (Yb l x=(k:Int)):=by show _=_;unfold Yb;rw[hf]
  have hk0:¬(k:Int)<0:=by omega
  have hk':(k:Int)<(l.length:Int):=by omega
  by_cases hz:l[k].2.1=0
  ·have e2:Hid (Jw l x=(11,l)):=(by show _=_;unfold Jw;rw[hf];simp only[List.getElem?_eq_getElem hk,Option.map_some,hz,if_true]);clear hf hu;go_enter Tryz.func157,Tryz.ntmps157;go_wp2_with fail;refine(Ki B v l x _ HN.out HR1.out).mono ?_;rintro e w1 ⟨rfl,hb1⟩;rw[e1.out];have hB:=HAL.out.trans (hb1.mono (by simp));have hR:=HR.out.below hB;obtain⟨g,cap,rfl,_,_,hc⟩:=hR.open (by omega);have q0:=hR.blk.cell (i:=0) rfl;have q2:=(hc k hk).2.2.1;rw[hz]at q2;clear hc hb1;go_wp2_with fail;go_ret;refine⟨by rw[e2.out];rfl,by rw[e2.out];exact hR,Off.of_below hB⟩
  ·have e2:Hid (Jw l x=(0,l.modify k (hUse (-1)))):=(by show _=_;unfold Jw;rw[hf];simp only[List.getElem?_eq_getElem hk,Option.map_some];rw[if_neg (by intro e;exact hz (Option.some.inj e))]);have HMU:=Qf8 l k hk (-1);have HM:Hid (l.modify k (fun h=>(h.1,l[k].2.1+-1,h.2.2))=l.modify k (hUse (-1))):=HMU;clear hf hu HMU;go_enter Tryz.func157,Tryz.ntmps157;go_wp2_with fail;refine(Ki B v l x _ HN.out HR1.out).mono ?_;rintro e w1 ⟨rfl,hb1⟩;rw[e1.out];have hB:=HAL.out.trans (hb1.mono (by simp));have hR:=HR.out.below hB;obtain⟨g,cap,rfl,_,hfz,hc⟩:=hR.open (by omega);have q0:=hR.blk.cell (i:=0) rfl;have q2:=(hc k hk).2.2.1;have qf:=hfz (k*4+2);have HS:=hR.setUses k hk (l[k].2.1+-1);obtain⟨u,hu⟩:∃u,l[k].2.1=u:=⟨_,rfl⟩;rw[hu]at q2 hz hu0 hu1 HS HM;have HSS:Hid (Qt (w1.setCell ⟨g,k*4+2,none⟩ (.int .i64 (u+-1))) B (.slice (some ⟨g,0,none⟩) l.length cap) (l.modify k (fun h=>(h.1,u+-1,h.2.2)))):=HS;have hz':(u==0)=false:=beq_eq_false_iff_ne.2 hz;have HW:IntKind.i64.wrap (u - 1)=u - 1:=(by rw[IntKind.wrap_i64];omega);clear hc hb1 hu hfz HS;go_wp2_with fail;go_ret;refine⟨by rw[e2.out];rfl,by rw[e2.out,←HM.out];exact HSS.out,(Off.of_below hB).setCell (p:=⟨g,k*4+2,none⟩) (.inl (.inr rfl)) _⟩
theorem Qly (g n c i:Nat)(hi:i≤n)(hc:n≤c):∃P4 c4,(∀w:World,(Instr.slice 56 (.slice (some ⟨g,0,none⟩) n c) (some (.int .i64 (i:Int))) none none).run Tryz.prog w=.ok (.slice (some P4) (n - i) c4) w)∧(i<n→P4=⟨g,i*4,none⟩):=by
 have hj1:(0:Int)≤(i:Int):=by omega
 have hj2:(i:Int)≤(n:Int):=by omega
 by_cases hcap:c=i
 ·refine⟨⟨g,0,none⟩,c - i,fun w => ?_,fun h=>by omega⟩;go_simp
 ·by_cases h0:i=0
  ·subst h0;refine⟨⟨g,0,none⟩,c - 0,fun w => ?_,fun h=>by simp⟩;go_simp
  ·refine⟨⟨g,i*4,none⟩,c - i,fun w => ?_,fun h=>rfl⟩;go_simp
theorem Qmi (g n c i:Nat)(hi:i≤n)(hc:n≤c):∀w:World,(Instr.slice 56 (.slice (some ⟨g,0,none⟩) n c) none (some (.int .i64 (i:Int))) none).run Tryz.prog w=.ok (.slice (some ⟨g,0,none⟩) i c) w:=by
 have hj1:(0:Int)≤(i:Int):=by omega
 have hj3:(i:Int)≤(c:Int):=by omega
 intro w;go_simp
theorem Qag (W:World)(h:Hd)(t:TypeId)(B:Nat)(hB:B=W.heap.size):∀j u,(heldCells [h])[j]? = some u→(W.alloc (.cells #[.int .u32 (h.1.1:Nat),.int .i64 h.1.2,.int .i64 h.2.1,.string ⟨h.2.2.toArray⟩] t)).cell? ((⟨B,0,none⟩:Addr).add j)=some u:=by
 intro j u hj;have ha:(⟨B,0,none⟩:Addr).add j=⟨B,j,none⟩:=by unfold Addr.add;split<;>simp_all
 rw[ha];refine Zh W _ t ?_ hB;rw[←hj]
 match j with
 | 0=>rfl
 | 1=>rfl
 | 2=>rfl
 | 3=>rfl
 | j+4=>simp[heldCells]
def U5 (w:World)(B:Nat)(v:Value)(r:((Nat×Int)×Bool×Int)×List Hd)(e:Ending)(w':World):Prop:=
 ∃v',e=.returned (.tuple #[idV (r.1.1.1:Nat) r.1.1.2,.bool r.1.2.1,.int .i64 r.1.2.2])∧Qt w' B v' r.2∧(∀k,v'.ownBlock=some k→v.ownBlock=some k∨w.heap.size≤k)∧Off (Qt.Of B v) w w'
theorem Qoe (B:Nat)(v:Value)(l:List Hd)(s:ByteArray)(w:World)(hs:s.size<1∨64<s.size)(h:Qt w B v l) :
 Calls Tryz.prog 156 #[.pointer (some ⟨B,0,none⟩),.string s] w (U5 w B v (Zu l s.data.toList)):=by
 have HR:Hid (Qt w B v l):=h;have e2:Hid (Zu l s.data.toList=(((0,0),false,2),l)):=by show _=_;unfold Zu;rw[if_pos (by rw[Array.length_toList];exact hs)]
 have hB:Below w.heap.size w (w.alloc (.cells #[.int .u32 0,.int .i64 0] 25)):=(Below.refl _ w).alloc wz _;have HB:Hid (Below w.heap.size w (w.alloc (.cells #[.int .u32 0,.int .i64 0] 25))):=hB;have hX:=Blk.new w #[.int .u32 0,.int .i64 0] 25;clear h hB;rcases hs with hs|hs
 ·have h1:(s.size:Int)<1:=by omega
  go_enter Tryz.func156,Tryz.ntmps156;go_wp2_with fail;refine bodyPost_ret (v:=.tuple #[idV (0:Nat) 0,.bool false,.int .i64 2]) (by simp[results,Tryz.results156,go_sem]) rfl ?_;rw[e2.out];exact⟨v,rfl,HR.out.below HB.out,fun k hk=>.inl hk,Off.of_below HB.out⟩
 ·have h1:¬(s.size:Int)<1:=by omega
  have h2:(64:Int)<(s.size:Int):=by omega
  go_enter Tryz.func156,Tryz.ntmps156;go_wp2_with fail;refine bodyPost_ret (v:=.tuple #[idV (0:Nat) 0,.bool false,.int .i64 2]) (by simp[results,Tryz.results156,go_sem]) rfl ?_;rw[e2.out];exact⟨v,rfl,HR.out.below HB.out,fun k hk=>.inl hk,Off.of_below HB.out⟩
structure Ug (w W:World)(I B:Nat)(v:Value)(l:List Hd)(x:Nat×Int):Prop where
 below:Below w.heap.size w W
 res:Blk W w.heap.size #[.int .u32 0,.int .i64 0] 25
 id:Blk W I #[.int .u32 (x.1:Nat),.int .i64 x.2] 25
 ne:w.heap.size<I
 bin:Qt W B v l
theorem Ug.next {w W W':World}{I B:Nat}{v:Value}{l:List Hd}{x:Nat×Int}(h:Ug w W I B v l x)(hb:Below W.heap.size W W'):Ug w W' I B v l x:=
 ⟨h.below.trans (hb.mono h.below.size),h.res.next hb,h.id.next hb,h.ne,h.bin.below hb⟩
theorem Qn3 (B:Nat)(v:Value)(l:List Hd)(s:ByteArray)(w:World)(hs1:1≤s.size)(hs2:s.size≤64)(hn:l.length≤maxLen)(hu:∀h∈l,0≤h.2.1∧h.2.1≤1000000)(k:Nat)(hf:Z8 l (Qc s.data.toList)=some k)(h:Qt w B v l) :
 Calls Tryz.prog 156 #[.pointer (some ⟨B,0,none⟩),.string s] w (U5 w B v (Zu l s.data.toList)):=by
 have HR:Hid (Qt w B v l):=h;have HN:Hid (l.length≤maxLen):=hn;have HSM:Hid (s.size≤maxLen):=by show _≤_;unfold maxLen;omega
 have h1:¬(s.size:Int)<1:=by omega
 have h2:¬(64:Int)<(s.size:Int):=by omega
 obtain⟨hk,_⟩:=Jg hf;have hne:1≤l.length:=by omega
 obtain⟨hu0,hu1⟩:=hu _ (List.getElem_mem hk);have e1:Hid (Yb l (Qc s.data.toList)=(k:Int)):=by show _=_;unfold Yb;rw[hf]
 have hk0:(0:Int)≤(k:Int):=by omega
 have hk':(k:Int)<(l.length:Int):=by omega
 have HID:Hid (Qc s.data.toList=(pmore 2166136261 s.data.toList,(s.size:Int))):=by show _=_;unfold Qc;rw[Array.length_toList];rfl
 have H156:=Ki B v l (Qc s.data.toList);rw[HID.out]at H156 e1;obtain⟨P,hP⟩:∃P,pmore 2166136261 s.data.toList=P:=⟨_,rfl⟩;rw[hP]at H156 e1 HID;have HPS:Hid (pmore 2166136261 s.data.toList=P):=hP;have HF:Hid (∀(w:World),l.length≤maxLen→Qt w B v l→Calls Tryz.prog 159 #[.pointer (some ⟨B,0,none⟩),idV (P:Nat) (s.size:Int)] w fun e w'=>e=.returned (.int .i64 (Yb l (P,(s.size:Int))))∧Below w.heap.size w w'):=H156;have hs3:¬(s.data.toList.length<1∨64<s.data.toList.length):=by rw[Array.length_toList];show ¬(s.size<1∨64<s.size);omega
 have e2:Hid (Zu l s.data.toList=if l[k].2.2=s.data.toList then ((Qc s.data.toList,false,0),l.modify k (hUse 1)) else (((0,0),false,10),l)):=by show _=_;unfold Zu;rw[if_neg hs3,hf];simp only[List.getElem?_eq_getElem hk,Option.map_some,Option.some.injEq]
 have HMU:Hid (l.modify k (fun h=>(h.1,l[k].2.1+1,h.2.2))=l.modify k (hUse 1)):=Qf8 l k hk 1;clear h hn hf hu H156 hP hs3 hs1 hs2;have hX:=Blk.new w #[.int .u32 0,.int .i64 0] 25;have hB0:Below w.heap.size w (w.alloc (.cells #[.int .u32 0,.int .i64 0] 25)):=(Below.refl _ w).alloc wz _;have HX:Hid (Blk (w.alloc (.cells #[.int .u32 0,.int .i64 0] 25)) w.heap.size #[.int .u32 0,.int .i64 0] 25):=hX;have HB0:Hid (Below w.heap.size w (w.alloc (.cells #[.int .u32 0,.int .i64 0] 25))):=hB0;clear hX hB0;go_enter Tryz.func156,Tryz.ntmps156;go_wp2_with fail;refine(Qap s _ HSM.out).mono ?_;rintro e w1 ⟨rfl,hb1⟩;rw[HPS.out];have hR1:=HX.out.next hb1;have hB1:Below w.heap.size w w1:=HB0.out.trans (hb1.mono (by simp));have hz1:w.heap.size<w1.heap.size:=hR1.lt;have hal:=(Below.refl _ w1).alloc wz (.cells #[.int .u32 (P:Nat),.int .i64 (s.size:Int)] 25);have hI2:=Blk.new w1 #[.int .u32 (P:Nat),.int .i64 (s.size:Int)] 25;have hPW:Ug w (w1.alloc (.cells #[.int .u32 (P:Nat),.int .i64 (s.size:Int)] 25)) w1.heap.size B v l (P,(s.size:Int)):=⟨hB1.trans (hal.mono hB1.size),hR1.next hal,hI2,hz1,HR.out.below (hB1.trans (hal.mono hB1.size))⟩;have HPW:Hid (Ug w (w1.alloc (.cells #[.int .u32 (P:Nat),.int .i64 (s.size:Int)] 25)) w1.heap.size B v l (P,(s.size:Int))):=hPW;clear hb1 hR1 hB1 hal hI2 hPW;go_wp2_with fail;refine(HF.out _ HN.out HPW.out.bin).mono ?_;rintro e w2 ⟨rfl,hb2⟩;rw[e1.out];have hPW:=HPW.out.next hb2;generalize w1.heap.size=I at *;clear HPW hb2 HF;obtain⟨g,cap,rfl,⟨hgB,_⟩,hfz,hc⟩:=hPW.bin.open hne;have q0:=hPW.bin.blk.cell (i:=0) rfl;have i0:=hPW.id.cell (i:=0) rfl;have i1:=hPW.id.cell (i:=1) rfl;have r0:=hPW.res.cell (i:=0) rfl;have r1:=hPW.res.cell (i:=1) rfl;have fr0:=hPW.res.frozen 0;have fr1:=hPW.res.frozen 1;obtain⟨_,_,q2,q3⟩:=hc k hk;have hws:=hPW.below.size;by_cases ht:l[k].2.2=s.data.toList
 ·have hteq:(⟨l[k].2.2.toArray⟩:ByteArray)=s:=by rw[ht]
  have e3:Hid (Zu l s.data.toList=((Qc s.data.toList,false,0),l.modify k (hUse 1))):=by show _=_;rw[e2.out,if_pos ht]
  rw[hteq]at q3;have qf:=hfz (k*4+2);have HS:=hPW.bin.setUses k hk (l[k].2.1+1);obtain⟨u,hu⟩:∃u,l[k].2.1=u:=⟨_,rfl⟩;rw[hu]at q2 hu0 hu1 HS HMU;have hW:Ug w w2 I B (.slice (some ⟨g,0,none⟩) l.length cap) l (P,(s.size:Int)):=hPW;have HW2:IntKind.i64.wrap (u+1)=u+1:=by rw[IntKind.wrap_i64];omega
  have hgI:g≠I:=fun e=>by
   obtain⟨_,ho⟩:=hPW.bin.row;rcases ho with⟨he,_⟩|⟨g',cap',cur,he,_,hb,_⟩
   ·cases he
   ·have eg:g'=g:=(by simp at he;exact he.1.symm);subst eg;have hid:w2.heap[I]? = some (.cells #[.int .u32 (P:Nat),.int .i64 (s.size:Int)] 25 (0,0)):=hPW.id;rw[←e,hb]at hid;exact absurd (Obj.cells.inj (Option.some.inj hid)).2.1 (by decide)
  have hgR:g≠w.heap.size:=fun e=>by have:=HR.out.lt (k:=g) (.inr rfl);omega
  have HSS:Hid (Qt (w2.setCell ⟨g,k*4+2,none⟩ (.int .i64 (u+1))) B (.slice (some ⟨g,0,none⟩) l.length cap) (l.modify k (fun h=>(h.1,u+1,h.2.2)))):=HS;have HPWW:Hid (Ug w w2 I B (.slice (some ⟨g,0,none⟩) l.length cap) l (P,(s.size:Int))):=hPW;have s0:(w2.setCell ⟨g,k*4+2,none⟩ (.int .i64 (u+1))).cell? ⟨I,0,none⟩=some (.int .u32 (P:Nat)):=(hPW.id.other (a:=⟨g,k*4+2,none⟩) (fun e=>hgI e.symm) _).cell (i:=0) rfl;have s1:(w2.setCell ⟨g,k*4+2,none⟩ (.int .i64 (u+1))).cell? ⟨I,1,none⟩=some (.int .i64 (s.size:Int)):=(hPW.id.other (a:=⟨g,k*4+2,none⟩) (fun e=>hgI e.symm) _).cell (i:=1) rfl;have HRES:Hid (Blk (w2.setCell ⟨g,k*4+2,none⟩ (.int .i64 (u+1))) w.heap.size #[.int .u32 0,.int .i64 0] 25):=hPW.res.other (a:=⟨g,k*4+2,none⟩) (fun e=>hgR e.symm) _;have t0:=HRES.out.cell (i:=0) rfl;have t1:=HRES.out.cell (i:=1) rfl;have tf0:=HRES.out.frozen 0;have tf1:=HRES.out.frozen 1;clear hc hfz HS hu hPW e2 ht hteq hW;go_wp2_with fail;refine bodyPost_ret (v:=.tuple #[idV (P:Nat) (s.size:Int),.bool false,.int .i64 0]) (by simp[results,Tryz.results156,go_sem,t0,t1]) rfl ?_;rw[e3.out,HID.out];have hgl:=HPWW.out.bin.lt (k:=g) (.inr rfl);refine⟨.slice (some ⟨g,0,none⟩) l.length cap,rfl,?_,fun k hk=>.inl hk,(((Off.of_below HPWW.out.below).setCell (p:=⟨g,k*4+2,none⟩) (.inl (.inr rfl)) _).setCell (p:=⟨w.heap.size,0,none⟩) (.inr wz) _).setCell (p:=⟨w.heap.size,1,none⟩) (.inr wz) _⟩;rw[←HMU.out];have hnR:∀k,Qt.Of B (.slice (some ⟨g,0,none⟩) l.length cap) k→¬k=w.heap.size:=fun k hk e=>by have:=HR.out.lt hk;omega
  exact HSS.out.off (((Off.refl (fun k=>k=w.heap.size) _).setCell (p:=⟨w.heap.size,0,none⟩) (.inl rfl) _).setCell (p:=⟨w.heap.size,1,none⟩) (.inl rfl) _) hnR
 ·have hteq:((⟨l[k].2.2.toArray⟩:ByteArray).toList==s.toList)=false:=by rw[ByteArray.toList_eq,ByteArray.toList_eq,beq_eq_false_iff_ne];exact ht
  have e3:Hid (Zu l s.data.toList=(((0,0),false,10),l)):=by show _=_;rw[e2.out,if_neg ht]
  have HPWW:Hid (Ug w w2 I B (.slice (some ⟨g,0,none⟩) l.length cap) l (P,(s.size:Int))):=hPW;obtain⟨tx,htx⟩:∃tx:ByteArray,(⟨l[k].2.2.toArray⟩:ByteArray)=tx:=⟨_,rfl⟩;rw[htx]at q3 hteq;clear hc hfz hPW e2 ht htx q2;go_wp2_with fail;refine bodyPost_ret (v:=.tuple #[idV (0:Nat) 0,.bool false,.int .i64 10]) (by simp[results,Tryz.results156,go_sem,r0,r1]) rfl ?_;rw[e3.out];have hb:=(HPWW.out.below.setCell (p:=⟨w.heap.size,0,none⟩) wz (.int .u32 0)).setCell (p:=⟨w.heap.size,1,none⟩) wz (.int .i64 0);exact⟨.slice (some ⟨g,0,none⟩) l.length cap,rfl,HR.out.below hb,fun k hk=>.inl hk,Off.of_below hb⟩
theorem Qq0 (B:Nat)(v:Value)(l:List Hd)(s:ByteArray)(w:World)(hs1:1≤s.size)(hs2:s.size≤64)(hn:l.length≤maxLen)(hf:Z8 l (Qc s.data.toList)=none)(hl:250≤l.length)(h:Qt w B v l) :
 Calls Tryz.prog 156 #[.pointer (some ⟨B,0,none⟩),.string s] w (U5 w B v (Zu l s.data.toList)):=by
 have HR:Hid (Qt w B v l):=h;have HN:Hid (l.length≤maxLen):=hn;have HSM:Hid (s.size≤maxLen):=by show _≤_;unfold maxLen;omega
 have h1:¬(s.size:Int)<1:=by omega
 have h2:¬(64:Int)<(s.size:Int):=by omega
 have h3:(250:Int)≤(l.length:Int):=by omega
 have e1:Hid (Yb l (Qc s.data.toList)=-1):=by show _=_;unfold Yb;rw[hf]
 have HID:Hid (Qc s.data.toList=(pmore 2166136261 s.data.toList,(s.size:Int))):=by show _=_;unfold Qc;rw[Array.length_toList];rfl
 have HFF:=Ki B v l (Qc s.data.toList);rw[HID.out]at HFF e1;obtain⟨P,hP⟩:∃P,pmore 2166136261 s.data.toList=P:=⟨_,rfl⟩;rw[hP]at HFF e1 HID;have HPS:Hid (pmore 2166136261 s.data.toList=P):=hP;have HF:Hid (∀(w:World),l.length≤maxLen→Qt w B v l→Calls Tryz.prog 159 #[.pointer (some ⟨B,0,none⟩),idV (P:Nat) (s.size:Int)] w fun e w'=>e=.returned (.int .i64 (Yb l (P,(s.size:Int))))∧Below w.heap.size w w'):=HFF;have hs3:¬(s.data.toList.length<1∨64<s.data.toList.length):=by rw[Array.length_toList];show ¬(s.size<1∨64<s.size);omega
 have e2:Hid (Zu l s.data.toList=(((0,0),false,7),l)):=by show _=_;unfold Zu;rw[if_neg hs3,hf];simp only[hl,if_true]
 clear h hn hf HFF hP hs3 hs1 hs2 hl;have hX:=Blk.new w #[.int .u32 0,.int .i64 0] 25;have hB0:Below w.heap.size w (w.alloc (.cells #[.int .u32 0,.int .i64 0] 25)):=(Below.refl _ w).alloc wz _;have HX:Hid (Blk (w.alloc (.cells #[.int .u32 0,.int .i64 0] 25)) w.heap.size #[.int .u32 0,.int .i64 0] 25):=hX;have HB0:Hid (Below w.heap.size w (w.alloc (.cells #[.int .u32 0,.int .i64 0] 25))):=hB0;clear hX hB0;go_enter Tryz.func156,Tryz.ntmps156;go_wp2_with fail;refine(Qap s _ HSM.out).mono ?_;rintro e w1 ⟨rfl,hb1⟩;rw[HPS.out];have hR1:=HX.out.next hb1;have hB1:Below w.heap.size w w1:=HB0.out.trans (hb1.mono (by simp));have hz1:w.heap.size<w1.heap.size:=hR1.lt;have hal:=(Below.refl _ w1).alloc wz (.cells #[.int .u32 (P:Nat),.int .i64 (s.size:Int)] 25);have hI2:=Blk.new w1 #[.int .u32 (P:Nat),.int .i64 (s.size:Int)] 25;have hPW:Ug w (w1.alloc (.cells #[.int .u32 (P:Nat),.int .i64 (s.size:Int)] 25)) w1.heap.size B v l (P,(s.size:Int)):=⟨hB1.trans (hal.mono hB1.size),hR1.next hal,hI2,hz1,HR.out.below (hB1.trans (hal.mono hB1.size))⟩;have HPW:Hid (Ug w (w1.alloc (.cells #[.int .u32 (P:Nat),.int .i64 (s.size:Int)] 25)) w1.heap.size B v l (P,(s.size:Int))):=hPW;clear hb1 hR1 hB1 hal hI2 hPW;go_wp2_with fail;refine(HF.out _ HN.out HPW.out.bin).mono ?_;rintro e w2 ⟨rfl,hb2⟩;rw[e1.out];have hPW:=HPW.out.next hb2;generalize w1.heap.size=I at *;clear HPW hb2 HF;obtain⟨pa,c,hv,_⟩:=hPW.bin.at;subst hv;have q0:=hPW.bin.blk.cell (i:=0) rfl;have i0:=hPW.id.cell (i:=0) rfl;have i1:=hPW.id.cell (i:=1) rfl;have r0:=hPW.res.cell (i:=0) rfl;have r1:=hPW.res.cell (i:=1) rfl;have fr0:=hPW.res.frozen 0;have fr1:=hPW.res.frozen 1;have HPWW:Hid (Ug w w2 I B (.slice pa l.length c) l (P,(s.size:Int))):=hPW;clear hPW;go_wp2_with fail;refine bodyPost_ret (v:=.tuple #[idV (0:Nat) 0,.bool false,.int .i64 7]) (by simp[results,Tryz.results156,go_sem,r0,r1]) rfl ?_;rw[e2.out];have hb:=(HPWW.out.below.setCell (p:=⟨w.heap.size,0,none⟩) wz (.int .u32 0)).setCell (p:=⟨w.heap.size,1,none⟩) wz (.int .i64 0);exact⟨.slice pa l.length c,rfl,HR.out.below hb,fun k hk=>.inl hk,Off.of_below hb⟩
theorem Qay {w wr w5:World}{I B:Nat}{v v5:Value}{l:List Hd}{s:List UInt8}{x:Nat×Int}(HR:Qt w B v l)(hP:Ug w wr I B v l x)(hB:Below wr.heap.size wr w5)(hO:w5.ownsRow wr.heap.size 78 4 v5 (hIns l (x,1,s)).length (heldCells (hIns l (x,1,s)))) :
 U5 w B v ((x,true,0),hIns l (x,1,s)) (.returned (.tuple #[idV (x.1:Nat) x.2,.bool true,.int .i64 0])) (((w5.setCell ⟨B,0,none⟩ v5).setCell ⟨w.heap.size,0,none⟩ (.int .u32 (x.1:Nat))).setCell ⟨w.heap.size,1,none⟩ (.int .i64 x.2)):=by
 have hBl:=HR.blk.lt;have hws:=hP.below.size;have hRl:w.heap.size<wr.heap.size:=hP.res.lt;refine⟨v5,rfl,⟨?_,?_⟩,fun k hk=>.inr ?_,?_⟩
 ·refine Blk.other (Blk.other ?_ (a:=⟨w.heap.size,0,none⟩) (show B≠w.heap.size by omega) _) (a:=⟨w.heap.size,1,none⟩) (show B≠w.heap.size by omega) _;exact(hP.bin.blk.below hB hP.bin.blk.lt).set 0 v5
 ·exact Jc (ownsRow_setCell_below (ownsRow_setCell_below (ownsRow_setCell_below hO (a:=⟨B,0,none⟩) hP.bin.blk.lt _) (a:=⟨w.heap.size,0,none⟩) hRl _) (a:=⟨w.heap.size,1,none⟩) hRl _) (Nat.zero_le _)
 ·have:=(hO.lt k hk).1;omega
 ·exact(((Off.of_below (hP.below.trans (hB.mono hws))).setCell (p:=⟨B,0,none⟩) (.inl (.inl rfl)) _).setCell (p:=⟨w.heap.size,0,none⟩) (.inr wz) _).setCell (p:=⟨w.heap.size,1,none⟩) (.inr wz) _
theorem U4 {w wr w5:World}{I B:Nat}{v:Value}{l:List Hd}{x:Nat×Int}(hP:Ug w wr I B v l x)(hB:Below wr.heap.size wr w5)(hne:B≠I∧B≠w.heap.size)(u:Value) :
 (w5.setCell ⟨B,0,none⟩ u).cell? ⟨I,0,none⟩=some (.int .u32 (x.1:Nat))∧(w5.setCell ⟨B,0,none⟩ u).cell? ⟨I,1,none⟩=some (.int .i64 x.2)∧(w5.setCell ⟨B,0,none⟩ u).cell? ⟨w.heap.size,0,none⟩=some (.int .u32 0)∧(w5.setCell ⟨B,0,none⟩ u).cell? ⟨w.heap.size,1,none⟩=some (.int .i64 0) ∧
  (w5.setCell ⟨B,0,none⟩ u).frozen? ⟨w.heap.size,0,none⟩=false∧(w5.setCell ⟨B,0,none⟩ u).frozen? ⟨w.heap.size,1,none⟩=false:=by
 have h1:Blk (w5.setCell ⟨B,0,none⟩ u) I #[.int .u32 (x.1:Nat),.int .i64 x.2] 25:=(hP.id.below hB hP.id.lt).other (a:=⟨B,0,none⟩) (fun e=>hne.1 e.symm) u;have h2:Blk (w5.setCell ⟨B,0,none⟩ u) w.heap.size #[.int .u32 0,.int .i64 0] 25:=(hP.res.below hB hP.res.lt).other (a:=⟨B,0,none⟩) (fun e=>hne.2 e.symm) u;exact⟨h1.cell (i:=0) rfl,h1.cell (i:=1) rfl,h2.cell (i:=0) rfl,h2.cell (i:=1) rfl,h2.frozen 0,h2.frozen 1⟩
theorem Qpc (l:List Hd)(h:Hd)(j:Nat)(hj:j≤l.length)(hp:hPlace l h.1=j):(hIns l h).length=j+1+(l.length - j)∧heldCells (hIns l h)=heldCells (l.take j)++heldCells [h]++heldCells (l.drop j):=by
 unfold hIns;rw[hp];refine⟨by simp;omega,?_⟩;rw[Z4,List.append_assoc,show h::l.drop j=[h]++l.drop j from rfl,Z4 [h]]
theorem Qjb {w:World}{base:Nat}{e:TypeId}{v:Value}{l:List Hd}{h:Hd}{j:Nat}(hi:(hIns l h).length=j+1+(l.length - j)∧heldCells (hIns l h)=heldCells (l.take j)++heldCells [h]++heldCells (l.drop j))
 (ho:w.ownsRow base e 4 v (j+1+(l.length - j)) (heldCells (l.take j)++heldCells [h]++heldCells (l.drop j))):w.ownsRow base e 4 v (hIns l h).length (heldCells (hIns l h)):=by rw[hi.1,hi.2];exact ho
theorem Qto (B:Nat)(v:Value)(l:List Hd)(s:ByteArray)(w:World)(hs1:1≤s.size)(hs2:s.size≤64)(hf:Z8 l (Qc s.data.toList)=none)(hl:l.length<250)(h:Qt w B v l) :
 Calls Tryz.prog 156 #[.pointer (some ⟨B,0,none⟩),.string s] w (U5 w B v (Zu l s.data.toList)):=by
 obtain⟨ti,hi,hz0,hz1',hz2⟩:=info_parts Qc8;have HR:Hid (Qt w B v l):=h;have HN:Hid (l.length≤maxLen):=by show _≤_;unfold maxLen;omega
 have HL:Hid (l.length<250):=hl;have HSM:Hid (s.size≤maxLen):=by show _≤_;unfold maxLen;omega
 have h1:¬(s.size:Int)<1:=by omega
 have h2:¬(64:Int)<(s.size:Int):=by omega
 have h3:¬(250:Int)≤(l.length:Int):=by omega
 have e1:Hid (Yb l (Qc s.data.toList)=-1):=by show _=_;unfold Yb;rw[hf]
 have HID:Hid (Qc s.data.toList=(pmore 2166136261 s.data.toList,(s.size:Int))):=by show _=_;unfold Qc;rw[Array.length_toList];rfl
 have HFF:=Ki B v l (Qc s.data.toList);rw[HID.out]at HFF e1;obtain⟨P,hP⟩:∃P,pmore 2166136261 s.data.toList=P:=⟨_,rfl⟩;rw[hP]at HFF e1 HID;have HPS:Hid (pmore 2166136261 s.data.toList=P):=hP;have HF:Hid (∀(w:World),l.length≤maxLen→Qt w B v l→Calls Tryz.prog 159 #[.pointer (some ⟨B,0,none⟩),idV (P:Nat) (s.size:Int)] w fun e w'=>e=.returned (.int .i64 (Yb l (P,(s.size:Int))))∧Below w.heap.size w w'):=HFF;have hs3:¬(s.data.toList.length<1∨64<s.data.toList.length):=by rw[Array.length_toList];show ¬(s.size<1∨64<s.size);omega
 have e2:Hid (Zu l s.data.toList=(((P,(s.size:Int)),true,0),hIns l ((P,(s.size:Int)),1,s.data.toList))):=by show _=_;unfold Zu;rw[if_neg hs3,hf,HID.out];simp only[show ¬250≤l.length by omega,if_false]
 clear h hf HFF hP hs3 hs1 hs2 hl;have hX:=Blk.new w #[.int .u32 0,.int .i64 0] 25;have hB0:Below w.heap.size w (w.alloc (.cells #[.int .u32 0,.int .i64 0] 25)):=(Below.refl _ w).alloc wz _;have HX:Hid (Blk (w.alloc (.cells #[.int .u32 0,.int .i64 0] 25)) w.heap.size #[.int .u32 0,.int .i64 0] 25):=hX;have HB0:Hid (Below w.heap.size w (w.alloc (.cells #[.int .u32 0,.int .i64 0] 25))):=hB0;clear hX hB0;go_enter Tryz.func156,Tryz.ntmps156;go_wp2_with fail;refine(Qap s _ HSM.out).mono ?_;rintro e w1 ⟨rfl,hb1⟩;rw[HPS.out];have hR1:=HX.out.next hb1;have hB1:Below w.heap.size w w1:=HB0.out.trans (hb1.mono (by simp));have hz1:w.heap.size<w1.heap.size:=hR1.lt;have hal:=(Below.refl _ w1).alloc wz (.cells #[.int .u32 (P:Nat),.int .i64 (s.size:Int)] 25);have hI2:=Blk.new w1 #[.int .u32 (P:Nat),.int .i64 (s.size:Int)] 25;have hPW:Ug w (w1.alloc (.cells #[.int .u32 (P:Nat),.int .i64 (s.size:Int)] 25)) w1.heap.size B v l (P,(s.size:Int)):=⟨hB1.trans (hal.mono hB1.size),hR1.next hal,hI2,hz1,HR.out.below (hB1.trans (hal.mono hB1.size))⟩;have HPW:Hid (Ug w (w1.alloc (.cells #[.int .u32 (P:Nat),.int .i64 (s.size:Int)] 25)) w1.heap.size B v l (P,(s.size:Int))):=hPW;clear hb1 hR1 hB1 hal hI2 hPW;go_wp2_with fail;refine(HF.out _ HN.out HPW.out.bin).mono ?_;rintro e w2 ⟨rfl,hb2⟩;rw[e1.out];have hPW:=HPW.out.next hb2;have hIz:w1.heap.size<w2.heap.size:=hPW.id.lt;generalize w1.heap.size=I at *;clear HPW hb2 HF;obtain⟨pa,c,hv,_⟩:=hPW.bin.at;subst hv;have q0:=hPW.bin.blk.cell (i:=0) rfl;have i0:=hPW.id.cell (i:=0) rfl;have i1:=hPW.id.cell (i:=1) rfl;have HPW2:Hid (Ug w w2 I B (.slice pa l.length c) l (P,(s.size:Int))):=hPW;clear hPW;go_wp2_with fail
 go_loopw [9] (fun i wr=>∃j:Nat,j≤l.length∧i=.int .i64 j∧Below w2.heap.size w2 wr∧∀k (hk:k<l.length),k<j→Qo l[k].1 (P,(s.size:Int))=true) (fun i _=>l.length - (intOf i).toNat)
 case atStart=>exact⟨0,Nat.zero_le _,rfl,Below.refl _ _,fun k _ h=>by omega⟩
 case round=>
  obtain⟨j,hj,rfl,hbr,hle⟩:=hrel;have HLE:Hid (∀k (hk:k<l.length),k<j→Qo l[k].1 (P,(s.size:Int))=true):=hle;have hPW:=HPW2.out.next hbr;have HBR:Hid (Below w2.heap.size w2 wr):=hbr;clear hle hbr q0 i0 i1;have q0:=hPW.bin.blk.cell (i:=0) rfl;have i0:=hPW.id.cell (i:=0) rfl;have i1:=hPW.id.cell (i:=1) rfl;have hBI:B≠I:=by have:=HR.out.blk.lt;have:=hPW.ne;omega
  have hBR:B≠w.heap.size:=by have:=HR.out.blk.lt;omega
  have HNE:Hid (B≠I∧B≠w.heap.size):=⟨hBI,hBR⟩;have HPW3:Hid (Ug w wr I B (.slice pa l.length c) l (P,(s.size:Int))):=hPW;clear HPW2 hBI hBR;by_cases hlt:j<l.length
  ·have hlt':(j:Int)<(l.length:Int):=(by omega);obtain⟨g,cap,hv0,_,_,hcl⟩:=hPW.bin.open (by omega);obtain⟨rfl,rfl⟩:pa=some ⟨g,0,none⟩∧c=cap:=(by simpa using hv0);have hgl:g<wr.heap.size:=hPW.bin.lt (.inr rfl);have HCL:Hid (∀W',Below wr.heap.size wr W'→∀i (h:i<l.length),W'.cell? ⟨g,i*4,none⟩=some (.int .u32 (l[i].1.1:Nat))∧W'.cell? ⟨g,i*4+1,none⟩=some (.int .i64 l[i].1.2)∧W'.cell? ⟨g,i*4+2,none⟩=some (.int .i64 l[i].2.1)∧W'.cell? ⟨g,i*4+3,none⟩=some (.string ⟨l[i].2.2.toArray⟩)):=fun W' hb i hi=>by obtain⟨a0,a1,a2,a3⟩:=hcl i hi;exact⟨(hb.cell (p:=⟨g,i*4,none⟩) hgl).trans a0,(hb.cell (p:=⟨g,i*4+1,none⟩) hgl).trans a1,(hb.cell (p:=⟨g,i*4+2,none⟩) hgl).trans a2,(hb.cell (p:=⟨g,i*4+3,none⟩) hgl).trans a3⟩
   obtain⟨a0,a1,_,_⟩:=hcl j hlt;have HNX:Hid (Qo l[j].1 (P,(s.size:Int))=true→∀k (hk:k<l.length),k<j+1→Qo l[k].1 (P,(s.size:Int))=true):=fun hy k hk hkj=>by
    rcases Nat.lt_or_ge k j with h'|h'
    ·exact HLE.out k hk h'
    ·obtain rfl:k=j:=(by omega);exact hy
   have HPL0:Hid (Qo l[j].1 (P,(s.size:Int))=false→hPlace l (P,(s.size:Int))=j):=fun hy=>Qdx l _ j hj HLE.out (fun _=>hy);obtain⟨y,hy⟩:∃y,l[j].1=y:=⟨_,rfl⟩;have HY:Hid (l[j].1=y):=hy;rw[hy]at a0 a1 HNX HPL0;clear hy hcl hv0;obtain⟨yp,yl⟩:=y;obtain⟨Lb,hLb⟩:∃Lb,(if (yp:Int)=(P:Int) then decide (yl<(s.size:Int)) else decide ((yp:Int)<(P:Int)))=Lb:=⟨_,rfl⟩
   have HLb:Hid ((if (yp:Int)=(P:Int) then decide (yl<(s.size:Int)) else decide ((yp:Int)<(P:Int)))=Lb):=hLb
   have HLS:Hid (Qo (yp,yl) (P,(s.size:Int))=Lb):=hLb;clear hLb hPW;cases Lb with
   | true=>
    have HNX2:Hid (∀k (hk:k<l.length),k<j+1→Qo l[k].1 (P,(s.size:Int))=true):=HNX.out HLS.out;clear HNX HPL0;go_wp2_with fail
    go_region_held3 (fun w'=>w'.cell? ⟨B,0,none⟩=some (.slice (some ⟨g,0,none⟩) l.length c)∧w'.cell? ⟨g,j*4,none⟩=some (.int .u32 (yp:Nat))∧w'.cell? ⟨g,j*4+1,none⟩=some (.int .i64 yl)∧w'.cell? ⟨I,0,none⟩=some (.int .u32 (P:Nat))∧w'.cell? ⟨I,1,none⟩=some (.int .i64 (s.size:Int))) (go_keep) (first
     | (go_at_call 91;refine(Kj _ _ _ _ _).mono ?_;rintro e w3 ⟨rfl,hb3⟩;rw[HLb.out];have hPW3:Ug w w3 I B (.slice (some ⟨g,0,none⟩) l.length c) l (P,(s.size:Int)):=HPW3.out.next ((Below.refl _ wr).drew.trans (hb3.mono wz));have HBR3:Hid (Below w2.heap.size w2 w3):=HBR.out.trans (((Below.refl _ wr).drew.trans (hb3.mono wz)).mono HBR.out.size);have z0:=hPW3.bin.blk.cell (i:=0) rfl;have z1:=hPW3.id.cell (i:=0) rfl;have z2:=hPW3.id.cell (i:=1) rfl;obtain⟨z3,z4,_,_⟩:=HCL.out w3 ((Below.refl _ wr).drew.trans (hb3.mono wz)) j hlt;rw[HY.out]at z3 z4))
    go_wp2_with fail;go_roundw
    case rel=>exact⟨j+1,by omega,by go_num,HBR3.out,HNX2.out⟩
    case measure=>simp[intOf];omega
   | false=>
    have HPL:Hid (hPlace l (P,(s.size:Int))=j):=HPL0.out HLS.out;have HJ:Hid (j≤l.length):=hj;clear HNX HPL0;go_wp2_with fail
    go_region_held3 (fun w'=>w'.cell? ⟨B,0,none⟩=some (.slice (some ⟨g,0,none⟩) l.length c)∧w'.cell? ⟨g,j*4,none⟩=some (.int .u32 (yp:Nat))∧w'.cell? ⟨g,j*4+1,none⟩=some (.int .i64 yl)∧w'.cell? ⟨I,0,none⟩=some (.int .u32 (P:Nat))∧w'.cell? ⟨I,1,none⟩=some (.int .i64 (s.size:Int))) (go_keep) (first
     | (go_at_call 91;refine(Kj _ _ _ _ _).mono ?_;rintro e w3 ⟨rfl,hb3⟩;rw[HLb.out];have hPW3:Ug w w3 I B (.slice (some ⟨g,0,none⟩) l.length c) l (P,(s.size:Int)):=HPW3.out.next ((Below.refl _ wr).drew.trans (hb3.mono wz));have HBR3:Hid (Below w2.heap.size w2 w3):=HBR.out.trans (((Below.refl _ wr).drew.trans (hb3.mono wz)).mono HBR.out.size);have z0:=hPW3.bin.blk.cell (i:=0) rfl;have z1:=hPW3.id.cell (i:=0) rfl;have z2:=hPW3.id.cell (i:=1) rfl;obtain⟨z3,z4,_,_⟩:=HCL.out w3 ((Below.refl _ wr).drew.trans (hb3.mono wz)) j hlt;rw[HY.out]at z3 z4))
    clear HPW3 HCL HY hgl;have HPW3:Hid (Ug w w3 I B (.slice (some ⟨g,0,none⟩) l.length c) l (P,(s.size:Int))):=hPW3;clear hPW3;have hPl:=HPW3.out.bin;have HBl:Hid (B<w3.heap.size):=hPl.blk.lt;have HIl:Hid (I<w3.heap.size):=HPW3.out.id.lt;have HFZ:Hid (w3.frozen? ⟨B,0,none⟩=false):=hPl.blk.frozen 0;have HI0:Hid (w3.cell? ⟨I,0,none⟩=some (.int .u32 (P:Nat))):=HPW3.out.id.cell (i:=0) rfl;have HI1:Hid (w3.cell? ⟨I,1,none⟩=some (.int .i64 (s.size:Int))):=HPW3.out.id.cell (i:=1) rfl;have HQ0:Hid (w3.cell? ⟨B,0,none⟩=some (.slice (some ⟨g,0,none⟩) l.length c)):=hPl.blk.cell (i:=0) rfl;have HINS:Hid ((hIns l ((P,(s.size:Int)),1,s.data.toList)).length=j+1+(l.length - j)∧heldCells (hIns l ((P,(s.size:Int)),1,s.data.toList))=heldCells (l.take j)++heldCells [((P,(s.size:Int)),1,s.data.toList)]++heldCells (l.drop j)):=Qpc l ((P,(s.size:Int)),1,s.data.toList) j HJ.out HPL.out;have hcap:l.length≤c:=by
     obtain⟨_,ho⟩:=hPl.row;rcases ho with⟨hv0,_⟩|⟨g',cap',cur,hv0,_,_,hc',_⟩
     ·cases hv0
     ·obtain⟨_,rfl⟩:g=g'∧c=cap':=(by simpa using hv0);exact hc'
    obtain⟨pb,cb,hvb,hcl⟩:=hPl.at;obtain⟨rfl,rfl⟩:some (⟨g,0,none⟩:Addr)=pb∧c=cb:=(by simpa using hvb);obtain⟨P4,c4,hsl4,hP4⟩:=Qly g l.length c j HJ.out hcap;have hsl5:=Qmi g l.length c j HJ.out hcap;have HLT:Hid ((heldCells (l.take j)).length=j*4):=(by show _=_;rw[Zf,List.length_take,Nat.min_eq_left HJ.out]);have HLD:Hid ((heldCells (l.drop j)).length=(l.length - j)*4):=(by show _=_;rw[Zf,List.length_drop]);have HC:Hid (∀W',Below w3.heap.size w3 W'→∀i (h:i<l.length),W'.cell? ⟨g,0+i*4,none⟩=some (.int .u32 (l[i].1.1:Nat))∧W'.cell? ⟨g,0+i*4+1,none⟩=some (.int .i64 l[i].1.2)∧W'.cell? ⟨g,0+i*4+2,none⟩=some (.int .i64 l[i].2.1)∧W'.cell? ⟨g,0+i*4+3,none⟩=some (.string ⟨l[i].2.2.toArray⟩)):=fun W' hb i hi=>by obtain⟨b',o',hp,⟨hl',_⟩,a0,a1,a2,a3⟩:=hcl i hi;cases hp;exact⟨(hb.cell (p:=⟨g,0+i*4,none⟩) hl').trans a0,(hb.cell (p:=⟨g,0+i*4+1,none⟩) hl').trans a1,(hb.cell (p:=⟨g,0+i*4+2,none⟩) hl').trans a2,(hb.cell (p:=⟨g,0+i*4+3,none⟩) hl').trans a3⟩
    have HC1:Hid (∀W',Below w3.heap.size w3 W'→∀j' u,(heldCells (l.take j))[j']? = some u→W'.cell? ((⟨g,0,none⟩:Addr).add j')=some u):=fun W' hb=>Yf (fun i hi=>by have hi':i<l.length:=(by rw[List.length_take]at hi;omega);rw[List.getElem_take];exact HC.out W' hb i hi');have HC2:Hid (∀W',Below w3.heap.size w3 W'→∀j' u,(heldCells (l.drop j))[j']? = some u→W'.cell? (P4.add j')=some u):=fun W' hb j' u hj'=>by have hjl:j'<(heldCells (l.drop j)).length:=(List.getElem?_eq_some_iff.1 hj').1;have hjn:j<l.length:=(by rw[Zf,List.length_drop]at hjl;omega);rw[hP4 hjn];refine Yf (l:=l.drop j) (fun i hi => ?_) j' u hj';have hi':j+i<l.length:=(by rw[List.length_drop]at hi;omega);have:=HC.out W' hb (j+i) hi';rw[List.getElem_drop];rw[show 0+(j+i)*4=j*4+i*4 by omega]at this;exact this
    have HP4:Hid (j<l.length→P4=⟨g,j*4,none⟩):=hP4;clear hcl hvb hPl hP4 hcap HC;go_wp2_with (first|(at_builtin;refine wpList_append_own _ rfl (.tmp 79) (.tmp 85) 56 rfl w3.heap.size 78 ti (heldV ((0,0),0,[])) 4 40 Tryz.underlying56 hi hz0 hz1' hz2 rfl (by decide) (.slice none 0 0) 0 [] rfl (World.ownsRow_nil _ _ _ _) ⟨g,0,none⟩ j c (heldCells (l.take j)) rfl HLT.out (HC1.out w3 (Below.refl _ _)) (Zm _) (by have:=HL.out;have:=HJ.out;unfold maxLen;omega) (by have:=HL.out;have:=HJ.out;omega) wz ?_;intro v3 w6 ho3 hg3 _;rw[Nat.zero_add,List.nil_append]at ho3;have hB3:Below w3.heap.size w3 w6:=(Below.refl _ w3).grown hg3 wz (fun k hk=>by cases hk);have HO3:Hid (w6.ownsRow w3.heap.size 78 4 v3 j (heldCells (l.take j))):=ho3;have HB3:Hid (Below w3.heap.size w3 w6):=hB3;clear hg3 ho3;have q3:=(hB3.cell (p:=⟨B,0,none⟩) HBl.out).trans HQ0.out;have j0:=(hB3.cell (p:=⟨I,0,none⟩) HIl.out).trans HI0.out;have j1:=(hB3.cell (p:=⟨I,1,none⟩) HIl.out).trans HI1.out;clear hB3)|(at_builtin;refine wpList_append_own _ rfl (.tmp 87) (.tmp 91) 56 rfl w3.heap.size 78 ti (heldV ((0,0),0,[])) 4 40 Tryz.underlying56 hi hz0 hz1' hz2 rfl (by decide) v3 j (heldCells (l.take j)) rfl (HO3.out.alloc _) ⟨w6.heap.size,0,none⟩ 1 1 (heldCells [((P,(s.size:Int)),1,s.data.toList)]) rfl rfl (Qag w6 ((P,(s.size:Int)),1,s.data.toList) _ _ rfl) (Zm _) (by have:=HL.out;have:=HJ.out;unfold maxLen;omega) (by have:=HL.out;have:=HJ.out;omega) (by have:=HB3.out.size;simp;omega) ?_;intro v4 w7 ho4 hg4 _;have hB4:Below w3.heap.size w3 w7:=(HB3.out.alloc HB3.out.size _).grown hg4 (by have:=HB3.out.size;simp;omega) (fun k hk=>(HO3.out.lt k hk).1);have HO4:Hid (w7.ownsRow w3.heap.size 78 4 v4 (j+1) (heldCells (l.take j)++heldCells [((P,(s.size:Int)),1,s.data.toList)])):=ho4;have HB4:Hid (Below w3.heap.size w3 w7):=hB4;clear hg4 ho4;have q4:=(hB4.cell (p:=⟨B,0,none⟩) HBl.out).trans HQ0.out;clear hB4)|(at_builtin;refine wpList_append_own _ rfl (.tmp 94) (.tmp 100) 56 rfl w3.heap.size 78 ti (heldV ((0,0),0,[])) 4 40 Tryz.underlying56 hi hz0 hz1' hz2 rfl (by decide) v4 (j+1) _ rfl HO4.out P4 (l.length - j) c4 (heldCells (l.drop j)) rfl HLD.out (HC2.out w7 HB4.out) (Zm _) (by have:=HL.out;have:=HJ.out;unfold maxLen;omega) (by have:=HL.out;have:=HJ.out;omega) HB4.out.size ?_;intro v5 w8 ho5 hg5 _;have hB5:Below w3.heap.size w3 w8:=HB4.out.grown hg5 HB4.out.size (fun k hk=>(HO4.out.lt k hk).1);have HO5:Hid (w8.ownsRow w3.heap.size 78 4 v5 (hIns l ((P,(s.size:Int)),1,s.data.toList)).length (heldCells (hIns l ((P,(s.size:Int)),1,s.data.toList)))):=Qjb HINS.out ho5;have HB5:Hid (Below w3.heap.size w3 w8):=hB5;clear hg5 ho5;obtain⟨p5,c5,hu5,_⟩:=Q4.of_row HO5.out;subst hu5;have q5:=(hB5.cell (p:=⟨B,0,none⟩) HBl.out).trans HQ0.out;have f5:=(hB5.frozen (p:=⟨B,0,none⟩) HBl.out).trans HFZ.out;obtain⟨m0,m1,y0,y1,z0,z1⟩:=U4 HPW3.out HB5.out HNE.out (.slice p5 (hIns l ((P,(s.size:Int)),1,s.data.toList)).length c5);clear hB5));refine bodyPost_ret (v:=.tuple #[idV (P:Nat) (s.size:Int),.bool true,.int .i64 0]) (by simp[results,Tryz.results156,go_sem,y0,y1]) rfl ?_;rw[e2.out];exact Qay HR.out HPW3.out HB5.out HO5.out
  ·have hge:¬((j:Int)<(l.length:Int)):=(by omega);have HPL:Hid (hPlace l (P,(s.size:Int))=j):=Qdx l _ _ hj HLE.out (fun h=>(hlt h).elim);have HJ:Hid (j≤l.length):=hj;clear hPW;have hPl:=HPW3.out.bin;have HBl:Hid (B<wr.heap.size):=hPl.blk.lt;have HIl:Hid (I<wr.heap.size):=HPW3.out.id.lt;have HFZ:Hid (wr.frozen? ⟨B,0,none⟩=false):=hPl.blk.frozen 0;have HI0:Hid (wr.cell? ⟨I,0,none⟩=some (.int .u32 (P:Nat))):=HPW3.out.id.cell (i:=0) rfl;have HI1:Hid (wr.cell? ⟨I,1,none⟩=some (.int .i64 (s.size:Int))):=HPW3.out.id.cell (i:=1) rfl;have HQ0:Hid (wr.cell? ⟨B,0,none⟩=some (.slice pa l.length c)):=hPl.blk.cell (i:=0) rfl;have HINS:Hid ((hIns l ((P,(s.size:Int)),1,s.data.toList)).length=j+1+(l.length - j)∧heldCells (hIns l ((P,(s.size:Int)),1,s.data.toList))=heldCells (l.take j)++heldCells [((P,(s.size:Int)),1,s.data.toList)]++heldCells (l.drop j)):=Qpc l ((P,(s.size:Int)),1,s.data.toList) j HJ.out HPL.out;obtain⟨_,ho⟩:=hPl.row;rcases ho with⟨hv0,hn0⟩|⟨g,cap,cur,hv0,_,_,hcap,_⟩
   ·obtain rfl:l=[]:=List.eq_nil_of_length_eq_zero hn0;obtain⟨rfl,rfl⟩:pa=none∧c=0:=(by simpa using hv0);obtain rfl:j=0:=Nat.le_zero.1 HJ.out;clear hn0 hv0 hPl;go_wp2_with ((at_builtin;refine wpList_append_own _ rfl (.tmp 87) (.tmp 91) 56 rfl wr.heap.size 78 ti (heldV ((0,0),0,[])) 4 40 Tryz.underlying56 hi hz0 hz1' hz2 rfl (by decide) (.slice none 0 0) 0 [] rfl (World.ownsRow_nil _ _ _ _) ⟨wr.heap.size,0,none⟩ 1 1 (heldCells [((P,(s.size:Int)),1,s.data.toList)]) rfl rfl (Qag wr ((P,(s.size:Int)),1,s.data.toList) _ _ rfl) (Zm _) (by unfold maxLen;omega) (by omega) (by simp) ?_;intro v4 w4 ho4 hg4 _;have hB4:Below wr.heap.size wr w4:=((Below.refl _ wr).alloc wz _).grown hg4 (by simp) (fun k hk=>by cases hk);have HO4:Hid (w4.ownsRow wr.heap.size 78 4 v4 (hIns [] ((P,(s.size:Int)),1,s.data.toList)).length (heldCells (hIns [] ((P,(s.size:Int)),1,s.data.toList)))):=Qjb (j:=0) HINS.out (by simpa[heldCells]using ho4);have HB4:Hid (Below wr.heap.size wr w4):=hB4;clear hg4 ho4;obtain⟨g5,c5,hu5,hc5,hc6⟩:=Xq HO4.out (by rw[HINS.out.1];omega);rw[show(hIns [] ((P,(s.size:Int)),1,s.data.toList)).length=1 from HINS.out.1]at hu5 hc5;subst hu5;have q4:=(hB4.cell (p:=⟨B,0,none⟩) HBl.out).trans HQ0.out;have f4:=(hB4.frozen (p:=⟨B,0,none⟩) HBl.out).trans HFZ.out;obtain⟨m0,m1,y0,y1,z0,z1⟩:=U4 HPW3.out HB4.out HNE.out (.slice (some ⟨g5,0,none⟩) 1 c5);clear hB4));refine bodyPost_ret (v:=.tuple #[idV (P:Nat) (s.size:Int),.bool true,.int .i64 0]) (by simp[results,Tryz.results156,go_sem,y0,y1]) rfl ?_;rw[e2.out];exact Qay HR.out HPW3.out HB4.out HO4.out
   ·obtain⟨rfl,rfl⟩:pa=some ⟨g,0,none⟩∧c=cap:=(by simpa using hv0);obtain⟨pb,cb,hvb,hcl⟩:=hPl.at;obtain⟨rfl,rfl⟩:some (⟨g,0,none⟩:Addr)=pb∧c=cb:=(by simpa using hvb);obtain⟨P4,c4,hsl4,hP4⟩:=Qly g l.length c j HJ.out hcap;have hsl5:=Qmi g l.length c j HJ.out hcap;have HLT:Hid ((heldCells (l.take j)).length=j*4):=(by show _=_;rw[Zf,List.length_take,Nat.min_eq_left HJ.out]);have HLD:Hid ((heldCells (l.drop j)).length=(l.length - j)*4):=(by show _=_;rw[Zf,List.length_drop]);have HC:Hid (∀W',Below wr.heap.size wr W'→∀i (h:i<l.length),W'.cell? ⟨g,0+i*4,none⟩=some (.int .u32 (l[i].1.1:Nat))∧W'.cell? ⟨g,0+i*4+1,none⟩=some (.int .i64 l[i].1.2)∧W'.cell? ⟨g,0+i*4+2,none⟩=some (.int .i64 l[i].2.1)∧W'.cell? ⟨g,0+i*4+3,none⟩=some (.string ⟨l[i].2.2.toArray⟩)):=fun W' hb i hi=>by obtain⟨b',o',hp,⟨hl',_⟩,a0,a1,a2,a3⟩:=hcl i hi;cases hp;exact⟨(hb.cell (p:=⟨g,0+i*4,none⟩) hl').trans a0,(hb.cell (p:=⟨g,0+i*4+1,none⟩) hl').trans a1,(hb.cell (p:=⟨g,0+i*4+2,none⟩) hl').trans a2,(hb.cell (p:=⟨g,0+i*4+3,none⟩) hl').trans a3⟩
    have HC1:Hid (∀W',Below wr.heap.size wr W'→∀j' u,(heldCells (l.take j))[j']? = some u→W'.cell? ((⟨g,0,none⟩:Addr).add j')=some u):=fun W' hb=>Yf (fun i hi=>by have hi':i<l.length:=(by rw[List.length_take]at hi;omega);rw[List.getElem_take];exact HC.out W' hb i hi');have HC2:Hid (∀W',Below wr.heap.size wr W'→∀j' u,(heldCells (l.drop j))[j']? = some u→W'.cell? (P4.add j')=some u):=fun W' hb j' u hj'=>by have hjl:j'<(heldCells (l.drop j)).length:=(List.getElem?_eq_some_iff.1 hj').1;have hjn:j<l.length:=(by rw[Zf,List.length_drop]at hjl;omega);rw[hP4 hjn];refine Yf (l:=l.drop j) (fun i hi => ?_) j' u hj';have hi':j+i<l.length:=(by rw[List.length_drop]at hi;omega);have:=HC.out W' hb (j+i) hi';rw[List.getElem_drop];rw[show 0+(j+i)*4=j*4+i*4 by omega]at this;exact this
    have HP4:Hid (j<l.length→P4=⟨g,j*4,none⟩):=hP4;clear hcl hvb hv0 hPl hP4 hcap HC;go_wp2_with (first|(at_builtin;refine wpList_append_own _ rfl (.tmp 79) (.tmp 85) 56 rfl wr.heap.size 78 ti (heldV ((0,0),0,[])) 4 40 Tryz.underlying56 hi hz0 hz1' hz2 rfl (by decide) (.slice none 0 0) 0 [] rfl (World.ownsRow_nil _ _ _ _) ⟨g,0,none⟩ j c (heldCells (l.take j)) rfl HLT.out (HC1.out wr (Below.refl _ _)) (Zm _) (by have:=HL.out;have:=HJ.out;unfold maxLen;omega) (by have:=HL.out;have:=HJ.out;omega) wz ?_;intro v3 w3 ho3 hg3 _;rw[Nat.zero_add,List.nil_append]at ho3;have hB3:Below wr.heap.size wr w3:=(Below.refl _ wr).grown hg3 wz (fun k hk=>by cases hk);have HO3:Hid (w3.ownsRow wr.heap.size 78 4 v3 j (heldCells (l.take j))):=ho3;have HB3:Hid (Below wr.heap.size wr w3):=hB3;clear hg3 ho3;have q3:=(hB3.cell (p:=⟨B,0,none⟩) HBl.out).trans HQ0.out;have j0:=(hB3.cell (p:=⟨I,0,none⟩) HIl.out).trans HI0.out;have j1:=(hB3.cell (p:=⟨I,1,none⟩) HIl.out).trans HI1.out;clear hB3)|(at_builtin;refine wpList_append_own _ rfl (.tmp 87) (.tmp 91) 56 rfl wr.heap.size 78 ti (heldV ((0,0),0,[])) 4 40 Tryz.underlying56 hi hz0 hz1' hz2 rfl (by decide) v3 j (heldCells (l.take j)) rfl (HO3.out.alloc _) ⟨w3.heap.size,0,none⟩ 1 1 (heldCells [((P,(s.size:Int)),1,s.data.toList)]) rfl rfl (Qag w3 ((P,(s.size:Int)),1,s.data.toList) _ _ rfl) (Zm _) (by have:=HL.out;have:=HJ.out;unfold maxLen;omega) (by have:=HL.out;have:=HJ.out;omega) (by have:=HB3.out.size;simp;omega) ?_;intro v4 w4 ho4 hg4 _;have hB4:Below wr.heap.size wr w4:=(HB3.out.alloc HB3.out.size _).grown hg4 (by have:=HB3.out.size;simp;omega) (fun k hk=>(HO3.out.lt k hk).1);have HO4:Hid (w4.ownsRow wr.heap.size 78 4 v4 (j+1) (heldCells (l.take j)++heldCells [((P,(s.size:Int)),1,s.data.toList)])):=ho4;have HB4:Hid (Below wr.heap.size wr w4):=hB4;clear hg4 ho4;have q4:=(hB4.cell (p:=⟨B,0,none⟩) HBl.out).trans HQ0.out;clear hB4)|(at_builtin;refine wpList_append_own _ rfl (.tmp 94) (.tmp 100) 56 rfl wr.heap.size 78 ti (heldV ((0,0),0,[])) 4 40 Tryz.underlying56 hi hz0 hz1' hz2 rfl (by decide) v4 (j+1) _ rfl HO4.out P4 (l.length - j) c4 (heldCells (l.drop j)) rfl HLD.out (HC2.out w4 HB4.out) (Zm _) (by have:=HL.out;have:=HJ.out;unfold maxLen;omega) (by have:=HL.out;have:=HJ.out;omega) HB4.out.size ?_;intro v5 w5 ho5 hg5 _;have hB5:Below wr.heap.size wr w5:=HB4.out.grown hg5 HB4.out.size (fun k hk=>(HO4.out.lt k hk).1);have HO5:Hid (w5.ownsRow wr.heap.size 78 4 v5 (hIns l ((P,(s.size:Int)),1,s.data.toList)).length (heldCells (hIns l ((P,(s.size:Int)),1,s.data.toList)))):=Qjb HINS.out ho5;have HB5:Hid (Below wr.heap.size wr w5):=hB5;clear hg5 ho5;obtain⟨p5,c5,hu5,_⟩:=Q4.of_row HO5.out;subst hu5;have q5:=(hB5.cell (p:=⟨B,0,none⟩) HBl.out).trans HQ0.out;have f5:=(hB5.frozen (p:=⟨B,0,none⟩) HBl.out).trans HFZ.out;obtain⟨m0,m1,y0,y1,z0,z1⟩:=U4 HPW3.out HB5.out HNE.out (.slice p5 (hIns l ((P,(s.size:Int)),1,s.data.toList)).length c5);clear hB5));refine bodyPost_ret (v:=.tuple #[idV (P:Nat) (s.size:Int),.bool true,.int .i64 0]) (by simp[results,Tryz.results156,go_sem,y0,y1]) rfl ?_;rw[e2.out];exact Qay HR.out HPW3.out HB5.out HO5.out
end Go.Proofs.YtjngnnbondejaabGreatDoor
