/- A part. -/
import Derived.Test.YtjngnnbondejaabGreatDoorM01
import Derived.DeepKeys4
import Derived.Shelf.SlSortFuncK.WholeK
set_option maxHeartbeats 4000000
set_option maxRecDepth 100000
namespace Go.Proofs.YtjngnnbondejaabGreatDoor
open Go.RowKit
structure Off (F:Nat→Prop)(w w':World):Prop where
 os:w'.os=w.os
 tape:w'.tape=w.tape
 output:w'.output=w.output
 size:w.heap.size≤w'.heap.size
 block:∀k,k<w.heap.size→¬F k→w'.heap[k]? = w.heap[k]?
theorem Off.of_below {F:Nat→Prop}{w w':World}(h:Below w.heap.size w w'):Off F w w':=⟨h.os,h.tape,h.output,h.size,fun k hk _=>h.block k hk⟩
theorem Off.refl (F:Nat→Prop)(w:World):Off F w w:=⟨rfl,rfl,rfl,wz,fun _ _ _=>rfl⟩
theorem Off.trans {F G:Nat→Prop}{a b c:World}(h:Off F a b)(k:Off G b c)(hG:∀i,i<a.heap.size→G i→F i):Off F a c:=
 ⟨k.os.trans h.os,k.tape.trans h.tape,k.output.trans h.output,Nat.le_trans h.size k.size,fun i hi hf=>(k.block i (Nat.lt_of_lt_of_le hi h.size) (fun hg=>hf (hG i hi hg))).trans (h.block i hi hf)⟩
theorem Off.mono {F G:Nat→Prop}{a b:World}(h:Off F a b)(hG:∀i,i<a.heap.size→F i→G i):Off G a b:=⟨h.os,h.tape,h.output,h.size,fun i hi hg=>h.block i hi (fun hf=>hg (hG i hi hf))⟩
theorem Off.setCell {F:Nat→Prop}{a b:World}(h:Off F a b){p:Addr}(hp:F p.block∨a.heap.size≤p.block)(u:Value):Off F a (b.setCell p u):=
 ⟨h.os,h.tape,h.output,by simpa[World.setCell]using h.size,fun k hk hf=>(Below.heap_setCell b p u k (fun e=>by subst e;rcases hp with hp|hp;exact hf hp;omega)).trans (h.block k hk hf)⟩
theorem Off.below {F:Nat→Prop}{w w':World}{n:Nat}(h:Off F w w')(hn:n≤w.heap.size)(hF:∀k,k<n→¬F k):Below n w w':=⟨h.os,h.tape,h.output,h.size,fun k hk=>h.block k (Nat.lt_of_lt_of_le hk hn) (hF k hk)⟩
theorem Q7 {w w':World}{b:Nat}{F:Nat→Prop}(h:w.grownBy w' (some b))(hF:F b):Off F w w':=⟨h.os,h.tape,h.output,h.size,fun k hk hf=>h.block k hk (fun e=>hf (by cases e;exact hF))⟩
theorem Off.blk {F:Nat→Prop}{w w':World}(h:Off F w w'){B:Nat}{cs:Array Value}{t:TypeId}(hB:Blk w B cs t)(hn:¬F B):Blk w' B cs t:=(h.block B hB.lt hn).trans hB
theorem Off.row {F:Nat→Prop}{w w':World}(h:Off F w w'){base:Nat}{e:TypeId}{size:Nat}{v:Value}{n:Nat}{xs:List Value}(ho:w.ownsRow base e size v n xs)(hn:∀k,v.ownBlock=some k→¬F k):w'.ownsRow base e size v n xs:=by
 obtain⟨hl,ho⟩:=ho;refine⟨hl,?_⟩;rcases ho with ho|⟨g,cap,cur,rfl,hg,hb,h1,h2,h3,h4⟩
 ·exact .inl ho
 ·exact .inr ⟨g,cap,cur,rfl,hg,(h.block g (Array.getElem?_eq_some_iff.1 hb).1 (hn g rfl)).trans hb,h1,h2,h3,h4⟩
def Q4 (w:World)(v:Value)(l:List Hd):Prop:=
 ∃(p:Option Addr) (c:Nat),v=.slice p l.length c∧∀i (h:i<l.length),∃b o,p=some ⟨b,o,none⟩∧(b<w.heap.size∧l.length≤c)∧w.cell? ⟨b,o+i*4,none⟩=some (.int .u32 (l[i].1.1:Nat))∧w.cell? ⟨b,o+i*4+1,none⟩=some (.int .i64 l[i].1.2) ∧
  w.cell? ⟨b,o+i*4+2,none⟩=some (.int .i64 l[i].2.1)∧w.cell? ⟨b,o+i*4+3,none⟩=some (.string ⟨l[i].2.2.toArray⟩)
theorem Q4.below {w w':World}{v:Value}{l:List Hd}(h:Q4 w v l)(hb:Below w.heap.size w w'):Q4 w' v l:=by
 obtain⟨p,c,rfl,h⟩:=h;refine⟨p,c,rfl,fun i hi => ?_⟩;obtain⟨b,o,hp,⟨hlt,hc⟩,h1,h2,h3,h4⟩:=h i hi;exact⟨b,o,hp,⟨Nat.lt_of_lt_of_le hlt hb.size,hc⟩,(hb.cell (p:=⟨b,o+i*4,none⟩) hlt).trans h1,(hb.cell (p:=⟨b,o+i*4+1,none⟩) hlt).trans h2,(hb.cell (p:=⟨b,o+i*4+2,none⟩) hlt).trans h3,(hb.cell (p:=⟨b,o+i*4+3,none⟩) hlt).trans h4⟩
theorem Q4.off {F:Nat→Prop}{w w':World}{v:Value}{l:List Hd}(h:Q4 w v l)(ho:Off F w w')(hn:∀k,v.ownBlock=some k→¬F k):Q4 w' v l:=by
 obtain⟨p,c,rfl,h⟩:=h;refine⟨p,c,rfl,fun i hi => ?_⟩;obtain⟨b,o,rfl,⟨hlt,hc⟩,h1,h2,h3,h4⟩:=h i hi;have e:∀j,w'.cell? ⟨b,j,none⟩=w.cell? ⟨b,j,none⟩:=fun j=>World.cell?_of_block (w:=w) (ho.block b hlt (hn b rfl));exact⟨b,o,rfl,⟨Nat.lt_of_lt_of_le hlt ho.size,hc⟩,(e _).trans h1,(e _).trans h2,(e _).trans h3,(e _).trans h4⟩
theorem Q4.nil (w:World):Q4 w (.slice none 0 0) []:=⟨none,0,rfl,fun i hi=>by simp at hi⟩
theorem Q4.of_row {w:World}{base:Nat}{e:TypeId}{v:Value}{l:List Hd}(h:w.ownsRow base e 4 v l.length (heldCells l)):Q4 w v l:=by
 obtain⟨hl,h⟩:=h;rcases h with⟨rfl,h0⟩|⟨g,cap,cur,rfl,hg,hb,h1,h2,h3,h4⟩
 ·exact⟨none,0,by rw[h0],fun i hi=>by omega⟩
 ·have hgl:g<w.heap.size:=(Array.getElem?_eq_some_iff.1 hb).1;have hc:∀j u,(heldCells l)[j]? = some u→w.cell? ⟨g,0+j,none⟩=some u:=fun j u hj=>by have hjl:j<(heldCells l).length:=(List.getElem?_eq_some_iff.1 hj).1;have e1:cur.toList[j]? = some u:=(by rw[←hj,←h4,List.getElem?_take,if_pos (by omega)]);rw[Nat.zero_add];simp only[World.cell?,hb];rw[←Array.getElem?_toList,e1];simp
  exact⟨some ⟨g,0,none⟩,cap,rfl,fun i hi=>⟨g,0,rfl,⟨hgl,h1⟩,hc _ _ (J8 l i hi).1,hc _ _ (J8 l i hi).2.1,hc _ _ (J8 l i hi).2.2.1,hc _ _ (J8 l i hi).2.2.2⟩⟩
theorem Yf {W:World}{b o:Nat}{l:List Hd}(h:∀i (h:i<l.length),W.cell? ⟨b,o+i*4,none⟩=some (.int .u32 (l[i].1.1:Nat))∧W.cell? ⟨b,o+i*4+1,none⟩=some (.int .i64 l[i].1.2)∧W.cell? ⟨b,o+i*4+2,none⟩=some (.int .i64 l[i].2.1)∧W.cell? ⟨b,o+i*4+3,none⟩=some (.string ⟨l[i].2.2.toArray⟩)) :
 ∀j u,(heldCells l)[j]? = some u→W.cell? ((⟨b,o,none⟩:Addr).add j)=some u:=by
 intro j u hj;have hjl:j<(heldCells l).length:=(List.getElem?_eq_some_iff.1 hj).1;rw[Zf]at hjl;have hi:j / 4<l.length:=by omega
 have ha:(⟨b,o,none⟩:Addr).add j=⟨b,o+j,none⟩:=by unfold Addr.add;split<;>simp_all
 rw[ha];obtain⟨e0,e1,e2,e3⟩:=J8 l (j / 4) hi;obtain⟨h0,h1,h2,h3⟩:=h (j / 4) hi;have:j % 4=0∨j % 4=1∨j % 4=2∨j % 4=3:=by omega
 rcases this with hm|hm|hm|hm
 ·rw[show j / 4*4=j by omega]at e0 h0;rw[h0,←hj,e0]
 ·rw[show j / 4*4+1=j by omega]at e1;rw[Nat.add_assoc,show j / 4*4+1=j by omega]at h1;rw[h1,←hj,e1]
 ·rw[show j / 4*4+2=j by omega]at e2;rw[Nat.add_assoc,show j / 4*4+2=j by omega]at h2;rw[h2,←hj,e2]
 ·rw[show j / 4*4+3=j by omega]at e3;rw[Nat.add_assoc,show j / 4*4+3=j by omega]at h3;rw[h3,←hj,e3]
structure Qt (w:World)(B:Nat)(v:Value)(l:List Hd):Prop where
 blk:Blk w B #[v] 130
 row:w.ownsRow 0 78 4 v l.length (heldCells l)
def Qt.Of (B:Nat)(v:Value)(k:Nat):Prop:=k=B∨v.ownBlock=some k
theorem Qt.at {w:World}{B:Nat}{v:Value}{l:List Hd}(h:Qt w B v l):Q4 w v l:=Q4.of_row h.row
theorem Qt.lt {w:World}{B:Nat}{v:Value}{l:List Hd}(h:Qt w B v l){k:Nat}(hk:Qt.Of B v k):k<w.heap.size:=by
 rcases hk with rfl|hk
 ·exact h.blk.lt
 ·exact(h.row.lt k hk).2
theorem Qt.off {F:Nat→Prop}{w w':World}{B:Nat}{v:Value}{l:List Hd}(h:Qt w B v l)(ho:Off F w w')(hn:∀k,Qt.Of B v k→¬F k):Qt w' B v l:=⟨ho.blk h.blk (hn B (.inl rfl)),ho.row h.row (fun k hk=>hn k (.inr hk))⟩
theorem Qt.below {w w':World}{B:Nat}{v:Value}{l:List Hd}(h:Qt w B v l)(hb:Below w.heap.size w w'):Qt w' B v l:=h.off (Off.of_below (F:=fun _=>False) hb) (fun _ _ h=>h)
theorem Qt.apart {w:World}{B:Nat}{v:Value}{l:List Hd}(h:Qt w B v l):v.ownBlock≠some B:=by
 intro e;obtain⟨_,ho⟩:=h.row;rcases ho with⟨rfl,_⟩|⟨g,cap,cur,rfl,_,hb,_⟩
 ·cases e
 ·have eg:g=B:=by simpa[Value.ownBlock]using e
  subst eg;have hB:w.heap[g]? = some (.cells #[.slice (some ⟨g,0,none⟩) l.length cap] 130 (0,0)):=h.blk;rw[hb]at hB;have:=(Obj.cells.inj (Option.some.inj hB)).2.1;exact absurd this (by decide)
theorem Qc8:(Tryz.prog.info? 78).map (fun i=>(i.zero,i.size,i.bytes))=some (some (heldV ((0,0),0,[])),4,40):=by kernel_rfl
def Qq (c:UInt8):Bool:=decide ((97≤c.toNat∧c.toNat≤122)∨(48≤c.toNat∧c.toNat≤57)∨c.toNat=46∨c.toNat=45)
def Qj (l:List UInt8):Bool:=l.all Qq&&(decide (1≤l.length)&&decide (l.length≤12))
theorem Kg {l:List UInt8}{k:Nat}{c:UInt8}(h:l[k]? = some c)(hc:Qq c=false):Qj l=false:=by
 unfold Qj;rw[Bool.and_eq_false_iff];left;rw[List.all_eq_false];exact⟨c,List.mem_of_getElem? h,by rw[hc];simp⟩
theorem Ku {l:List UInt8}{k:Nat}{c:UInt8}(h:(l.take k).all Qq=true)(hg:l[k]? = some c)(hc:Qq c=true):(l.take (k+1)).all Qq=true:=by
 obtain⟨hk,rfl⟩:=List.getElem?_eq_some_iff.1 hg;rw[List.take_succ_eq_append_getElem hk,List.all_append,h];simp[hc]
theorem cases8 (x:Int):x<45∨x=45∨x=46∨x=47∨(48≤x∧x≤57)∨(58≤x∧x≤96)∨(97≤x∧x≤122)∨123≤x:=by
 rcases Int.lt_or_le x 45 with h|h
 ·exact .inl h
 ·omega
theorem Gx (s:ByteArray)(hs:s.size≤maxLen)(w:World) :
 Calls Tryz.prog 228 #[.string s] w fun e w'=>e=.returned (.bool (Qj s.data.toList))∧w'=w:=by
 have HSL:Hid (s.data.toList.length=s.size):=by show _=_;rw[Array.length_toList];rfl
 have hs2:(s.size:Int)≤9223372036854775807:=by unfold maxLen at hs;omega
 clear hs;go_enter Tryz.func228,Tryz.ntmps228;go_wp2_with fail
 go_loopw [3] (fun i wr=>∃(k:Nat),k≤s.size∧i=.int .i64 k∧(s.data.toList.take k).all Qq=true∧wr=w) (fun i _=>s.size - (intOf i).toNat)
 case atStart=>exact⟨0,Nat.zero_le _,rfl,rfl,rfl⟩
 case round=>
  obtain⟨k,hk,rfl,ht,rfl⟩:=hrel;have HT:Hid ((s.data.toList.take k).all Qq=true):=ht;clear ht;by_cases hlt:k<s.size
  ·have HG:Hid (s.data.toList[k]? = some s[k]):=(by show _=_;rw[List.getElem?_eq_getElem (by rw[HSL.out];exact hlt)];rfl);have hlt':(k:Int)<(s.size:Int):=(by omega);rcases cases8 (s[k].toNat:Int)with hx|hx|hx|hx|hx|hx|hx|hx
   ·
    have f1:(s[k].toNat:Int)<97:=(by omega);have f2:(s[k].toNat:Int)≤122:=(by omega);have f3:(s[k].toNat:Int)<48:=(by omega);have f4:(s[k].toNat:Int)≤57:=(by omega);have f5:((s[k].toNat:Int)==46)=false:=(by rw[beq_eq_false_iff_ne];omega);have f6:((s[k].toNat:Int)==45)=false:=(by rw[beq_eq_false_iff_ne];omega);have e1:decide (97≤(s[k].toNat:Int))=false:=(by simp;omega);have e2:decide ((s[k].toNat:Int)≤122)=true:=(by simp;omega);have e3:decide (48≤(s[k].toNat:Int))=false:=(by simp;omega);have e4:decide ((s[k].toNat:Int)≤57)=true:=(by simp;omega);have g5:((s[k].toNat:Int) != 46)=true:=(by rw[bne,f5];rfl);have g6:((s[k].toNat:Int) != 45)=true:=(by rw[bne,f6];rfl);have HY:Hid (Qq s[k]=false):=(by show _=_;unfold Qq;simp only[decide_eq_false_iff_not];omega);clear hx;go_wp2_with fail;go_ret;exact⟨by rw[Kg (HG.out) HY.out];rfl,rfl⟩
   ·
    have f1:(s[k].toNat:Int)<97:=(by omega);have f2:(s[k].toNat:Int)≤122:=(by omega);have f3:(s[k].toNat:Int)<48:=(by omega);have f4:(s[k].toNat:Int)≤57:=(by omega);have f5:((s[k].toNat:Int)==46)=false:=(by rw[beq_eq_false_iff_ne];omega);have f6:((s[k].toNat:Int)==45)=true:=(by rw[beq_iff_eq];omega);have e1:decide (97≤(s[k].toNat:Int))=false:=(by simp;omega);have e2:decide ((s[k].toNat:Int)≤122)=true:=(by simp;omega);have e3:decide (48≤(s[k].toNat:Int))=false:=(by simp;omega);have e4:decide ((s[k].toNat:Int)≤57)=true:=(by simp;omega);have g5:((s[k].toNat:Int) != 46)=true:=(by rw[bne,f5];rfl);have g6:((s[k].toNat:Int) != 45)=false:=(by rw[bne,f6];rfl);have HY:Hid (Qq s[k]=true):=(by show _=_;unfold Qq;simp only[decide_eq_true_eq];omega);clear hx;go_wp2_with fail;go_roundw
    case rel=>exact⟨k+1,by omega,by go_num,Ku HT.out (HG.out) HY.out,trivial⟩
    case measure=>simp[intOf];omega
   ·
    have f1:(s[k].toNat:Int)<97:=(by omega);have f2:(s[k].toNat:Int)≤122:=(by omega);have f3:(s[k].toNat:Int)<48:=(by omega);have f4:(s[k].toNat:Int)≤57:=(by omega);have f5:((s[k].toNat:Int)==46)=true:=(by rw[beq_iff_eq];omega);have f6:((s[k].toNat:Int)==45)=false:=(by rw[beq_eq_false_iff_ne];omega);have e1:decide (97≤(s[k].toNat:Int))=false:=(by simp;omega);have e2:decide ((s[k].toNat:Int)≤122)=true:=(by simp;omega);have e3:decide (48≤(s[k].toNat:Int))=false:=(by simp;omega);have e4:decide ((s[k].toNat:Int)≤57)=true:=(by simp;omega);have g5:((s[k].toNat:Int) != 46)=false:=(by rw[bne,f5];rfl);have g6:((s[k].toNat:Int) != 45)=true:=(by rw[bne,f6];rfl);have HY:Hid (Qq s[k]=true):=(by show _=_;unfold Qq;simp only[decide_eq_true_eq];omega);clear hx;go_wp2_with fail;go_roundw
    case rel=>exact⟨k+1,by omega,by go_num,Ku HT.out (HG.out) HY.out,trivial⟩
    case measure=>simp[intOf];omega
   ·
    have f1:(s[k].toNat:Int)<97:=(by omega);have f2:(s[k].toNat:Int)≤122:=(by omega);have f3:(s[k].toNat:Int)<48:=(by omega);have f4:(s[k].toNat:Int)≤57:=(by omega);have f5:((s[k].toNat:Int)==46)=false:=(by rw[beq_eq_false_iff_ne];omega);have f6:((s[k].toNat:Int)==45)=false:=(by rw[beq_eq_false_iff_ne];omega);have e1:decide (97≤(s[k].toNat:Int))=false:=(by simp;omega);have e2:decide ((s[k].toNat:Int)≤122)=true:=(by simp;omega);have e3:decide (48≤(s[k].toNat:Int))=false:=(by simp;omega);have e4:decide ((s[k].toNat:Int)≤57)=true:=(by simp;omega);have g5:((s[k].toNat:Int) != 46)=true:=(by rw[bne,f5];rfl);have g6:((s[k].toNat:Int) != 45)=true:=(by rw[bne,f6];rfl);have HY:Hid (Qq s[k]=false):=(by show _=_;unfold Qq;simp only[decide_eq_false_iff_not];omega);clear hx;go_wp2_with fail;go_ret;exact⟨by rw[Kg (HG.out) HY.out];rfl,rfl⟩
   ·
    have f1:(s[k].toNat:Int)<97:=(by omega);have f2:(s[k].toNat:Int)≤122:=(by omega);have f3:48≤(s[k].toNat:Int):=(by omega);have f4:(s[k].toNat:Int)≤57:=(by omega);have f5:((s[k].toNat:Int)==46)=false:=(by rw[beq_eq_false_iff_ne];omega);have f6:((s[k].toNat:Int)==45)=false:=(by rw[beq_eq_false_iff_ne];omega);have e1:decide (97≤(s[k].toNat:Int))=false:=(by simp;omega);have e2:decide ((s[k].toNat:Int)≤122)=true:=(by simp;omega);have e3:decide (48≤(s[k].toNat:Int))=true:=(by simp;omega);have e4:decide ((s[k].toNat:Int)≤57)=true:=(by simp;omega);have g5:((s[k].toNat:Int) != 46)=true:=(by rw[bne,f5];rfl);have g6:((s[k].toNat:Int) != 45)=true:=(by rw[bne,f6];rfl);have HY:Hid (Qq s[k]=true):=(by show _=_;unfold Qq;simp only[decide_eq_true_eq];omega);clear hx;go_wp2_with fail;go_roundw
    case rel=>exact⟨k+1,by omega,by go_num,Ku HT.out (HG.out) HY.out,trivial⟩
    case measure=>simp[intOf];omega
   ·
    have f1:(s[k].toNat:Int)<97:=(by omega);have f2:(s[k].toNat:Int)≤122:=(by omega);have f3:48≤(s[k].toNat:Int):=(by omega);have f4:57<(s[k].toNat:Int):=(by omega);have f5:((s[k].toNat:Int)==46)=false:=(by rw[beq_eq_false_iff_ne];omega);have f6:((s[k].toNat:Int)==45)=false:=(by rw[beq_eq_false_iff_ne];omega);have e1:decide (97≤(s[k].toNat:Int))=false:=(by simp;omega);have e2:decide ((s[k].toNat:Int)≤122)=true:=(by simp;omega);have e3:decide (48≤(s[k].toNat:Int))=true:=(by simp;omega);have e4:decide ((s[k].toNat:Int)≤57)=false:=(by simp;omega);have g5:((s[k].toNat:Int) != 46)=true:=(by rw[bne,f5];rfl);have g6:((s[k].toNat:Int) != 45)=true:=(by rw[bne,f6];rfl);have HY:Hid (Qq s[k]=false):=(by show _=_;unfold Qq;simp only[decide_eq_false_iff_not];omega);clear hx;go_wp2_with fail;go_ret;exact⟨by rw[Kg (HG.out) HY.out];rfl,rfl⟩
   ·
    have f1:97≤(s[k].toNat:Int):=(by omega);have f2:(s[k].toNat:Int)≤122:=(by omega);have f3:48≤(s[k].toNat:Int):=(by omega);have f4:57<(s[k].toNat:Int):=(by omega);have f5:((s[k].toNat:Int)==46)=false:=(by rw[beq_eq_false_iff_ne];omega);have f6:((s[k].toNat:Int)==45)=false:=(by rw[beq_eq_false_iff_ne];omega);have e1:decide (97≤(s[k].toNat:Int))=true:=(by simp;omega);have e2:decide ((s[k].toNat:Int)≤122)=true:=(by simp;omega);have e3:decide (48≤(s[k].toNat:Int))=true:=(by simp;omega);have e4:decide ((s[k].toNat:Int)≤57)=false:=(by simp;omega);have g5:((s[k].toNat:Int) != 46)=true:=(by rw[bne,f5];rfl);have g6:((s[k].toNat:Int) != 45)=true:=(by rw[bne,f6];rfl);have HY:Hid (Qq s[k]=true):=(by show _=_;unfold Qq;simp only[decide_eq_true_eq];omega);clear hx;go_wp2_with fail;go_roundw
    case rel=>exact⟨k+1,by omega,by go_num,Ku HT.out (HG.out) HY.out,trivial⟩
    case measure=>simp[intOf];omega
   ·
    have f1:97≤(s[k].toNat:Int):=(by omega);have f2:122<(s[k].toNat:Int):=(by omega);have f3:48≤(s[k].toNat:Int):=(by omega);have f4:57<(s[k].toNat:Int):=(by omega);have f5:((s[k].toNat:Int)==46)=false:=(by rw[beq_eq_false_iff_ne];omega);have f6:((s[k].toNat:Int)==45)=false:=(by rw[beq_eq_false_iff_ne];omega);have e1:decide (97≤(s[k].toNat:Int))=true:=(by simp;omega);have e2:decide ((s[k].toNat:Int)≤122)=false:=(by simp;omega);have e3:decide (48≤(s[k].toNat:Int))=true:=(by simp;omega);have e4:decide ((s[k].toNat:Int)≤57)=false:=(by simp;omega);have g5:((s[k].toNat:Int) != 46)=true:=(by rw[bne,f5];rfl);have g6:((s[k].toNat:Int) != 45)=true:=(by rw[bne,f6];rfl);have HY:Hid (Qq s[k]=false):=(by show _=_;unfold Qq;simp only[decide_eq_false_iff_not];omega);clear hx;go_wp2_with fail;go_ret;exact⟨by rw[Kg (HG.out) HY.out];rfl,rfl⟩
  ·have hge:(s.size:Int)≤(k:Int):=(by omega);have hall:s.data.toList.all Qq=true:=(by have:=HT.out;rwa [List.take_of_length_le (by rw[HSL.out];omega)]at this);have HN:Hid (Qj s.data.toList=(decide (1≤s.size)&&decide (s.size≤12))):=(by show _=_;unfold Qj;rw[hall,HSL.out,Bool.true_and]);clear hall;by_cases h1:1≤s.size
   ·have h1':(1:Int)≤(s.size:Int):=(by omega);by_cases h12:s.size≤12
    ·have h12':(s.size:Int)≤12:=(by omega);have h12d:decide ((s.size:Int)≤12)=true:=(by simp;omega);have HV:Hid (Qj s.data.toList=true):=(by show _=_;rw[HN.out];simp[h1,h12]);clear h1 h12;go_wp2_with fail;go_ret;exact⟨by rw[HV.out];rfl,rfl⟩
    ·have h12':(12:Int)<(s.size:Int):=(by omega);have h12d:decide ((s.size:Int)≤12)=false:=(by simp;omega);have HV:Hid (Qj s.data.toList=false):=(by show _=_;rw[HN.out];simp;omega);clear h1 h12;go_wp2_with fail;go_ret;exact⟨by rw[HV.out];rfl,rfl⟩
   ·have h1':(s.size:Int)<1:=(by omega);have HV:Hid (Qj s.data.toList=false):=(by show _=_;rw[HN.out];simp;omega);clear h1;go_wp2_with fail;go_ret;exact⟨by rw[HV.out];rfl,rfl⟩
abbrev Qwc (c a:Int):Value:=.agg #[.int .i64 c,.int .i64 a]
def Q3 (w:World)(v:Value)(ids:List (Nat×Int)):Prop:=
 ∃(p:Option Addr) (c:Nat),v=.slice p ids.length c∧∀i (h:i<ids.length),∃b o,p=some ⟨b,o,none⟩∧b<w.heap.size∧w.cell? ⟨b,o+i*2,none⟩=some (.int .u32 (ids[i].1:Nat))∧w.cell? ⟨b,o+i*2+1,none⟩=some (.int .i64 ids[i].2)
theorem Q3.below {w w':World}{v:Value}{ids:List (Nat×Int)}(h:Q3 w v ids)(hb:Below w.heap.size w w'):Q3 w' v ids:=by
 obtain⟨p,c,rfl,h⟩:=h;refine⟨p,c,rfl,fun i hi => ?_⟩;obtain⟨b,o,hp,hlt,h1,h2⟩:=h i hi;exact⟨b,o,hp,Nat.lt_of_lt_of_le hlt hb.size,(hb.cell (p:=⟨b,o+i*2,none⟩) hlt).trans h1,(hb.cell (p:=⟨b,o+i*2+1,none⟩) hlt).trans h2⟩
abbrev rcpV (nm:ByteArray)(len p:Int)(v:Value):Value:=.agg #[.string nm,.int .i64 len,.int .u32 p,v]
def qo (x:Nat×Int):Bool:=decide (1≤x.2∧x.2≤64)
def Ji:Nat→List (Nat×Int)→Option Nat
 | _,[]=>none
 | i,x::r=>if qo x=true then Ji (i+1) r else some i
def Jr (ids:List (Nat×Int)):Int:=(ids.map (·.2)).sum
def Qb (nm:List UInt8)(len:Int)(ids:List (Nat×Int)):Int×Int:=
 if Qj nm=false then (4,-1) else if len<0∨4000<len then (2,-1) else if 250<ids.length then (7,-1) else
  match Ji 0 ids with
  | some i=>(3,(i:Int))
  | none=>if Jr ids=len then (0,-1) else (9,-1)
theorem Qad:∀(ids:List (Nat×Int)) (i k:Nat) (h:k<ids.length),(∀j (hj:j<k),qo (ids[j]'(by omega))=true)→qo ids[k]=false→Ji i ids=some (i+k)
 | [],_,_,h,_,_=>by simp at h
 | x::r,i,0,_,_,hb=>by have hb':qo x=false:=hb;rw[Ji,hb'];rfl
 | x::r,i,k+1,h,ha,hb=>by have h0:qo x=true:=ha 0 (by omega);rw[Ji,if_pos h0,Qad r (i+1) k (by simpa using h) (fun j hj=>by have:=ha (j+1) (by omega);simpa using this) (by simpa using hb)];congr 1;omega
theorem Gw:∀(ids:List (Nat×Int)) (i:Nat),(∀j (hj:j<ids.length),qo ids[j]=true)→Ji i ids=none
 | [],_,_=>rfl
 | x::r,i,ha=>by have h0:qo x=true:=ha 0 (by simp);rw[Ji,if_pos h0,Gw r (i+1) (fun j hj=>by have:=ha (j+1) (by simpa using hj);simpa using this)]
theorem Qk2 (ids:List (Nat×Int))(k:Nat)(h:k<ids.length):Jr (ids.take (k+1))=Jr (ids.take k)+ids[k].2:=by
 rw[List.take_succ_eq_append_getElem h,Jr,List.map_append,List.sum_append];simp[Jr]
theorem Qg8 {nm:List UInt8}(len:Int)(ids:List (Nat×Int))(h:Qj nm=false):Qb nm len ids=(4,-1):=by unfold Qb;rw[if_pos h]
theorem Qcs {nm:List UInt8}{len:Int}(ids:List (Nat×Int))(h:Qj nm=true)(h2:len<0∨4000<len):Qb nm len ids=(2,-1):=by
 unfold Qb;rw[if_neg (by rw[h];simp),if_pos h2]
theorem Qh2 {nm:List UInt8}{len:Int}{ids:List (Nat×Int)}(h:Qj nm=true)(h2:¬(len<0∨4000<len))(h3:250<ids.length):Qb nm len ids=(7,-1):=by
 unfold Qb;rw[if_neg (by rw[h];simp),if_neg h2,if_pos h3]
theorem Qab {nm:List UInt8}{len:Int}{ids:List (Nat×Int)}(h:Qj nm=true)(h2:¬(len<0∨4000<len))(h3:¬250<ids.length){i:Nat}(h4:Ji 0 ids=some i):Qb nm len ids=(3,(i:Int)):=by
 unfold Qb;rw[if_neg (by rw[h];simp),if_neg h2,if_neg h3,h4]
theorem Qjd {nm:List UInt8}{len:Int}{ids:List (Nat×Int)}(h:Qj nm=true)(h2:¬(len<0∨4000<len))(h3:¬250<ids.length)(h4:Ji 0 ids=none)(h5:Jr ids≠len):Qb nm len ids=(9,-1):=by
 unfold Qb;rw[if_neg (by rw[h];simp),if_neg h2,if_neg h3,h4];simp only;rw[if_neg h5]
theorem Qbe {nm:List UInt8}{len:Int}{ids:List (Nat×Int)}(h:Qj nm=true)(h2:¬(len<0∨4000<len))(h3:¬250<ids.length)(h4:Ji 0 ids=none)(h5:Jr ids=len):Qb nm len ids=(0,-1):=by
 unfold Qb;rw[if_neg (by rw[h];simp),if_neg h2,if_neg h3,h4];simp only;rw[if_pos h5]
structure Qch (w W:World)(nm:ByteArray)(len p:Int)(v:Value):Prop where
 below:Below w.heap.size w W
 size:w.heap.size+1<W.heap.size
 b0:W.cell? ⟨w.heap.size,0,none⟩=some (.string nm)
 b1:W.cell? ⟨w.heap.size,1,none⟩=some (.int .i64 len)
 b2:W.cell? ⟨w.heap.size,2,none⟩=some (.int .u32 p)
 b3:W.cell? ⟨w.heap.size,3,none⟩=some v
 r0:W.cell? ⟨w.heap.size+1,0,none⟩=some (.int .i64 0)
 r1:W.cell? ⟨w.heap.size+1,1,none⟩=some (.int .i64 0)
 f0:W.frozen? ⟨w.heap.size+1,0,none⟩=false
 f1:W.frozen? ⟨w.heap.size+1,1,none⟩=false
theorem Qch.new (w:World)(nm:ByteArray)(len p:Int)(v:Value)(t t':TypeId):Qch w ((w.alloc (.cells #[.string nm,.int .i64 len,.int .u32 p,v] t)).alloc (.cells #[.int .i64 0,.int .i64 0] t')) nm len p v where
 below:=((Below.refl _ w).alloc wz _).alloc (by simp) _
 size:=by simp
 b0:=by rw[World.cell?_alloc_lt _ _ ⟨w.heap.size,0,none⟩ (by simp)];simp
 b1:=by rw[World.cell?_alloc_lt _ _ ⟨w.heap.size,1,none⟩ (by simp)];simp
 b2:=by rw[World.cell?_alloc_lt _ _ ⟨w.heap.size,2,none⟩ (by simp)];simp
 b3:=by rw[World.cell?_alloc_lt _ _ ⟨w.heap.size,3,none⟩ (by simp)];simp
 r0:=by simp
 r1:=by simp
 f0:=by simp
 f1:=by simp
theorem Qch.next {w W W':World}{nm:ByteArray}{len p:Int}{v:Value}(h:Qch w W nm len p v)(hb:Below W.heap.size W W'):Qch w W' nm len p v:=by
 have hs:=h.size;have hs':=hb.size;exact⟨h.below.trans (hb.mono h.below.size),by omega,(hb.cell (p:=⟨_,0,none⟩) (by simp;omega)).trans h.b0,(hb.cell (p:=⟨_,1,none⟩) (by simp;omega)).trans h.b1,(hb.cell (p:=⟨_,2,none⟩) (by simp;omega)).trans h.b2,(hb.cell (p:=⟨_,3,none⟩) (by simp;omega)).trans h.b3,
  (hb.cell (p:=⟨_,0,none⟩) (by simp;omega)).trans h.r0,(hb.cell (p:=⟨_,1,none⟩) (by simp;omega)).trans h.r1,(hb.frozen (p:=⟨_,0,none⟩) (by simp;omega)).trans h.f0,(hb.frozen (p:=⟨_,1,none⟩) (by simp;omega)).trans h.f1⟩
def Qbn (w:World)(a:Nat→Addr)(v:Value)(f:Int×Int):Prop:=
 (v=.nilIface∧f=(0,-1))∨(∃k:Nat,k<12∧v=sentV a k∧f=((k:Int)+1,-1)) ∨
 (∃(k pb po:Nat) (at0:Int),k<12∧v=.iface 223 (.pointer (some ⟨pb,po,none⟩))∧w.cell? ⟨pb,po,none⟩=some (.int .i64 at0)∧w.cell? ⟨pb,po+1,none⟩=some (sentV a k)∧f=((k:Int)+1,at0))
theorem Qbn.below {w w':World}{a:Nat→Addr}{v:Value}{f:Int×Int}(h:Qbn w a v f)(hb:Below w.heap.size w w'):Qbn w' a v f:=by
 rcases h with h|h|⟨k,pb,po,at0,hk,hv,h0,h1,hf⟩
 ·exact .inl h
 ·exact .inr (.inl h)
 ·exact .inr (.inr ⟨k,pb,po,at0,hk,hv,(hb.cell (p:=⟨pb,po,none⟩) (lt_of_cell h0)).trans h0,(hb.cell (p:=⟨pb,po+1,none⟩) (lt_of_cell h1)).trans h1,hf⟩)
def Qp (base:Nat)(w:World)(a:Nat→Addr)(v:Value)(f:Int×Int):Prop:=
 (v=.nilIface∧f=(0,-1))∨(∃k:Nat,k<12∧v=sentV a k∧f=((k:Int)+1,-1)) ∨
 (∃(k pb po:Nat) (at0:Int),k<12∧base≤pb∧v=.iface 223 (.pointer (some ⟨pb,po,none⟩))∧w.cell? ⟨pb,po,none⟩=some (.int .i64 at0)∧w.cell? ⟨pb,po+1,none⟩=some (sentV a k)∧f=((k:Int)+1,at0))
theorem Qp.at {base:Nat}{w:World}{a:Nat→Addr}{v:Value}{f:Int×Int}(h:Qp base w a v f):Qbn w a v f:=by
 rcases h with h|h|⟨k,pb,po,at0,hk,_,hv,h0,h1,hf⟩
 ·exact .inl h
 ·exact .inr (.inl h)
 ·exact .inr (.inr ⟨k,pb,po,at0,hk,hv,h0,h1,hf⟩)
theorem Qp.below {base:Nat}{w w':World}{a:Nat→Addr}{v:Value}{f:Int×Int}(h:Qp base w a v f)(hb:Below w.heap.size w w'):Qp base w' a v f:=by
 rcases h with h|h|⟨k,pb,po,at0,hk,hl,hv,h0,h1,hf⟩
 ·exact .inl h
 ·exact .inr (.inl h)
 ·exact .inr (.inr ⟨k,pb,po,at0,hk,hl,hv,(hb.cell (p:=⟨pb,po,none⟩) (lt_of_cell h0)).trans h0,(hb.cell (p:=⟨pb,po+1,none⟩) (lt_of_cell h1)).trans h1,hf⟩)
theorem Qp.setCell {base:Nat}{w:World}{a:Nat→Addr}{v:Value}{f:Int×Int}(h:Qp base w a v f){x:Addr}(hx:x.block<base)(u:Value):Qp base (w.setCell x u) a v f:=by
 rcases h with h|h|⟨k,pb,po,at0,hk,hl,hv,h0,h1,hf⟩
 ·exact .inl h
 ·exact .inr (.inl h)
 ·have hn:∀j,x≠⟨pb,j,none⟩:=fun j e=>by rw[e]at hx;simp at hx;omega
  exact .inr (.inr ⟨k,pb,po,at0,hk,hl,hv,by rw[World.cell?_setCell_other _ _ _ _ (hn _)];exact h0,by rw[World.cell?_setCell_other _ _ _ _ (hn _)];exact h1,hf⟩)
theorem Qp.nil {base:Nat}{w:World}{a:Nat→Addr}{v:Value}{x:Int}(h:Qp base w a v (0,x)):v=.nilIface:=by
 rcases h with h|⟨k,_,_,hf⟩|⟨k,pb,po,at0,_,_,_,_,_,hf⟩
 ·exact h.1
 ·have:=congrArg Prod.fst hf;simp only at this;omega
 ·have:=congrArg Prod.fst hf;simp only at this;omega
theorem Qp.some {base:Nat}{w:World}{a:Nat→Addr}{v:Value}{c x:Int}(h:Qp base w a v (c,x))(hc:c≠0):∃t q,v=.iface t (.pointer q):=by
 rcases h with⟨_,hf⟩|⟨k,_,hv,_⟩|⟨k,pb,po,at0,_,_,hv,_⟩
 ·exact(hc (Prod.mk.inj hf).1).elim
 ·exact⟨_,_,hv⟩
 ·exact⟨_,_,hv⟩
theorem Qbn.code {w:World}{a:Nat→Addr}{v:Value}{f:Int×Int}(h:Qbn w a v f)(hE:J6 w a) :
 Calls Tryz.prog 81 #[v] w fun e w'=>e=.returned (.tuple #[.int .i64 f.1,.int .i64 f.2])∧Below w.heap.size w w':=by
 rcases h with⟨rfl,rfl⟩|⟨k,hk,rfl,rfl⟩|⟨k,pb,po,at0,hk,rfl,h0,h1,rfl⟩
 ·exact(Qs6 w).mono fun e w' ⟨h1,h2⟩=>⟨h1,by rw[h2];exact Below.refl _ _⟩
 ·exact Qqf a k hk w hE
 ·exact Qm9 a k hk pb po at0 w hE h0 h1
def Qxb (nm:ByteArray)(ids:List (Nat×Int)):Int:=if 30<nm.size∨(60<ids.length∧ids.length≠251) then 1 else 0
def Qal (l:List Hd)(x:Nat×Int):List UInt8×Int:=match Z8 l x with|some k=>((l[k]?.map (·.2.2)).getD [],0)|none=>([],5)
abbrev Qdm:=World→Addr→(Nat→Prop)→List Hd→Prop
structure Us (a:Nat→Addr)(Env:World→Prop)(PB:Qdm):Prop where
 stable:∀{w w':World},Env w→Below w.heap.size w w'→Env w'
 lt:∀{w:World} {p:Addr} {F:Nat→Prop} {l:List Hd},PB w p F l→∀k,F k→k<w.heap.size
 off:∀{w w':World} {p:Addr} {F G:Nat→Prop} {l:List Hd},PB w p F l→Off G w w'→(∀k,F k→¬G k)→PB w' p F l
 new:∀(w:World),Env w→Calls Tryz.prog 97 #[] w fun e w'=>∃p F,e=.returned (.pointer (some p))∧PB w' p F []∧(∀k,F k→w.heap.size≤k)∧Below w.heap.size w w'
 put:∀(s:ByteArray) (p:Addr) (F:Nat→Prop) (l:List Hd) (w:World),s.size≤50000→Qd 1000000 l→Env w→PB w p F l→Calls Tryz.prog 176 #[.pointer (some p),.string s] w fun e w'=>∃ev F',e=.returned (.tuple #[idV ((Zu l s.data.toList).1.1.1:Nat) (Zu l s.data.toList).1.1.2,.bool (Zu l s.data.toList).1.2.1,ev])∧Qp w.heap.size w' a ev ((Zu l s.data.toList).1.2.2,-1)∧PB w' p F' (Zu l s.data.toList).2∧(∀k,F' k→F k∨w.heap.size≤k)∧Off F w w'
 get:∀(x:Nat×Int) (p:Addr) (F:Nat→Prop) (l:List Hd) (w:World),Zv x→Qd 1000000 l→Env w→PB w p F l→Calls Tryz.prog 119 #[.pointer (some p),idV (x.1:Nat) x.2] w fun e w'=>∃ev,e=.returned (.tuple #[.string ⟨(Qal l x).1.toArray⟩,ev])∧Qp w.heap.size w' a ev ((Qal l x).2,-1)∧Below w.heap.size w w'
 drop:∀(x:Nat×Int) (p:Addr) (F:Nat→Prop) (l:List Hd) (w:World),Zv x→Qd 1000000 l→Env w→PB w p F l→Calls Tryz.prog 102 #[.pointer (some p),idV (x.1:Nat) x.2] w fun e w'=>∃ev F',e=.returned ev∧Qp w.heap.size w' a ev ((Jw l x).1,-1)∧PB w' p F' (Jw l x).2∧(∀k,F' k→F k∨w.heap.size≤k)∧Off F w w'
 sweep:∀(p:Addr) (F:Nat→Prop) (l:List Hd) (w:World),Qd 1000000 l→Env w→PB w p F l→Calls Tryz.prog 103 #[.pointer (some p)] w fun e w'=>∃F',e=.returned (.int .i64 (Q8 l).1)∧PB w' p F' (Q8 l).2∧(∀k,F' k→F k∨w.heap.size≤k)∧Off F w w'
 size:∀(p:Addr) (F:Nat→Prop) (l:List Hd) (w:World),Qd 1000000 l→Env w→PB w p F l→Calls Tryz.prog 152 #[.pointer (some p)] w fun e w'=>e=.returned (.int .i64 (Qx l))∧Below w.heap.size w w'
 copy:∀(p:Addr) (F:Nat→Prop) (l:List Hd) (w:World),Qd 1000000 l→Env w→PB w p F l→Calls Tryz.prog 80 #[.pointer (some p)] w fun e w'=>∃p' F',e=.returned (.pointer (some p'))∧PB w' p' F' l∧(∀k,F' k→w.heap.size≤k)∧Below w.heap.size w w'
 all:∀(p:Addr) (F:Nat→Prop) (l:List Hd) (w:World),Qd 1000000 l→Env w→PB w p F l→Calls Tryz.prog 36 #[.pointer (some p)] w fun e w'=>∃v,e=.returned v∧Q4 w' v l∧Below w.heap.size w w'
theorem Us.below {a:Nat→Addr}{Env:World→Prop}{PB:Qdm}(S:Us a Env PB){w w':World}{p:Addr}{F:Nat→Prop}{l:List Hd}(h:PB w p F l)(hb:Below w.heap.size w w'):PB w' p F l:=S.off h (Off.of_below (F:=fun _=>False) hb) (fun _ _ h=>h)
structure Vl (PB:Qdm)(w W:World)(p:Addr)(F:Nat→Prop)(lp:List Hd)(B:Nat)(v:Value)(lr:List Hd):Prop where
 below:Below w.heap.size w W
 pb:PB W p F lp
 rb:Qt W B v lr
 apart:∀k,F k→¬Qt.Of B v k
 pnew:∀k,F k→w.heap.size≤k
 rnew:∀k,Qt.Of B v k→w.heap.size≤k
theorem Vl.next {a:Nat→Addr}{Env:World→Prop}{PB:Qdm}(S:Us a Env PB){w W W':World}{p:Addr}{F:Nat→Prop}{lp:List Hd}{B:Nat}{v:Value}{lr:List Hd}(h:Vl PB w W p F lp B v lr)(hb:Below W.heap.size W W'):Vl PB w W' p F lp B v lr:=
 ⟨h.below.trans (hb.mono h.below.size),S.below h.pb hb,h.rb.below hb,h.apart,h.pnew,h.rnew⟩
theorem Vl.prog {PB:Qdm}{w W W':World}{p:Addr}{F F':Nat→Prop}{lp lp':List Hd}{B:Nat}{v:Value}{lr:List Hd}(h:Vl PB w W p F lp B v lr)(hp:PB W' p F' lp')(hF:∀k,F' k→F k∨W.heap.size≤k)(ho:Off F W W'):Vl PB w W' p F' lp' B v lr:=by
 refine⟨h.below.trans (ho.below h.below.size (fun k hk hf=>by have:=h.pnew k hf;omega)),hp,h.rb.off ho (fun k hk hf=>h.apart k hf hk),fun k hk hr => ?_,fun k hk => ?_,h.rnew⟩
 ·rcases hF k hk with hk|hk
  ·exact h.apart k hk hr
  ·have:=h.rb.lt hr;omega
 ·rcases hF k hk with hk|hk
  ·exact h.pnew k hk
  ·exact Nat.le_trans h.below.size hk
theorem Vl.doc {a:Nat→Addr}{Env:World→Prop}{PB:Qdm}(S:Us a Env PB){w W W':World}{p:Addr}{F:Nat→Prop}{lp:List Hd}{B:Nat}{v v':Value}{lr lr':List Hd}(h:Vl PB w W p F lp B v lr)(hr:Qt W' B v' lr')(hv:∀k,v'.ownBlock=some k→v.ownBlock=some k∨W.heap.size≤k)(ho:Off (Qt.Of B v) W W'):Vl PB w W' p F lp B v' lr':=by
 have hO:∀k,Qt.Of B v' k→Qt.Of B v k∨W.heap.size≤k:=fun k hk=>by
  rcases hk with rfl|hk
  ·exact .inl (.inl rfl)
  ·exact(hv k hk).imp .inr id
 refine⟨h.below.trans (ho.below h.below.size (fun k hk hf=>by have:=h.rnew k hf;omega)),S.off h.pb ho h.apart,hr,fun k hk hr => ?_,h.pnew,fun k hk => ?_⟩
 ·rcases hO k hr with hr|hr
  ·exact h.apart k hk hr
  ·have:=S.lt h.pb k hk;omega
 ·rcases hO k hk with hk|hk
  ·exact h.rnew k hk
  ·exact Nat.le_trans h.below.size hk
open Go.RowKit Go.Maps
theorem Tryz.laidOut:laidOutB Tryz.prog=true:=by kernel_rfl
theorem Qwy:(25:TypeId)<Tryz.prog.types.size:=of_decide_eq_true (by kernel_rfl)
theorem Qv4:(match Tryz.prog.underlying 25 with|some (.array _ _)|some (.struct _)=>true|_=>false)=true:=by rw[Tryz.underlying25]
theorem Qv9:Tryz.prog.keyTypeAt 2 25=true:=by kernel_rfl
theorem Qwq:WideMaps.KeyLaw Tryz.prog 25:=deep_law_laid Tryz.laidOut (m:=2) (Nat.le_of_ble_eq_true rfl) Qwy Qv9 Qv4
theorem Qj6:Keyed Tryz.prog 25:=Keyed.of_law Qwq
theorem Qc1:Tryz.prog.cellsOf 25=2:=by kernel_rfl
theorem Qs0:Tryz.prog.cellsOf 23=1:=by kernel_rfl
theorem intCells:Tryz.prog.cellsOf 3=1:=by kernel_rfl
theorem Qq2:Tryz.prog.keyType 25=true:=by kernel_rfl
theorem Qip:Tryz.prog.types.size=454:=by kernel_rfl
theorem Qtz (a b:Value):(Value.agg #[a,b]).formed Tryz.prog 25=true:=by simp[Value.formed,Tryz.underlying25,Qc1]
theorem wf_u32 (n:Int):(Lit.int .u32 n).wf=true↔0≤n∧n<4294967296:=by
 show(decide (IntKind.u32.min≤n)&&decide (n≤IntKind.u32.max))=true↔_;rw[show IntKind.u32.min=0 from rfl,show IntKind.u32.max=4294967295 from rfl,Bool.and_eq_true,decide_eq_true_eq,decide_eq_true_eq];omega
theorem wf_i64' (n:Int):(Lit.int .i64 n).wf=true↔-9223372036854775808≤n∧n≤9223372036854775807:=by
 show(decide (IntKind.i64.min≤n)&&decide (n≤IntKind.i64.max))=true↔_;rw[show IntKind.i64.min=-9223372036854775808 from rfl,show IntKind.i64.max=9223372036854775807 from rfl,Bool.and_eq_true,decide_eq_true_eq,decide_eq_true_eq]
theorem Qoo (d:Nat)(a:Value)(x:List Lit)(h:Tryz.prog.keyLits (d+1) 23 [a]=some x):∃n:Int,a=.int .u32 n∧(Lit.int .u32 n).wf=true∧x=[.int .u32 n]:=by
 unfold Program.keyLits at h;rw[Tryz.underlying23]at h;cases a<;>simp at h;obtain⟨⟨rfl,hw⟩,rfl⟩:=h;exact⟨_,rfl,hw,rfl⟩
theorem Qpb (d:Nat)(a:Value)(x:List Lit)(h:Tryz.prog.keyLits (d+1) 3 [a]=some x):∃n:Int,a=.int .i64 n∧(Lit.int .i64 n).wf=true∧x=[.int .i64 n]:=by
 unfold Program.keyLits at h;rw[Tryz.underlying3]at h;cases a<;>simp at h;obtain⟨⟨rfl,hw⟩,rfl⟩:=h;exact⟨_,rfl,hw,rfl⟩
theorem Qgd (d:Nat)(a b:Value):Tryz.prog.keyLits (d+1) 25 [a,b]=(Tryz.prog.keyLits d 23 [a]).bind fun x=>(Tryz.prog.keyLits d 3 [b]).bind fun y=>some (x++y):=by
 conv=>lhs;unfold Program.keyLits
 rw[Tryz.underlying25];simp only[Qc1];cases h1:Tryz.prog.keyLits d 23 [a]<;>cases h2:Tryz.prog.keyLits d 3 [b]<;>simp[Qs0,intCells,h1,h2]
theorem Qkt (v0 v1:Value):keyOf Tryz.prog 25 (.agg #[v0,v1])=(Tryz.prog.keyLits (454+1) 25 [v0,v1]).map fun ls=>.string (keyBytes ls):=by
 unfold keyOf;rw[Tryz.underlying25];simp only[Qq2,Qtz,Bool.and_true,if_true,Qip];rfl
theorem Qb8 (d:Nat)(n:Int)(h:(Lit.int .u32 n).wf=true):Tryz.prog.keyLits (d+1) 23 [.int .u32 n]=some [.int .u32 n]:=by
 unfold Program.keyLits;rw[Tryz.underlying23];simp[h]
theorem Qb4 (d:Nat)(n:Int)(h:(Lit.int .i64 n).wf=true):Tryz.prog.keyLits (d+1) 3 [.int .i64 n]=some [.int .i64 n]:=by
 unfold Program.keyLits;rw[Tryz.underlying3];simp[h]
theorem Qj7:454=(454 - 1)+1:=rfl
theorem Qsz (x:Nat×Int)(h:Zv x):∃kl,keyOf Tryz.prog 25 (idV (x.1:Nat) x.2)=some kl:=by
 obtain⟨h1,h2⟩:=h;refine⟨.string (keyBytes [.int .u32 (x.1:Nat),.int .i64 x.2]),?_⟩;rw[Qkt,Qgd,Qj7,Qb8 _ _ ((wf_u32 _).2 (by omega)),Qb4 _ _ ((wf_i64' _).2 h2)];rfl
theorem Qsd (v:Value)(kl:Lit)(h:keyOf Tryz.prog 25 v=some kl):∃x:Nat×Int,Zv x∧v=idV (x.1:Nat) x.2:=by
 have hf:v.formed Tryz.prog 25=true:=by
  unfold keyOf at h;rw[Tryz.underlying25]at h;cases hv:v.formed Tryz.prog 25 with
  | true=>rfl
  | false=>simp[hv]at h
 obtain⟨cs,rfl,hs⟩:∃cs,v=.agg cs∧cs.size=2:=by cases v<;>simp[Value.formed,Tryz.underlying25,Qc1]at hf;exact⟨_,rfl,hf⟩
 obtain⟨v0,v1,rfl⟩:∃v0 v1,cs = #[v0,v1]:=by
  obtain⟨l⟩:=cs
  match l,hs with
  | [v0,v1],_=>exact⟨v0,v1,rfl⟩
 rw[Qkt,Qgd,Qj7]at h;cases h0:Tryz.prog.keyLits (454 - 1+1) 23 [v0]with
 | none=>rw[h0]at h;cases h
 | some a=>
  cases h1:Tryz.prog.keyLits (454 - 1+1) 3 [v1]with
  | none=>rw[h0,h1]at h;cases h
  | some b=>
   obtain⟨n,rfl,hn,_⟩:=Qoo _ _ _ h0;obtain⟨m,rfl,hm,_⟩:=Qpb _ _ _ h1;rw[wf_u32]at hn;rw[wf_i64']at hm;have e:((n.toNat:Nat):Int)=n:=(by omega);refine⟨(n.toNat,m),⟨by omega,hm⟩,?_⟩;simp only[e]
abbrev Xz (c:Int×List UInt8):Value:=.agg #[.string ⟨c.2.toArray⟩,.int .i64 c.1]
def Qjt:Value→Option (Int×List UInt8)
 | .agg cs=>match cs.toList with
  | [.string s,.int .i64 u]=>some (u,s.data.toList)
  | _=>none
 | _=>none
theorem Qj9 (v:Value)(c:Int×List UInt8)(h:Qjt v=some c):v=Xz c:=by
 unfold Qjt at h;split at h
 next cs=>
  split at h
  next s u e=>
   cases h;have:cs = #[Value.string s,Value.int .i64 u]:=(by rw[←Array.toArray_toList (xs:=cs),e]);rw[this]
  next=>cases h
 next=>cases h
def idPieces:Qf Tryz.prog 25 (Nat×Int) (Int×List UInt8) where
 mkK x:=idV (x.1:Nat) x.2
 wf:=Zv
 mkV:=Xz
 unV:=Qjt
 K:=Qj6
 key:=Qsz
 inv:=Qsd
 inj x y e:=by have e1:=Array.mk.inj (Value.agg.inj e);simp at e1;exact Prod.ext (by omega) e1.2
 un _:=rfl
 back:=Qj9
theorem Yt (w:World):(zeroValue 172).run Tryz.prog w=.ok (Xz (0,[])) w:=by kernel_rfl
def Q0 (w:World)(p:Addr)(F:Nat→Prop)(l:List Hd):Prop:=
 ∃B b,p=⟨B,0,none⟩∧Blk w B #[.map (some b)] 170∧idPieces.Of w b l∧B≠b∧F=fun k=>k=B∨k=b
theorem Q0.lt {w:World}{p:Addr}{F:Nat→Prop}{l:List Hd}(h:Q0 w p F l):∀k,F k→k<w.heap.size:=by
 obtain⟨B,b,rfl,hB,hb,_,rfl⟩:=h;rintro k (rfl|rfl)
 ·exact hB.lt
 ·exact hb.lt
theorem Q0.off {w w':World}{p:Addr}{F G:Nat→Prop}{l:List Hd}(h:Q0 w p F l)(ho:Off G w w')(hG:∀k,F k→¬G k):Q0 w' p F l:=by
 obtain⟨B,b,rfl,hB,hb,hne,rfl⟩:=h;exact⟨B,b,rfl,ho.blk hB (hG B (.inl rfl)),hb.moved (ho.block b hb.lt (hG b (.inr rfl))),hne,rfl⟩
theorem Xr (base:Nat)(w:World)(a:Nat→Addr)(k:Nat)(hk:k<12){c:Int}(hc:c=(k:Int)+1):Qp base w a (sentV a k) (c,-1):=.inr (.inl ⟨k,hk,rfl,by rw[hc]⟩)
theorem Qaw (d:Int):∀(l:List Hd) (k:Nat) (hk:k<l.length),l.Pairwise (fun p q=>p.1≠q.1)→((l[k].1,l[k].2.1+d,l[k].2.2)::l.filter (fun h => !decide (h.1=l[k].1))).Perm (l.modify k (hUse d))
 | [],_,hk,_=>by simp at hk
 | y::r,0,_,hp=>by obtain⟨hy,_⟩:=List.pairwise_cons.1 hp;have e:r.filter (fun h => !decide (h.1=y.1))=r:=List.filter_eq_self.2 (fun h hm=>by simp[Ne.symm (hy h hm)]);show((y.1,y.2.1+d,y.2.2)::List.filter (fun h => !decide (h.1=y.1)) (y::r)).Perm (hUse d y::r);rw[List.filter_cons,if_neg (by simp),e];exact List.Perm.refl _
 | y::r,k+1,hk,hp=>by
  obtain⟨hy,hr⟩:=List.pairwise_cons.1 hp;have hk':k<r.length:=by simpa using hk
  have ih:=Qaw d r k hk' hr;have hne:y.1≠r[k].1:=hy _ (List.getElem_mem hk');show((r[k].1,r[k].2.1+d,r[k].2.2)::List.filter (fun h => !decide (h.1=r[k].1)) (y::r)).Perm (y::r.modify k (hUse d));rw[List.filter_cons,if_pos (by simpa using hne)];exact(List.Perm.swap _ _ _).trans (ih.cons y)
structure Je (L:List Nat)(w:World)(a:Nat→Addr):Prop where
 glob:∀i,L.contains i=true→w.cell? ⟨Xn i,0,none⟩=some (sentV a i)
theorem Je.below {L:List Nat}{w0 w w':World}{a:Nat→Addr}(h:Je L w a)(hb:Below w0.heap.size w w')(hle:w.heap.size≤w0.heap.size):Je L w' a where
 glob i hi:=by rw[hb.cell (p:=⟨Xn i,0,none⟩) (Nat.lt_of_lt_of_le (lt_of_cell (h.glob i hi)) hle)];exact h.glob i hi
theorem Je.sub {L M:List Nat}{w:World}{a:Nat→Addr}(h:Je L w a)(hs:(M.all fun i=>L.contains i)=true):Je M w a where
 glob i hi:=h.glob i (List.all_eq_true.1 hs i (List.contains_iff_mem.1 hi))
theorem J6.on {L:List Nat}{w:World}{a:Nat→Addr}(h:J6 w a)(hl:(L.all fun i=>decide (i<12))=true):Je L w a where
 glob i hi:=h.glob i (by simpa using List.all_eq_true.1 hl i (List.contains_iff_mem.1 hi))
abbrev Qpw (w:World)(a:Nat→Addr):Prop:=Je [0,1,4,6,7,8,9,10] w a
theorem J6.some {w:World}{a:Nat→Addr}(h:J6 w a):Qpw w a:=h.on (by decide)
open Go.Shelf Go.RowKit Go.Lib Go.Sort
variable {P:Program} {ρ:Ren} {α:Type}
structure Srt [Inhabited α](P:Program)(lt:α→α→Bool)(g:Nat)(lb:Array Value)(sf:Nat)(sb:Array Value)(blk n n0:Nat)(I:World→Array α→Prop):Prop where
 eg:∀args w,(callFunc g args).run P w=.ok (.enter g args) w
 blt:∀{W:World} {d:Array α},I W d→blk<W.heap.size
 size:∀{W:World} {d:Array α},I W d→d.size=n
 keep:∀{W W':World} {d:Array α},I W d→W.grownBy W' none→I W' d
 le:∀{W:World} {d:Array α},I W d→n0≤W.heap.size
 keepAt:∀{W W':World} {d:Array α} {c:Nat},I W d→n0≤c→W.grownBy W' (some c)→I W' d
 less:∀{W:World} {d:Array α} (x y:Int) (i j:Nat),x=(i:Int)→y=(j:Int)→I W d→i<n→j<n→Calls P g (#[.int .i64 x,.int .i64 y]++lb) W fun e w'=>e=.returned (.bool (lt d[i]! d[j]!))∧W.grownBy w' none
 swap:∀{W:World} {d:Array α} (x y:Int) (i j:Nat),x=(i:Int)→y=(j:Int)→I W d→i<n→j<n→∃W',(callFunc sf (#[.int .i64 x,.int .i64 y]++sb)).run P W=.ok (.value (.tuple #[])) W'∧I W' (swp d i j)∧W.grownBy W' (some blk)
structure Q5 (I:World→Array α→Prop)(blk:Nat)(w0 W:World)(d:Array α):Prop where
 inv:I W d
 grown:w0.grownBy W (some blk)
theorem Q5.start {I:World→Array α→Prop}{blk:Nat}{w:World}{d:Array α}(h:I w d):Q5 I blk w w d:=⟨h,⟨rfl,rfl,rfl,wz,fun _ _ _=>rfl⟩⟩
variable {lt:α→α→Bool} {g:Nat} {lb:Array Value} {sf:Nat} {sb:Array Value} {blk n n0:Nat} {I:World→Array α→Prop} {w0 W W':World} {d d':Array α}
theorem Q5.grow [Inhabited α](S:Srt P lt g lb sf sb blk n n0 I)(h:Q5 I blk w0 W d)(hg:W.grownBy W' none):Q5 I blk w0 W' d:=⟨S.keep h.inv hg,h.grown.andThen hg (fun j hj=>by cases hj)⟩
theorem Q5.turn (h:Q5 I blk w0 W d)(hi:I W' d')(hg:W.grownBy W' (some blk)):Q5 I blk w0 W' d':=⟨hi,h.grown.andThen hg (fun _ hj=>.inr hj)⟩
theorem grown_drewN (w:World)(q:Nat):w.grownBy (w.drewN q) none:=⟨rfl,rfl,rfl,wz,fun _ _ _=>rfl⟩
theorem Q5.drewN [Inhabited α](S:Srt P lt g lb sf sb blk n n0 I)(h:Q5 I blk w0 W d)(q:Nat):Q5 I blk w0 (W.drewN q) d:=h.grow S (grown_drewN W q)
theorem Q5.alloc [Inhabited α](S:Srt P lt g lb sf sb blk n n0 I)(h:Q5 I blk w0 W d)(o:Obj):Q5 I blk w0 (W.alloc o) d:=h.grow S (World.grownBy_alloc W o none)
theorem Q5.cell (h:Q5 I blk w0 W d){a:Addr}{v:Value}(h0:w0.cell? a=some v)(ha:a.block≠blk)(hl:a.block<w0.heap.size):W.cell? a=some v:=
 (World.cell?_of_block (w:=w0) (h.grown.block _ hl (fun e=>ha (Option.some.inj e)))).trans h0
theorem Q5.box {w:World}{x y:Value}{t:TypeId}(h:Q5 I blk (w.alloc (.cells #[x,y] t)) W d)(hb:blk<w.heap.size):W.cell? ⟨w.heap.size,0,none⟩=some x∧W.cell? ⟨w.heap.size,1,none⟩=some y:=
 ⟨h.cell (by simp) (by show w.heap.size≠blk;omega) (by simp),h.cell (by simp) (by show w.heap.size≠blk;omega) (by simp)⟩
theorem Q5.off {w:World}{o:Obj}(h:Q5 I blk (w.alloc o) W d):w.grownBy W (some blk):=(World.grownBy_alloc w o (some blk)).andThen h.grown (fun _ hj=>.inr hj)
theorem Qhq [Inhabited α](L:LaysGg.n26 P ρ)(S:Srt P lt g lb sf sb blk n n0 I)(a b:Nat)(d:Array α)(w:World)(hI:I w d)(hab:a≤b)(hb:b≤n)(hsz:n<4611686018427387904) :
 Calls P (ρ.f 26) #[.agg #[.func (.func g) #[] lb,.func (.func sf) #[] sb],.int .i64 a,.int .i64 b] w fun e w'=>e=.returned (.tuple #[])∧I w' (Sort.insertionSort lt d a b)∧w.grownBy w' (some blk):=by
 have mixed:=L.mixed;have t0:=L.t0;have a0:=L.a0;have z0:=L.z0;have v0:=L.v0;have t3:=L.t3;have a3:=L.a3;have z3:=L.z3;have v3:=L.v3;have t4:=L.t4;have a4:=L.a4;have z4:=L.z4;have v4:=L.v4;have t26:=L.t26;have a26:=L.a26;have z26:=L.z26;have v26:=L.v26;have t37:=L.t37;have a37:=L.a37;have z37:=L.z37;have v37:=L.v37;have t44:=L.t44;have a44:=L.a44;have z44:=L.z44;have v44:=L.v44;have u44:=run_underlying L.t44;have eg:=S.eg;have hblk:=S.blt hI;have A0:Q5 I blk (w.alloc (.cells #[.func (.func g) #[] lb,.func (.func sf) #[] sb] (ρ.t 44))) (w.alloc (.cells #[.func (.func g) #[] lb,.func (.func sf) #[] sb] (ρ.t 44))) d:=.start (S.keep hI (World.grownBy_alloc w _ none));go_enter L.f26,BodyGg.n26_ntmps ρ
 go_wp2
 go_loopw [6] (fun vi wr=>∃(i:Nat) (dk:Array α),vi=.int .i64 i∧a<i∧i≤b+1∧Q5 I blk (w.alloc (.cells #[.func (.func g) #[] lb,.func (.func sf) #[] sb] (ρ.t 44))) wr dk∧Hid (insOuter lt a b i dk=insOuter lt a b (a+1) d)) (fun vi _=>b+1 - (intOf vi).toNat)
 case atStart=>exact⟨a+1,d,by go_num,by omega,by omega,A0,rfl⟩
 case round=>
  obtain⟨i,dk,rfl,hai,hib,hA,HO⟩:=hrel
  go_wp2
  ·go_loopw [7] (fun vj wr2=>∃(j:Nat) (dj:Array α),vj=.int .i64 j∧a≤j∧j≤i∧Q5 I blk (w.alloc (.cells #[.func (.func g) #[] lb,.func (.func sf) #[] sb] (ρ.t 44))) wr2 dj∧Hid (insInner lt a j dj=insInner lt a i dk)) (fun vj _=>(intOf vj).toNat)
   case atStart=>exact⟨i,dk,rfl,by omega,wz,hA,rfl⟩
   case round=>
    clear hA;obtain⟨j,dj,rfl,haj,hji,hA,HI⟩:=hrel;have hlt:i<b:=(by assumption);obtain⟨c0,_⟩:=hA.box hblk;have OUT:(j≤a∨lt dj[j]! dj[j - 1]! = false)→∀W,Q5 I blk (w.alloc (.cells #[.func (.func g) #[] lb,.func (.func sf) #[] sb] (ρ.t 44))) W dj→∃(i':Nat) (dk':Array α),Value.int .i64 ((i:Int)+1)=.int .i64 i'∧a<i'∧i'≤b+1∧Q5 I blk (w.alloc (.cells #[.func (.func g) #[] lb,.func (.func sf) #[] sb] (ρ.t 44))) W dk'∧Hid (insOuter lt a b i' dk'=insOuter lt a b (a+1) d):=fun hs W hW=>
     ⟨i+1,dj,by go_num,by omega,by omega,hW,(show Hid _ from by rw[←HO.out,insOuter_go _ _ _ _ _ hlt,←HI.out,insInner_stop _ _ _ _ hs];exact rfl)⟩
    have OUT:Aside _:=OUT;by_cases hja:a<j
    ·have hl:=S.less (j:Int) ((j:Int) - 1) j (j - 1) rfl (by omega) hA.inv (by omega) (by omega);cases hlv:lt dj[j]! dj[j - 1]! with
     | true=>
      rw[hlv]at hl;go_wp2_with (go_at_fn g;refine hl.mono ?_;rintro e w1 ⟨rfl,hg1⟩;have hA1:=hA.grow S hg1;obtain⟨_,c1⟩:=hA1.box hblk;obtain⟨w2,hs,hI2,hg2⟩:=S.swap (j:Int) ((j:Int) - 1) j (j - 1) rfl (by omega) hA1.inv (by omega) (by omega));go_roundw
      case rel=>
       (repeat apply Exists.intro)
       exact⟨⟨j - 1,swp dj j (j - 1),by congr 1<;>omega,by omega,by omega,hA1.turn hI2 hg2,(show Hid _ from by rw[←HI.out,insInner_go lt a j dj hja hlv];exact rfl)⟩,by rw[decide_eq_true hlt,show((j - 1:Nat):Int)=(j:Int) - 1 by omega]⟩
      case measure=>simp[intOf];omega
     | false=>
      rw[hlv]at hl;go_wp2_with (go_at_fn g;refine hl.mono ?_;rintro e w1 ⟨rfl,hg1⟩;have hA1:=hA.grow S hg1);go_roundw
      case rel=>exact OUT.out (Or.inr hlv) _ hA1
      case measure=>simp[intOf];omega
    ·go_wp2
     go_roundw
     case rel=>exact OUT.out (Or.inl (by omega)) _ hA
     case measure=>simp[intOf];omega
  ·have hge:¬i<b:=by assumption
   go_end0
   exact⟨rfl,by unfold Sort.insertionSort;rw[←HO.out,insOuter_stop _ _ _ _ _ hge];exact hA.inv,hA.off⟩
structure Cnt (c s:Nat)(w:World):Prop where
 cell:w.cell? ⟨c,0,none⟩=some (.int .i64 (s:Int))
 free:w.frozen? ⟨c,0,none⟩=false
 lt:c<w.heap.size
theorem Cnt.kept {c s:Nat}{w w':World}{row:Option Nat}(h:Cnt c s w)(hg:w.grownBy w' row)(hr:some c≠row):Cnt c s w':=
 ⟨(World.cell?_of_block (w:=w) (hg.block c h.lt hr)).trans h.cell,(World.frozen?_of_block (w:=w) (hg.block c h.lt hr)).trans h.free,Nat.lt_of_lt_of_le h.lt hg.size⟩
theorem Cnt.set {c s:Nat}{w:World}(h:Cnt c s w)(t:Nat){v:Int}(hv:v=(t:Int)):Cnt c t (w.setCell ⟨c,0,none⟩ (.int .i64 v)):=by
 subst hv;exact⟨World.cell?_setCell_same _ _ _ h.cell,by simpa using h.free,by simpa[World.setCell]using h.lt⟩
theorem grown_set {w w':World}{c:Nat}(h:w.grownBy w' (some c))(i:Nat)(v:Value):w.grownBy (w'.setCell ⟨c,i,none⟩ v) (some c):=
 ⟨h.os,h.tape,h.output,by simpa[World.setCell]using h.size,fun k hk hne=>(RowKit.Below.heap_setCell w' ⟨c,i,none⟩ v k (fun e=>hne (by rw[e]))).trans (h.block k hk hne)⟩
theorem grown_refl (w:World)(row:Option Nat):w.grownBy w row:=⟨rfl,rfl,rfl,wz,fun _ _ _=>rfl⟩
theorem Jm {a b c:World}{row:Option Nat}(h:a.grownBy b row)(k:b.grownBy c row):a.grownBy c row:=h.andThen k (fun _ hj=>.inr hj)
theorem cell_kept {w w':World}{row:Option Nat}{a:Addr}{v:Value}(h:w.cell? a=some v)(hg:w.grownBy w' row)(hl:a.block<w.heap.size)(hr:some a.block≠row):w'.cell? a=some v:=(World.cell?_of_block (w:=w) (hg.block _ hl hr)).trans h
variable {P:Program} {ρ:Ren} {α:Type} [Inhabited α] {lt:α→α→Bool} {g:Nat} {lb:Array Value} {sf:Nat} {sb:Array Value} {blk n n0:Nat} {I:World→Array α→Prop}
theorem Qb2 (L:LaysGg.n39 P ρ)(S:Srt P lt g lb sf sb blk n n0 I)(a b c s:Nat)(d:Array α)(w:World)(hI:I w d)(hc:Cnt c s w)(ha:a<n)(hb:b<n)(hs:s<4611686018427387904) :
 Calls P (ρ.f 39) #[.agg #[.func (.func g) #[] lb,.func (.func sf) #[] sb],.int .i64 a,.int .i64 b,.pointer (some ⟨c,0,none⟩)] w fun e w'=>e=.returned (.tuple #[.int .i64 (order2 lt d a b s).1,.int .i64 (order2 lt d a b s).2.1])∧Cnt c (order2 lt d a b s).2.2 w'∧w.grownBy w' (some c):=by
 have mixed:=L.mixed;have t0:=L.t0;have a0:=L.a0;have z0:=L.z0;have v0:=L.v0;have t3:=L.t3;have a3:=L.a3;have z3:=L.z3;have v3:=L.v3;have t4:=L.t4;have a4:=L.a4;have z4:=L.z4;have v4:=L.v4;have t26:=L.t26;have a26:=L.a26;have z26:=L.z26;have v26:=L.v26;have t37:=L.t37;have a37:=L.a37;have z37:=L.z37;have v37:=L.v37;have t44:=L.t44;have a44:=L.a44;have z44:=L.z44;have v44:=L.v44;have t64:=L.t64;have a64:=L.a64;have z64:=L.z64;have v64:=L.v64;have u44:=run_underlying L.t44;have eg:=S.eg;have hg0:w.grownBy (w.alloc (.cells #[.func (.func g) #[] lb,.func (.func sf) #[] sb] (ρ.t 44))) none:=World.grownBy_alloc w _ none;have hl:=S.less (b:Int) (a:Int) b a rfl rfl (S.keep hI hg0) hb ha;have hc1:=hc.kept hg0 (by simp);go_enter L.f39,BodyGg.n39_ntmps ρ;cases hlv:lt d[b]! d[a]! with
 | true=>
  rw[hlv]at hl;have e2:order2 lt d a b s=(b,a,s+1):=by simp[order2,hlv]
  go_wp2_with (go_at_fn g;refine hl.mono ?_;rintro e w1 ⟨rfl,hg1⟩;have hc2:=hc1.kept hg1 (by simp);have cs:=hc2.cell;have fs:=hc2.free);go_ret2;rw[e2];exact⟨rfl,hc2.set (s+1) (by simp),grown_set ((hg0.andThen hg1 (fun _ hj=>by cases hj)).but _) 0 _⟩
 | false=>
  rw[hlv]at hl;have e2:order2 lt d a b s=(a,b,s):=by simp[order2,hlv]
  go_wp2_with (go_at_fn g;refine hl.mono ?_;rintro e w1 ⟨rfl,hg1⟩);go_ret2;rw[e2];exact⟨rfl,hc1.kept hg1 (by simp),(hg0.andThen hg1 (fun _ hj=>by cases hj)).but _⟩
theorem Qb9 (L:LaysGg.n38 P ρ)(S:Srt P lt g lb sf sb blk n n0 I)(a b c k s:Nat)(d:Array α)(w:World)(hI:I w d)(hk:Cnt k s w)(hn:n0≤k)(ha:a<n)(hb:b<n)(hc:c<n)(hs:s+3<4611686018427387904) :
 Calls P (ρ.f 38) #[.agg #[.func (.func g) #[] lb,.func (.func sf) #[] sb],.int .i64 a,.int .i64 b,.int .i64 c,.pointer (some ⟨k,0,none⟩)] w fun e w'=>e=.returned (.int .i64 (median lt d a b c s).1)∧Cnt k (median lt d a b c s).2 w'∧w.grownBy w' (some k):=by
 have mixed:=L.mixed;have t0:=L.t0;have a0:=L.a0;have z0:=L.z0;have v0:=L.v0;have t3:=L.t3;have a3:=L.a3;have z3:=L.z3;have v3:=L.v3;have t4:=L.t4;have a4:=L.a4;have z4:=L.z4;have v4:=L.v4;have t26:=L.t26;have a26:=L.a26;have z26:=L.z26;have v26:=L.v26;have t37:=L.t37;have a37:=L.a37;have z37:=L.z37;have v37:=L.v37;have t44:=L.t44;have a44:=L.a44;have z44:=L.z44;have v44:=L.v44;have t64:=L.t64;have a64:=L.a64;have z64:=L.z64;have v64:=L.v64;have t67:=L.t67;have a67:=L.a67;have z67:=L.z67;have v67:=L.v67;have u44:=run_underlying L.t44;have e39:∀args w,(callFunc (ρ.f 39) args).run P w=.ok (.enter (ρ.f 39) args) w:=enters_of L.f39 (by kernel_rfl) rfl;have l1:=order2_lt' lt d s ha hb;have s1:=order2_swaps' lt d a b s;have l2:=order2_lt' lt d (order2 lt d a b s).2.2 l1.2 hc;have s2:=order2_swaps' lt d (order2 lt d a b s).2.1 c (order2 lt d a b s).2.2;have hg0:w.grownBy (w.alloc (.cells #[.func (.func g) #[] lb,.func (.func sf) #[] sb] (ρ.t 44))) none:=World.grownBy_alloc w _ none;have x0:(w.alloc (.cells #[.func (.func g) #[] lb,.func (.func sf) #[] sb] (ρ.t 44))).cell? ⟨w.heap.size,0,none⟩=some (.func (.func g) #[] lb):=by simp
 have x1:(w.alloc (.cells #[.func (.func g) #[] lb,.func (.func sf) #[] sb] (ρ.t 44))).cell? ⟨w.heap.size,1,none⟩=some (.func (.func sf) #[] sb):=by simp
 have hne:some w.heap.size≠some k:=fun e=>by have:=hk.lt;have:=Option.some.inj e;omega
 have hlt:w.heap.size<(w.alloc (.cells #[.func (.func g) #[] lb,.func (.func sf) #[] sb] (ρ.t 44))).heap.size:=by simp
 have st1:=Qb2 (ρ:=ρ) { L with } S a b k s d _ (S.keep hI hg0) (hk.kept hg0 (by simp)) ha hb (by omega);go_enter L.f38,BodyGg.n38_ntmps ρ;go_wp2_with (go_at_fn_of (ρ.f 39) (Value.int .i64 (b:Int));refine st1.mono ?_;rintro e w1 ⟨rfl,hk1,hg1⟩;have y0:=cell_kept x0 hg1 hlt hne;have y1:=cell_kept x1 hg1 hlt hne;have hI1:=S.keepAt (S.keep hI hg0) hn hg1;have st2:=Qb2 (ρ:=ρ) { L with } S (order2 lt d a b s).2.1 c k (order2 lt d a b s).2.2 d w1 hI1 hk1 l1.2 hc (by omega));have hlt1:=Nat.lt_of_lt_of_le hlt hg1.size;go_wp2_with (go_at_fn_of (ρ.f 39) (Value.int .i64 (c:Int));refine st2.mono ?_;rintro e w2 ⟨rfl,hk2,hg2⟩;have q0:=cell_kept y0 hg2 hlt1 hne;have q1:=cell_kept y1 hg2 hlt1 hne;have hI2:=S.keepAt hI1 hn hg2;have st3:=Qb2 (ρ:=ρ) { L with } S (order2 lt d a b s).1 (order2 lt d (order2 lt d a b s).2.1 c (order2 lt d a b s).2.2).1 k (order2 lt d (order2 lt d a b s).2.1 c (order2 lt d a b s).2.2).2.2 d w2 hI2 hk2 l1.1 l2.1 (by omega));go_wp2_with (go_at_fn_of (ρ.f 39) (Value.int .i64 ((order2 lt d a b s).1:Int));refine st3.mono ?_;rintro e w3 ⟨rfl,hk3,hg3⟩);go_ret;exact⟨rfl,hk3,Jm (Jm (Jm (hg0.but _) hg1) hg2) hg3⟩
theorem Qce (L:LaysGg.n37 P ρ)(S:Srt P lt g lb sf sb blk n n0 I)(a k s:Nat)(d:Array α)(w:World)(hI:I w d)(hk:Cnt k s w)(hn:n0≤k)(ha1:1≤a)(ha2:a+1<n)(hsz:n<4611686018427387904)(hs:s+3<4611686018427387904) :
 Calls P (ρ.f 37) #[.agg #[.func (.func g) #[] lb,.func (.func sf) #[] sb],.int .i64 a,.pointer (some ⟨k,0,none⟩)] w fun e w'=>e=.returned (.int .i64 (medianAdjacent lt d a s).1)∧Cnt k (medianAdjacent lt d a s).2 w'∧w.grownBy w' (some k):=by have mixed:=L.mixed;have t0:=L.t0;have a0:=L.a0;have z0:=L.z0;have v0:=L.v0;have t3:=L.t3;have a3:=L.a3;have z3:=L.z3;have v3:=L.v3;have t4:=L.t4;have a4:=L.a4;have z4:=L.z4;have v4:=L.v4;have t26:=L.t26;have a26:=L.a26;have z26:=L.z26;have v26:=L.v26;have t37:=L.t37;have a37:=L.a37;have z37:=L.z37;have v37:=L.v37;have t44:=L.t44;have a44:=L.a44;have z44:=L.z44;have v44:=L.v44;have t64:=L.t64;have a64:=L.a64;have z64:=L.z64;have v64:=L.v64;have t67:=L.t67;have a67:=L.a67;have z67:=L.z67;have v67:=L.v67;have u44:=run_underlying L.t44;have e38:∀args w,(callFunc (ρ.f 38) args).run P w=.ok (.enter (ρ.f 38) args) w:=enters_of L.f38 (by kernel_rfl) rfl;have hg0:w.grownBy (w.alloc (.cells #[.func (.func g) #[] lb,.func (.func sf) #[] sb] (ρ.t 44))) none:=World.grownBy_alloc w _ none;have hm:=Qb9 (ρ:=ρ) { L with } S (a - 1) a (a+1) k s d _ (S.keep hI hg0) (hk.kept hg0 (by simp)) hn (by omega) (by omega) ha2 hs;rw[show((a - 1:Nat):Int)=(a:Int) - 1 by omega,show((a+1:Nat):Int)=(a:Int)+1 by omega]at hm;go_enter L.f37,BodyGg.n37_ntmps ρ;go_wp2_with (go_at_fn (ρ.f 38);refine hm.mono ?_;rintro e w1 ⟨rfl,hk1,hg1⟩);go_ret;exact⟨rfl,hk1,Jm (hg0.but _) hg1⟩
theorem Qqa (L:LaysGg.n29 P ρ)(S:Srt P lt g lb sf sb blk n n0 I)(a b:Nat)(d:Array α)(w:World)(hI:I w d)(hab:a<b)(hb:b≤n)(hsz:n<4611686018427387904) :
 Calls P (ρ.f 29) #[.agg #[.func (.func g) #[] lb,.func (.func sf) #[] sb],.int .i64 a,.int .i64 b] w fun e w'=>e=.returned (.tuple #[.int .i64 (choosePivot lt d a b).1,.int .i64 (hintCode (choosePivot lt d a b).2)])∧w.grownBy w' none:=by
 have mixed:=L.mixed;have t0:=L.t0;have a0:=L.a0;have z0:=L.z0;have v0:=L.v0;have t3:=L.t3;have a3:=L.a3;have z3:=L.z3;have v3:=L.v3;have t4:=L.t4;have a4:=L.a4;have z4:=L.z4;have v4:=L.v4;have t26:=L.t26;have a26:=L.a26;have z26:=L.z26;have v26:=L.v26;have t37:=L.t37;have a37:=L.a37;have z37:=L.z37;have v37:=L.v37;have t44:=L.t44;have a44:=L.a44;have z44:=L.z44;have v44:=L.v44;have t53:=L.t53;have a53:=L.a53;have z53:=L.z53;have v53:=L.v53;have t64:=L.t64;have a64:=L.a64;have z64:=L.z64;have v64:=L.v64;have t67:=L.t67;have a67:=L.a67;have z67:=L.z67;have v67:=L.v67;have u44:=run_underlying L.t44;have e37:∀args w,(callFunc (ρ.f 37) args).run P w=.ok (.enter (ρ.f 37) args) w:=enters_of L.f37 (by kernel_rfl) rfl;have e38:∀args w,(callFunc (ρ.f 38) args).run P w=.ok (.enter (ρ.f 38) args) w:=enters_of L.f38 (by kernel_rfl) rfl;rw[choosePivot_eq];have hn:=Nat.le_succ_of_le (S.le hI);obtain⟨W,hW⟩:∃W,((w.alloc (.cells #[.func (.func g) #[] lb,.func (.func sf) #[] sb] (ρ.t 44))).alloc (.cells #[.int .i64 0] (ρ.t 3)))=W:=⟨_,rfl⟩;have hgW:w.grownBy W none:=by rw[←hW];exact(World.grownBy_alloc w _ none).andThen (World.grownBy_alloc _ _ none) (fun _ hj=>by cases hj)
 have hIW:=S.keep hI hgW;have hK:Cnt (w.heap.size+1) 0 W:=by rw[←hW];exact⟨by rw[World.cell?_alloc_at _ _ _ _ (by simp)];rfl,World.frozen?_alloc_at _ _ _ _ (by simp),by simp⟩
 have bx0:W.cell? ⟨w.heap.size,0,none⟩=some (.func (.func g) #[] lb):=by rw[←hW,World.cell?_alloc_past _ _ _ (by simp)];simp
 have bx1:W.cell? ⟨w.heap.size,1,none⟩=some (.func (.func sf) #[] sb):=by rw[←hW,World.cell?_alloc_past _ _ _ (by simp)];simp
 have hbl:w.heap.size<W.heap.size:=by rw[←hW];simp;omega
 have hne:some w.heap.size≠some (w.heap.size+1):=fun e=>by have:=Option.some.inj e;omega
 have fin:∀{w':World},W.grownBy w' (some (w.heap.size+1))→w.grownBy w' none:=fun h=>hgW.andThen h (fun j hj=>by cases hj;exact .inl (Nat.le_succ _));have fin:Aside _ := @fin;obtain⟨I1,hI1⟩:∃I1:Nat,I1=a+(b - a) / 4*1:=⟨_,rfl⟩;obtain⟨J,hJ⟩:∃J:Nat,J=a+(b - a) / 4*2:=⟨_,rfl⟩;obtain⟨K,hKK⟩:∃K:Nat,K=a+(b - a) / 4*3:=⟨_,rfl⟩;have eI:((a:Int)+((b:Int) - (a:Int)) / 4)=(I1:Int):=by omega
 have eJ:((a:Int)+((b:Int) - (a:Int)) / 4*2)=(J:Int):=by omega
 have eK:((a:Int)+((b:Int) - (a:Int)) / 4*3)=(K:Int):=by omega
 by_cases h8:b - a≥8
 ·by_cases h50:b - a≥50
  ·obtain⟨i1,s1,h1⟩:∃i1 s1,medianAdjacent lt d I1 0=(i1,s1):=⟨_,_,rfl⟩;obtain⟨j1,s2,h2⟩:∃j1 s2,medianAdjacent lt d J s1=(j1,s2):=⟨_,_,rfl⟩;obtain⟨k1,s3,h3⟩:∃k1 s3,medianAdjacent lt d K s2=(k1,s3):=⟨_,_,rfl⟩;obtain⟨p,s,h4⟩:∃p s,median lt d i1 j1 k1 s3=(p,s):=⟨_,_,rfl⟩;have hraw:rawPivot lt d a b=(p,s):=(by simp only[rawPivot,if_pos h8,if_pos h50,←hI1,←hJ,←hKK,h1,h2,h3,h4]);have m1:=medianAdjacent_mem lt d I1 0;rw[h1]at m1;have m2:=medianAdjacent_mem lt d J s1;rw[h2]at m2;have m3:=medianAdjacent_mem lt d K s2;rw[h3]at m3;have n1:=medianAdjacent_count lt d I1 0;rw[h1]at n1;have n2:=medianAdjacent_count lt d J s1;rw[h2]at n2;have n3:=medianAdjacent_count lt d K s2;rw[h3]at n3;simp only[]at m1 m2 m3 n1 n2 n3;have c1:=Qce (ρ:=ρ) { L with } S I1 (w.heap.size+1) 0 d W hIW hK hn (by omega) (by omega) hsz (by omega);rw[h1]at c1;have c2:∀w1,Cnt (w.heap.size+1) s1 w1→W.grownBy w1 (some (w.heap.size+1))→_:=fun w1 hc hg=>Qce (ρ:=ρ) { L with } S J (w.heap.size+1) s1 d w1 (S.keepAt hIW hn hg) hc hn (by omega) (by omega) hsz (by omega);rw[h2]at c2;have c3:∀w1,Cnt (w.heap.size+1) s2 w1→W.grownBy w1 (some (w.heap.size+1))→_:=fun w1 hc hg=>Qce (ρ:=ρ) { L with } S K (w.heap.size+1) s2 d w1 (S.keepAt hIW hn hg) hc hn (by omega) (by omega) hsz (by omega);rw[h3]at c3;have c4:∀w1,Cnt (w.heap.size+1) s3 w1→W.grownBy w1 (some (w.heap.size+1))→_:=fun w1 hc hg=>Qb9 (ρ:=ρ) { L with } S i1 j1 k1 (w.heap.size+1) s3 d w1 (S.keepAt hIW hn hg) hc hn (by omega) (by omega) (by omega) (by omega);rw[h4]at c4;rw[hraw];obtain⟨Hc,hHc⟩:∃Hc:Int,Hc=hintCode (hintOf s):=⟨_,rfl⟩;have hh0:s=0→Hc=1:=fun h=>by rw[hHc,h];rfl
   have hh12:s=12→Hc=2:=fun h=>by rw[hHc,h];rfl
   have hhx:s≠0→s≠12→Hc=0:=fun h1 h2=>by rw[hHc];unfold hintOf;rw[if_neg h1,if_neg h2];rfl
   show Calls P (ρ.f 29) _ w fun e w'=>e=.returned (.tuple #[.int .i64 (p:Int),.int .i64 (hintCode (hintOf s))])∧w.grownBy w' none;rw[←hHc];have C2:Aside _:=c2;have C3:Aside _:=c3;have C4:Aside _:=c4;clear hHc hraw h1 h2 h3 h4 hI1 hJ hKK m1 m2 m3 c2 c3 c4;go_enter L.f29,BodyGg.n29_ntmps ρ;go_wp2_with (first|(go_at_fn_of (ρ.f 37) (Value.int .i64 (I1:Int));refine c1.mono ?_;rintro e w1 ⟨rfl,k1',g1⟩;have y0:=cell_kept bx0 g1 hbl hne;have y1:=cell_kept bx1 g1 hbl hne)|(go_at_fn_of (ρ.f 37) (Value.int .i64 (J:Int));refine(C2.out _ k1' g1).mono ?_;rintro e w2 ⟨rfl,k2,g2'⟩;have g2:=Jm g1 g2';have x0:=cell_kept bx0 g2 hbl hne;have x1:=cell_kept bx1 g2 hbl hne)|(go_at_fn_of (ρ.f 37) (Value.int .i64 (K:Int));refine(C3.out _ k2 g2).mono ?_;rintro e w3 ⟨rfl,k3,g3'⟩;have g3:=Jm g2 g3';have q0:=cell_kept bx0 g3 hbl hne;have q1:=cell_kept bx1 g3 hbl hne)|(go_at_fn (ρ.f 38);refine(C4.out _ k3 g3).mono ?_;rintro e w4 ⟨rfl,k4,g4'⟩;have g4:=Jm g3 g4';have u4:=k4.cell))
   all_goals
    go_ret2;refine⟨?_,fin.out g4⟩
    first
     | (have e0:(s:Int)=0:=of_beq_int (by assumption);rw[hh0 (by omega)];rfl)
     | (have e1:(s:Int)=12:=of_beq_int (by assumption);rw[hh12 (by omega)];rfl)
     | (have e0:(s:Int)≠0:=of_bne_int (by assumption);have e1:(s:Int)≠12:=of_bne_int (by assumption);rw[hhx (by omega) (by omega)];rfl)
     | (rw[hh0 (by omega)];rfl)
  ·obtain⟨p,s,h4⟩:∃p s,median lt d I1 J K 0=(p,s):=⟨_,_,rfl⟩;have hraw:rawPivot lt d a b=(p,s):=(by simp only[rawPivot,if_pos h8,if_neg h50,←hI1,←hJ,←hKK,h4]);have c4:=Qb9 (ρ:=ρ) { L with } S I1 J K (w.heap.size+1) 0 d W hIW hK hn (by omega) (by omega) (by omega) (by omega);rw[h4]at c4;rw[hraw];obtain⟨Hc,hHc⟩:∃Hc:Int,Hc=hintCode (hintOf s):=⟨_,rfl⟩;have hh0:s=0→Hc=1:=fun h=>by rw[hHc,h];rfl
   have hh12:s=12→Hc=2:=fun h=>by rw[hHc,h];rfl
   have hhx:s≠0→s≠12→Hc=0:=fun h1 h2=>by rw[hHc];unfold hintOf;rw[if_neg h1,if_neg h2];rfl
   show Calls P (ρ.f 29) _ w fun e w'=>e=.returned (.tuple #[.int .i64 (p:Int),.int .i64 (hintCode (hintOf s))])∧w.grownBy w' none;rw[←hHc];clear hHc hraw h4 hI1 hJ hKK;go_enter L.f29,BodyGg.n29_ntmps ρ;go_wp2_with (first|(go_at_fn (ρ.f 38);refine c4.mono ?_;rintro e w4 ⟨rfl,k4,g4⟩;have u4:=k4.cell))
   all_goals
    go_ret2;refine⟨?_,fin.out g4⟩
    first
     | (have e0:(s:Int)=0:=of_beq_int (by assumption);rw[hh0 (by omega)];rfl)
     | (have e1:(s:Int)=12:=of_beq_int (by assumption);rw[hh12 (by omega)];rfl)
     | (have e0:(s:Int)≠0:=of_bne_int (by assumption);have e1:(s:Int)≠12:=of_bne_int (by assumption);rw[hhx (by omega) (by omega)];rfl)
     | (rw[hh0 (by omega)];rfl)
 ·obtain⟨p,hp⟩:∃p:Nat,p=J:=⟨_,rfl⟩;obtain⟨s,hs⟩:∃s:Nat,s=0:=⟨_,rfl⟩;have hraw:rawPivot lt d a b=(p,s):=by simp only[rawPivot,if_neg h8,←hJ,hp,hs]
  rw[hraw];obtain⟨Hc,hHc⟩:∃Hc:Int,Hc=hintCode (hintOf s):=⟨_,rfl⟩;have hh0:s=0→Hc=1:=fun h=>by rw[hHc,h];rfl
  have hh12:s=12→Hc=2:=fun h=>by rw[hHc,h];rfl
  have hhx:s≠0→s≠12→Hc=0:=fun h1 h2=>by rw[hHc];unfold hintOf;rw[if_neg h1,if_neg h2];rfl
  show Calls P (ρ.f 29) _ w fun e w'=>e=.returned (.tuple #[.int .i64 (p:Int),.int .i64 (hintCode (hintOf s))])∧w.grownBy w' none;rw[←hHc];rw[←hs]at hK;have u4:=hK.cell;clear hHc hraw;subst hp;clear hI1 hJ hKK;go_enter L.f29,BodyGg.n29_ntmps ρ
  go_wp2
  all_goals
   go_ret2;refine⟨?_,hgW⟩
   first
    | (have e0:(s:Int)=0:=of_beq_int (by assumption);rw[hh0 (by omega)];rfl)
    | (have e1:(s:Int)=12:=of_beq_int (by assumption);rw[hh12 (by omega)];rfl)
    | (have e0:(s:Int)≠0:=of_bne_int (by assumption);have e1:(s:Int)≠12:=of_bne_int (by assumption);rw[hhx (by omega) (by omega)];rfl)
    | (rw[hh0 (by omega)];rfl)
theorem Ve {l:List Hd}{x:Nat×Int}{k:Nat}(h:Z8 l x=some k):∃(hk:k<l.length),(x,l[k].2)∈l:=by
 obtain⟨hk,e⟩:=Jg h;refine⟨hk,?_⟩;rw[←e];exact List.getElem_mem hk
theorem of_below {w w':World}{b:Nat}{l:List Hd}(h:idPieces.Of w b l)(hb:Below w.heap.size w w'):idPieces.Of w' b l:=h.kept (Qw hb) (by simp)
theorem Zt {w:World}{b:Nat}{l:List Hd}(h:idPieces.Of w b l):idPieces.Of w.drew b l:=h.kept (grown_drewN w 1) (by simp)
theorem Qk {n:Nat}{w w':World}(h:Below n w w'):Below n w w'.drew:=h.drew
theorem Qr7 {a:Nat→Addr}(x:Nat×Int)(p:Addr)(F:Nat→Prop)(l:List Hd)(w:World)(hx:Zv x)(hE:Je [4] w a)(hP:Q0 w p F l) :
 Calls Tryz.prog 119 #[.pointer (some p),idV (x.1:Nat) x.2] w fun e w'=>∃ev,e=.returned (.tuple #[.string ⟨(Qal l x).1.toArray⟩,ev])∧Qp w.heap.size w' a ev ((Qal l x).2,-1)∧Below w.heap.size w w':=by
 obtain⟨B,b,rfl,hB,hM,hne,rfl⟩:=hP;have hBl:=hB.lt;have hal:=(Below.refl _ w).alloc wz (.cells #[.int .u32 (x.1:Nat),.int .i64 x.2] 25);have HG:Hid (∀W',Below w.heap.size w W'→∀i,([4]:List Nat).contains i=true→W'.cell? ⟨Xn i,0,none⟩=some (sentV a i)):=fun W' hb i hi=>(hE.below hb wz).glob i hi;cases hf:Z8 l x with
 | none=>
  have e2:Hid (Qal l x=([],5)):=by show _=_;unfold Qal;rw[hf]
  have hn:=J2 hf;have hl:∀W:World,idPieces.Of W b l→(Instr.lookup 168 (.map (some b)) (idV (x.1:Nat) x.2) true).run Tryz.prog W=.ok (.tuple #[Xz (0,[]),.bool false]) W:=fun W h=>h.look_none Tryz.underlying168 (Yt W) hx hn;have hI:=Blk.new w #[.int .u32 (x.1:Nat),.int .i64 x.2] 25;have hB1:=hB.next hal;have hM1:=of_below hM hal;go_enter Tryz.func119,Tryz.ntmps119;go_wp2_with fail;generalize hW:w.alloc (.cells #[.int .u32 (x.1:Nat),.int .i64 x.2] 25)=W at *;have hal2:=(Below.refl _ W).alloc wz (.cells #[.string ⟨#[]⟩,.int .i64 0] 172);have hI2:=hI.next hal2;have hB2:=hB1.next hal2;have hM2:=of_below hM1 hal2;have hP2:=Blk.new W #[.string ⟨#[]⟩,.int .i64 0] 172;have hbw:Below w.heap.size w (W.alloc (.cells #[.string ⟨#[]⟩,.int .i64 0] 172)):=hal.trans (hal2.mono hal.size);have x0:=hI.cell (i:=0) rfl;have x1:=hI.cell (i:=1) rfl;have q0:=hB1.cell (i:=0) rfl;have y0:=hI2.cell (i:=0) rfl;have y1:=hI2.cell (i:=1) rfl;have r0:=hB2.cell (i:=0) rfl;have p0:=hP2.cell (i:=0) rfl;have p1:=hP2.cell (i:=1) rfl;have f0:=hP2.frozen 0;have f1:=hP2.frozen 1;have l1:=hl W.drew (Zt hM1);have l2:=hl (W.alloc (.cells #[.string ⟨#[]⟩,.int .i64 0] 172)).drew (Zt hM2);go_region
  all_goals
   go_wp2_with fail;have hb3:=Qk hbw;have g4:(W.alloc (.cells #[.string ⟨#[]⟩,.int .i64 0] 172)).drew.cell? ⟨0,0,none⟩=some (sentV a 4):=HG.out _ hb3 4 (by decide);generalize (W.alloc (.cells #[.string ⟨#[]⟩,.int .i64 0] 172)).drew=W3 at *;go_region
   all_goals
    go_wp2_with fail;go_ret2;exact⟨_,by rw[e2.out];rfl,by rw[e2.out];exact Xr _ _ a 4 (by decide) rfl,Qk hb3⟩
 | some k=>
  obtain⟨hk,hm⟩:=Ve hf;have e2:Hid (Qal l x=(l[k].2.2,0)):=by show _=_;unfold Qal;rw[hf];simp[List.getElem?_eq_getElem hk]
  obtain⟨⟨u,t⟩,hc⟩:∃c,l[k].2=c:=⟨_,rfl⟩;rw[hc]at hm e2;clear hc;have hl:∀W:World,idPieces.Of W b l→(Instr.lookup 168 (.map (some b)) (idV (x.1:Nat) x.2) true).run Tryz.prog W=.ok (.tuple #[Xz (u,t),.bool true]) W:=fun W h=>h.look_some Tryz.underlying168 (Yt W) hm;have hI:=Blk.new w #[.int .u32 (x.1:Nat),.int .i64 x.2] 25;have hB1:=hB.next hal;have hM1:=of_below hM hal;go_enter Tryz.func119,Tryz.ntmps119;go_wp2_with fail;generalize hW:w.alloc (.cells #[.int .u32 (x.1:Nat),.int .i64 x.2] 25)=W at *;have hal2:=(Below.refl _ W).alloc wz (.cells #[.string ⟨#[]⟩,.int .i64 0] 172);have hI2:=hI.next hal2;have hB2:=hB1.next hal2;have hM2:=of_below hM1 hal2;have hP2:=Blk.new W #[.string ⟨#[]⟩,.int .i64 0] 172;have hbw:Below w.heap.size w (W.alloc (.cells #[.string ⟨#[]⟩,.int .i64 0] 172)):=hal.trans (hal2.mono hal.size);have x0:=hI.cell (i:=0) rfl;have x1:=hI.cell (i:=1) rfl;have q0:=hB1.cell (i:=0) rfl;have y0:=hI2.cell (i:=0) rfl;have y1:=hI2.cell (i:=1) rfl;have r0:=hB2.cell (i:=0) rfl;have p0:=hP2.cell (i:=0) rfl;have p1:=hP2.cell (i:=1) rfl;have f0:=hP2.frozen 0;have f1:=hP2.frozen 1;have l1:=hl W.drew (Zt hM1);have l2:=hl (W.alloc (.cells #[.string ⟨#[]⟩,.int .i64 0] 172)).drew (Zt hM2);go_region
  all_goals
   have hal3:=(Below.refl _ W).alloc wz (.cells #[.string ⟨t.toArray⟩,.int .i64 u] 172);have hP3:=Blk.new W #[.string ⟨t.toArray⟩,.int .i64 u] 172;have hb3:=Qk (hal.trans (hal3.mono hal.size));have t0:(W.alloc (.cells #[.string ⟨t.toArray⟩,.int .i64 u] 172)).drew.cell? ⟨W.heap.size,0,none⟩=_:=hP3.cell (i:=0) rfl;generalize (W.alloc (.cells #[.string ⟨t.toArray⟩,.int .i64 u] 172)).drew=W3 at *;go_wp2_with fail;go_ret2;exact⟨_,by rw[e2.out];rfl,by rw[e2.out];exact .inl ⟨rfl,rfl⟩,hb3⟩
theorem Qtk:Keyed Tryz.prog 9:=string_keyed Tryz.underlying9
theorem Qds (v:Value):keyOf Tryz.prog 9 v=mapKey Tryz.prog 9 v:=by
 unfold keyOf;rw[Tryz.underlying9]
def Qfr (x:List UInt8):Prop:=x.length≤maxLen
theorem Qvz (x:List UInt8)(hx:Qfr x):∃kl,keyOf Tryz.prog 9 (.string ⟨x.toArray⟩)=some kl:=by
 refine⟨.string x,?_⟩;rw[Qds];unfold mapKey;rw[Tryz.underlying9];have h1:x.toArray.size=x.length:=List.size_toArray;have:(⟨x.toArray⟩:ByteArray).size≤maxLen:=by show x.toArray.size≤maxLen;rw[h1];exact hx
 simp only[this,if_true]
theorem Qwg (v:Value)(kl:Lit)(h:keyOf Tryz.prog 9 v=some kl):∃x:List UInt8,Qfr x∧v=.string ⟨x.toArray⟩:=by
 rw[Qds]at h;unfold mapKey at h;rw[Tryz.underlying9]at h;cases v<;>simp only[reduceCtorEq]at h
 next s=>
  split at h
  ·rename_i hs
   exact⟨s.data.toList,by show s.data.toList.length≤maxLen;rw[Array.length_toList];exact hs,rfl⟩
  ·cases h
theorem Qwf (x:List UInt8)(hx:Qfr x):(keyOf Tryz.prog 9 (.string ⟨x.toArray⟩)).getD (.bool false)=.string x:=by
 rw[Qds];unfold mapKey;rw[Tryz.underlying9];have h1:x.toArray.size=x.length:=List.size_toArray;have:(⟨x.toArray⟩:ByteArray).size≤maxLen:=by show x.toArray.size≤maxLen;rw[h1];exact hx
 simp only[this,if_true];rfl
abbrev Rw:=List UInt8×Int×Int×Value
abbrev rwV (c:Rw):Value:=rcpV ⟨c.1.toArray⟩ c.2.1 c.2.2.1 c.2.2.2
def Qv2:Value→Option Rw
 | .agg cs=>match cs.toList with
  | [.string s,.int .i64 l,.int .u32 p,v]=>some (s.data.toList,l,p,v)
  | _=>none
 | _=>none
theorem Qp3 (v:Value)(c:Rw)(h:Qv2 v=some c):v=rwV c:=by
 unfold Qv2 at h;split at h
 next cs=>
  split at h
  next s l p v e=>
   cases h;have:cs = #[Value.string s,Value.int .i64 l,Value.int .u32 p,v]:=(by rw[←Array.toArray_toList (xs:=cs),e]);rw[this]
  next=>cases h
 next=>cases h
def strRcps:Qf Tryz.prog 9 (List UInt8) Rw where
 mkK x:=.string ⟨x.toArray⟩
 wf:=Qfr
 mkV:=rwV
 unV:=Qv2
 K:=Qtk
 key:=Qvz
 inv:=Qwg
 inj x y e:=by have e1:(⟨x.toArray⟩:ByteArray)=⟨y.toArray⟩:=Value.string.inj e;have e2:=congrArg (fun b:ByteArray=>b.data.toList) e1;simpa using e2
 un _:=rfl
 back:=Qp3
def Qvr:Value→Option (Option Addr)
 | .pointer p=>some p
 | _=>none
def idBins:Qf Tryz.prog 25 (Nat×Int) (Option Addr) where
 mkK x:=idV (x.1:Nat) x.2
 wf:=Zv
 mkV p:=.pointer p
 unV:=Qvr
 K:=Qj6
 key:=Qsz
 inv:=Qsd
 inj x y e:=by have e1:=Array.mk.inj (Value.agg.inj e);simp at e1;exact Prod.ext (by omega) e1.2
 un _:=rfl
 back v c h:=by
  unfold Qvr at h;split at h
  ·cases h;rfl
  ·cases h
theorem Qbc (w:World):(zeroValue 47).run Tryz.prog w=.ok (.pointer none) w:=by kernel_rfl
theorem Y5 (w:World):(zeroValue 40).run Tryz.prog w=.ok (rwV ([],0,0,.slice none 0 0)) w:=by kernel_rfl
theorem Qr3 {w:World}{b:Nat}{l:List (List UInt8×Rw)}(h:strRcps.Of w b l):strRcps.Of w.drew b l:=h.kept (grown_drewN w 1) (by simp)
theorem Qde {w:World}{b:Nat}{l:List ((Nat×Int)×Option Addr)}(h:idBins.Of w b l):idBins.Of w.drew b l:=h.kept (grown_drewN w 1) (by simp)
theorem Qig {w w':World}{b:Nat}{l:List ((Nat×Int)×Option Addr)}(h:idBins.Of w b l)(hb:Below w.heap.size w w'):idBins.Of w' b l:=h.kept (Qw hb) (by simp)
end Go.Proofs.YtjngnnbondejaabGreatDoor
