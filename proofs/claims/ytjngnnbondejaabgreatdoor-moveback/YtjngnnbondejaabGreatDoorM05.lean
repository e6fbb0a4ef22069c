/- A part. -/
import Derived.Test.YtjngnnbondejaabGreatDoorM04
set_option maxHeartbeats 4000000
set_option maxRecDepth 100000
namespace Go.Proofs.YtjngnnbondejaabGreatDoor
open Go.RowKit
theorem Qta (B:Nat)(v:Value)(l:List Hd)(s:ByteArray)(w:World)(hn:l.length≤250)(hu:∀h∈l,0≤h.2.1∧h.2.1≤1000000)(h:Qt w B v l) :
 Calls Tryz.prog 156 #[.pointer (some ⟨B,0,none⟩),.string s] w (U5 w B v (Zu l s.data.toList)):=by
 by_cases hs:s.size<1∨64<s.size
 ·exact Qoe B v l s w hs h
 ·cases hf:Z8 l (Qc s.data.toList)with
  | some k=>exact Qn3 B v l s w (by omega) (by omega) (by unfold maxLen;omega) hu k hf h
  | none=>
   by_cases hl:250≤l.length
   ·exact Qq0 B v l s w (by omega) (by omega) (by unfold maxLen;omega) hf hl h
   ·exact Qto B v l s w (by omega) (by omega) hf (by omega) h
theorem Qel {p:Hd→Bool}(l:List Hd)(k:Nat)(h:k<l.length):(l.take (k+1)).filter p=(l.take k).filter p++(if p l[k]=true then [l[k]] else []):=by
 rw[List.take_succ_eq_append_getElem h,List.filter_append];congr 1;by_cases hp:p l[k]=true
 ·simp[hp]
 ·simp[hp]
theorem Qm4 (B:Nat)(v:Value)(l:List Hd)(w:World)(hn:l.length≤250)(hs:∀h∈l,0≤h.1.2∧h.1.2≤64)(h:Qt w B v l) :
 Calls Tryz.prog 158 #[.pointer (some ⟨B,0,none⟩)] w fun e w'=>∃v',e=.returned (.int .i64 (Q8 l).1)∧Qt w' B v' (Q8 l).2∧(∀k,v'.ownBlock=some k→w.heap.size≤k)∧Off (Qt.Of B v) w w':=by
 obtain⟨ti,hi,hz0,hz1,hz2⟩:=info_parts Qc8;obtain⟨pa,c,hv,hcell⟩:=h.at;have HR:Hid (Qt w B v l):=h;have hB0:=h.blk.cell (i:=0) rfl;have hBf:=h.blk.frozen 0;have hBl:=h.blk.lt;rw[hv]at hB0;have hl2:(l.length:Int)≤250:=by omega
 have HL:Hid (l.length≤250):=hn;have HC:Hid (∀W',Below w.heap.size w W'→∀i (h:i<l.length),∃b o,pa=some ⟨b,o,none⟩∧W'.cell? ⟨b,o+i*4,none⟩=some (.int .u32 (l[i].1.1:Nat))∧W'.cell? ⟨b,o+i*4+1,none⟩=some (.int .i64 l[i].1.2) ∧
  W'.cell? ⟨b,o+i*4+2,none⟩=some (.int .i64 l[i].2.1)∧W'.cell? ⟨b,o+i*4+3,none⟩=some (.string ⟨l[i].2.2.toArray⟩)):=fun W' hb i hi=>by obtain⟨b,o,hp,⟨hl',_⟩,a0,a1,a2,a3⟩:=hcell i hi;exact⟨b,o,hp,(hb.cell (p:=⟨b,o+i*4,none⟩) hl').trans a0,(hb.cell (p:=⟨b,o+i*4+1,none⟩) hl').trans a1,(hb.cell (p:=⟨b,o+i*4+2,none⟩) hl').trans a2,(hb.cell (p:=⟨b,o+i*4+3,none⟩) hl').trans a3⟩
 have HB:Hid (∀k,k≤l.length→0≤Qx ((l.take k).filter unused)∧Qx ((l.take k).filter unused)≤16000):=fun k hk=>by have:=Gq ((l.take k).filter unused) 64 (by decide) (fun h hm=>hs h (List.mem_of_mem_take (List.mem_filter.1 hm).1));have h2:=List.length_filter_le unused (l.take k);rw[List.length_take,Nat.min_eq_left hk]at h2;omega
 have HKL:Hid (∀k,k≤l.length→((l.take k).filter (fun h => !unused h)).length≤k):=fun k hk=>by have h2:=List.length_filter_le (fun h => !unused h) (l.take k);rw[List.length_take,Nat.min_eq_left hk]at h2;exact h2
 have HS:Hid (∀h∈l,0≤h.1.2∧h.1.2≤64):=hs;clear hcell h hn hs;go_enter Tryz.func158,Tryz.ntmps158;go_wp2_with fail
 go_loopw [3,4,5] (fun n u i wr=>∃j:Nat,j≤l.length∧i=.int .i64 j∧n=.int .i64 (Qx ((l.take j).filter unused))∧Below w.heap.size w wr∧wr.ownsRow w.heap.size 78 4 u ((l.take j).filter (fun h => !unused h)).length (heldCells ((l.take j).filter (fun h => !unused h)))) (fun _ _ i _=>l.length - (intOf i).toNat)
 case atStart=>exact⟨0,Nat.zero_le _,rfl,rfl,Below.refl _ _,World.ownsRow_nil _ _ _ _⟩
 case round=>
  obtain⟨j,hj,rfl,rfl,hbr,hown⟩:=hrel;have q0:=(hbr.cell (p:=⟨B,0,none⟩) hBl).trans hB0;have HBR:Hid (Below w.heap.size w wr):=hbr;have HO:Hid (wr.ownsRow w.heap.size 78 4 u4 ((l.take j).filter (fun h => !unused h)).length (heldCells ((l.take j).filter (fun h => !unused h)))):=hown;obtain⟨p4,c4,hu4,_⟩:=Q4.of_row hown;have HU4:Hid (u4=.slice p4 ((l.take j).filter (fun h => !unused h)).length c4):=hu4;clear hown hbr hu4;by_cases hlt:j<l.length
  ·have hlt':(j:Int)<(l.length:Int):=(by omega);obtain⟨b,o,rfl,a0,a1,a2,a3⟩:=HC.out wr HBR.out j hlt;have HF1:Hid ((l.take (j+1)).filter unused=(l.take j).filter unused++(if unused l[j]=true then [l[j]] else [])):=Qel l j hlt
   have HF2:Hid ((l.take (j+1)).filter (fun h => !unused h)=(l.take j).filter (fun h => !unused h)++(if (!unused l[j])=true then [l[j]] else [])):=Qel l j hlt
   obtain⟨n1,n2⟩:=HB.out j hj;obtain⟨m1,m2⟩:=HB.out (j+1) hlt;have HK:=HKL.out j hj;by_cases hz:l[j].2.1=0
   ·have hun:unused l[j]=true:=(by unfold unused;rw[hz];rfl);have HE1:Hid (Qx ((l.take (j+1)).filter unused)=Qx ((l.take j).filter unused)+l[j].1.2):=(by show _=_;rw[HF1.out,hun,if_pos rfl,Qx,List.map_append,List.sum_append];simp[Qx]);have HE2:Hid ((l.take (j+1)).filter (fun h => !unused h)=(l.take j).filter (fun h => !unused h)):=(by show _=_;rw[HF2.out,hun];simp);rw[HE1.out]at m1 m2;rw[hz]at a2;clear HF1 HF2 hun hz HK;generalize Qx ((l.take j).filter unused)=n at *;obtain⟨y,hy⟩:∃y,l[j].1.2=y:=⟨_,rfl⟩;rw[hy]at a1 m1 m2 HE1;clear hy a0 a3;have HW:IntKind.i64.wrap (n+y)=n+y:=(by rw[IntKind.wrap_i64];omega);go_wp2_with fail;go_roundw
    case rel=>exact⟨j+1,by omega,by go_num,by rw[HE1.out],HBR.out,by rw[HE2.out];exact HO.out⟩
    case measure=>simp[intOf];omega
   ·have hun:unused l[j]=false:=(by unfold unused;exact decide_eq_false hz);have HE1:Hid (Qx ((l.take (j+1)).filter unused)=Qx ((l.take j).filter unused)):=(by show _=_;rw[HF1.out,hun];simp);have HE2:Hid ((l.take (j+1)).filter (fun h => !unused h)=(l.take j).filter (fun h => !unused h)++[l[j]]):=(by show _=_;rw[HF2.out,hun];simp);have hz':(l[j].2.1==0)=false:=beq_eq_false_iff_ne.2 hz;clear HF1 HF2 hun hz m1 m2 n1 n2;obtain⟨y,hy⟩:∃y,l[j]=y:=⟨_,rfl⟩;rw[hy]at a0 a1 a2 a3 HE2 hz';clear hy;generalize Qx ((l.take j).filter unused)=n at *;generalize (l.take j).filter (fun h => !unused h)=ks at *;have HKK:Hid (ks.length≤j):=HK;clear HK;have HJL:Hid (j<l.length):=hlt;go_wp2_with (at_builtin;refine wpList_append_own _ rfl (.tmp 35) (.tmp 43) 56 rfl w.heap.size 78 ti (heldV ((0,0),0,[])) 4 40 Tryz.underlying56 hi hz0 hz1 hz2 rfl (by decide) u4 ks.length (heldCells ks) rfl (HO.out.alloc _) ⟨wr.heap.size,0,none⟩ 1 1 (heldCells [y]) rfl rfl (Qag wr y _ _ rfl) (Zm _) (by have:=HL.out;have:=HKK.out;have:=HJL.out;unfold maxLen;omega) (by have:=HL.out;have:=HKK.out;have:=HJL.out;omega) (by have:=HBR.out.size;simp;omega) ?_;intro v5 w5 ho5 hg5 _;have hB5:Below w.heap.size w w5:=(HBR.out.alloc HBR.out.size _).grown hg5 (by have:=HBR.out.size;simp;omega) (fun k hk=>(HO.out.lt k hk).1);have HO5:Hid (w5.ownsRow w.heap.size 78 4 v5 (ks.length+1) (heldCells ks++heldCells [y])):=ho5;have HB5:Hid (Below w.heap.size w w5):=hB5;clear hg5 ho5 hB5);go_roundw
    case rel=>exact⟨j+1,by omega,by go_num,by rw[HE1.out],HB5.out,by rw[HE2.out,Z4,List.length_append];exact HO5.out⟩
    case measure=>simp[intOf];omega
  ·have hge:¬((j:Int)<(l.length:Int)):=(by omega);have HT:Hid (l.take j=l):=List.take_of_length_le (by omega);rw[HT.out]at HO HU4 ⊢;have e2:Hid (Q8 l=(Qx (l.filter unused),l.filter (fun h => !unused h))):=rfl;generalize Qx (l.filter unused)=n at *;generalize l.filter (fun h => !unused h)=ks at *;have hf:=(HBR.out.frozen (p:=⟨B,0,none⟩) hBl).trans hBf;obtain rfl:=HU4.out;go_wp2_with fail;go_ret;refine⟨by rw[e2.out];rfl,.slice p4 ks.length c4,?_,fun k hk=>(HO.out.lt k hk).1,(Off.of_below HBR.out).setCell (p:=⟨B,0,none⟩) (.inl (.inl rfl)) _⟩;rw[e2.out];exact⟨(HR.out.blk.below HBR.out hBl).set 0 _,Jc (ownsRow_setCell_below HO.out (a:=⟨B,0,none⟩) hBl _) (Nat.zero_le _)⟩
open Go.RowKit Go.Maps
def Qi4 (w:World)(r:Option (List Hd))(e:Ending)(w':World):Prop:=
 (match r with
  | none=>e=.returned (.pointer none)
  | some l=>∃p' F',e=.returned (.pointer (some p'))∧Q0 w' p' F' l∧∀k,F' k→w.heap.size≤k)∧Below w.heap.size w w'
theorem Gm (x:Nat×Int)(p:Addr)(F:Nat→Prop)(st:NSt)(w:World)(hx:Zv x)(hP:Q9 w p F st) :
 Calls Tryz.prog 19 #[.pointer (some p),idV (x.1:Nat) x.2] w (Qi4 w (Zi st.bins x)):=by
 obtain⟨N,mf,mb,vi,pi,Fi,rfl,h,_⟩:=hP;have hal:=(Below.refl _ w).alloc wz (.cells #[.int .u32 (x.1:Nat),.int .i64 x.2] 25);have hI:=Blk.new w #[.int .u32 (x.1:Nat),.int .i64 x.2] 25;have h1:=h.below hal;have hN:=h1.blk;have HH:=Qa h1;cases hf:Zi st.bins x with
 | none=>
  have hl:∀W:World,idBins.Of W mb (st.bins.map fun b=>(b.1,some (pi b.1)))→(Instr.lookup 119 (.map (some mb)) (idV (x.1:Nat) x.2) true).run Tryz.prog W=.ok (.tuple #[.pointer none,.bool false]) W:=fun W h=>h.look_none Tryz.underlying119 (Qbc W) hx (fun y hy=>by obtain⟨b,hb,rfl⟩:=List.mem_map.1 hy;exact Qa3 hf b hb);clear h h1;go_enter Tryz.func19,Tryz.ntmps19;go_wp2_with fail;generalize w.alloc (.cells #[.int .u32 (x.1:Nat),.int .i64 x.2] 25)=W at *;have x0:=hI.cell (i:=0) rfl;have x1:=hI.cell (i:=1) rfl;have q0:=hN.cell (i:=0) rfl;have q1:=hN.cell (i:=1) rfl;have l1:=hl W.drew (Qde HH.out.bins);have l0:=hl W HH.out.bins;go_wp2_with fail;go_region
  all_goals
   have hb3:=Qk hal;generalize W.drew=W3 at *;go_wp2_with fail;go_ret;exact⟨rfl,hb3⟩
 | some l=>
  have hm:=J3 hf;have HB:=Qa (h1.bin _ hm);have hl:∀W:World,idBins.Of W mb (st.bins.map fun b=>(b.1,some (pi b.1)))→(Instr.lookup 119 (.map (some mb)) (idV (x.1:Nat) x.2) true).run Tryz.prog W=.ok (.tuple #[.pointer (some (pi x)),.bool true]) W:=fun W h=>h.look_some Tryz.underlying119 (Qbc W) (List.mem_map.2 ⟨_,hm,rfl⟩);clear h h1 hm;generalize pi x=q at *;simp only at HB;go_enter Tryz.func19,Tryz.ntmps19;go_wp2_with fail;generalize w.alloc (.cells #[.int .u32 (x.1:Nat),.int .i64 x.2] 25)=W at *;have x0:=hI.cell (i:=0) rfl;have x1:=hI.cell (i:=1) rfl;have q0:=hN.cell (i:=0) rfl;have q1:=hN.cell (i:=1) rfl;have l1:=hl W.drew (Qde HH.out.bins);have l0:=hl W HH.out.bins;go_wp2_with fail;go_region
  all_goals
   have hb3:=Qk hal;have HC:=Qa (Qrl q (Fi x) l W.drew (HB.out.off (Off.of_below (F:=fun _=>False) (Below.refl _ W).drew) (fun _ _ h=>h)));generalize W.drew=W3 at *;go_wp2_with fail;refine HC.out.mono ?_;rintro e w4 ⟨p',F',rfl,hp4,hf4,hb4⟩;go_wp2_with fail;go_ret;exact⟨⟨p',F',rfl,hp4,fun k hk=>Nat.le_trans hb3.size (hf4 k hk)⟩,hb3.trans (hb4.mono hb3.size)⟩
theorem Qm0 {l:List Hd}(hr:Y7 l){i k:Nat}(hi:i<l.length)(hk:k<l.length)(h:i≠k):l[i].1≠l[k].1:=by
 unfold Y7 at hr;rw[List.pairwise_iff_getElem]at hr;rcases Nat.lt_or_gt_of_ne h with h|h
 ·exact Kr (hr i k hi hk h)
 ·exact fun e=>Kr (hr k i hk hi h) e.symm
theorem modify_all {l:List Hd}{k:Nat}{d:Int}(hr:Y7 l)(hk:k<l.length){z:Hd}(hz:z∈l.modify k (hUse d)):(z∈l∧z.1≠l[k].1)∨z=hUse d l[k]:=by
 obtain⟨i,hi,rfl⟩:=List.getElem_of_mem hz;rw[List.length_modify]at hi;rw[List.getElem_modify];split
 ·rename_i e
  subst e;exact .inr rfl
 ·rename_i e
  exact .inl ⟨List.getElem_mem _,Qm0 hr hi hk (fun h=>e h.symm)⟩
theorem Vk {l:List Hd}{k:Nat}{d:Int}(hk:k<l.length){z:Hd}(hz:z∈l)(hn:z.1≠l[k].1):z∈l.modify k (hUse d):=by
 obtain⟨i,hi,rfl⟩:=List.getElem_of_mem hz;have hik:¬k=i:=fun e=>by subst e;exact hn rfl
 have h:(l.modify k (hUse d))[i]'(by rw[List.length_modify];exact hi)=l[i]:=by rw[List.getElem_modify,if_neg hik]
 rw[←h];exact List.getElem_mem _
theorem qa {l:List Hd}{k:Nat}{d:Int}(hk:k<l.length):hUse d l[k]∈l.modify k (hUse d):=by
 have h:(l.modify k (hUse d))[k]'(by rw[List.length_modify];exact hk)=hUse d l[k]:=by rw[List.getElem_modify,if_pos rfl]
 rw[←h];exact List.getElem_mem _
structure Log (l:List Hd)(log:List (List UInt8)):Prop where
 cnt:∀h∈l,h.2.1=((log.count h.2.2:Nat):Int)
 has:∀s∈log,∃u,(Qc s,u,s)∈l
 only:∀h∈l,h.2.2∈log
theorem Log.nil:Log [] []:=⟨fun h hm=>by simp at hm,fun s hm=>by simp at hm,fun h hm=>by simp at hm⟩
theorem Log.none {l:List Hd}(h:Log l []):l=[]:=by
 cases l with
 | nil=>rfl
 | cons x r=>have:=h.only x (List.mem_cons_self ..);simp at this
theorem Log.used {l:List Hd}{log:List (List UInt8)}(h:Log l log):∀x∈l,1≤x.2.1:=fun x hx=>by
 have h1:=List.count_pos_iff.2 (h.only x hx);rw[h.cnt x hx];omega
theorem Log.sweep {l:List Hd}{log:List (List UInt8)}(h:Log l log):(Q8 l).2=l:=by
 show l.filter _=l;rw[List.filter_eq_self];intro x hx;have:=h.used x hx;have hn:¬x.2.1=0:=by omega
 simp[unused,hn]
theorem Log.one {U:Int}{l:List Hd}{log:List (List UInt8)}(hok:Qd U l)(h:Log l log){s:List UInt8}(hs:s∈log):∃(k:Nat) (hk:k<l.length),Z8 l (Qc s)=some k∧l[k].1=Qc s∧l[k].2.2=s:=by
 obtain⟨u,hu⟩:=h.has s hs;obtain⟨k,hk⟩:=Qih hu;obtain⟨hkl,he⟩:=Jg hk;have e:=V3 hok.rise (List.getElem_mem hkl) hu he;exact⟨k,hkl,hk,he,by rw[e]⟩
theorem Log.get {U:Int}{l:List Hd}{log:List (List UInt8)}(hok:Qd U l)(h:Log l log){s:List UInt8}(hs:s∈log):Qal l (Qc s)=(s,0):=by
 obtain⟨k,hk,hf,_,ht⟩:=h.one hok hs;simp only[Qal,hf,List.getElem?_eq_getElem hk,Option.map_some,Option.getD_some,ht]
theorem Log.same {U:Int}{l:List Hd}{log:List (List UInt8)}(hok:Qd U l)(h:Log l log){s t:List UInt8}(hs:s∈log)(ht:t∈log)(e:Qc s=Qc t):s=t:=by
 have h1:=h.get hok hs;have h2:=h.get hok ht;rw[e,h2]at h1;exact(Prod.ext_iff.1 h1).1.symm
theorem Log.put {U:Int}{l:List Hd}{log:List (List UInt8)}(hok:Qd U l)(h:Log l log){s:List UInt8}(he:(Zu l s).1.2.2=0):(Zu l s).1.1=Qc s∧Log (Zu l s).2 (log++[s]):=by
 revert he
 unfold Zu;split
 ·exact fun h=>by simp at h
 ·split
  ·rename_i k hf
   obtain⟨hk,hid⟩:=Jg hf;split
   ·rename_i ht
    intro _;rw[List.getElem?_eq_getElem hk,Option.map_some]at ht;have ht:l[k].2.2=s:=Option.some.inj ht;refine⟨rfl,fun z hz => ?_,fun t hm => ?_,fun z hz => ?_⟩
    ·rcases modify_all hok.rise hk hz with⟨hm,hn⟩|rfl
     ·have hne:s≠z.2.2:=fun e=>hn (((hok.each z hm).1.trans (by rw[←e])).trans hid.symm);rw[h.cnt z hm,List.count_append,List.count_singleton];simp[hne]
     ·show l[k].2.1+1=((log++[s]).count l[k].2.2:Nat);rw[h.cnt _ (List.getElem_mem hk),ht,List.count_append,List.count_singleton_self];omega
    ·by_cases e:t=s
     ·subst e;refine⟨l[k].2.1+1,?_⟩;have:=qa (d:=1) hk;rw[hUse,hid,ht]at this;exact this
     ·have hm:t∈log:=by
       rcases List.mem_append.1 hm with hm|hm
       ·exact hm
       ·exact absurd (List.mem_singleton.1 hm) e
      obtain⟨u,hu⟩:=h.has t hm;refine⟨u,Vk hk hu fun e2 => ?_⟩;have:=V3 hok.rise hu (List.getElem_mem hk) e2;exact e (by rw[←ht,←this])
    ·rcases modify_all hok.rise hk hz with⟨hm,hn⟩|rfl
     ·exact List.mem_append_left _ (h.only z hm)
     ·exact List.mem_append_left _ (h.only l[k] (List.getElem_mem hk))
   ·exact fun h=>by simp at h
  ·rename_i hf
   split
   ·exact fun h=>by simp at h
   ·intro _;have hno:s ∉ log:=fun hs=>by obtain⟨u,hu⟩:=h.has s hs;exact J2 hf _ hu rfl
    refine⟨rfl,fun z hz => ?_,fun t hm => ?_,fun z hz => ?_⟩
    ·rcases hIns_mem hz with rfl|hm
     ·show(1:Int)=((log++[s]).count s:Nat);rw[List.count_append,List.count_singleton_self,List.count_eq_zero.2 hno];rfl
     ·have hne:s≠z.2.2:=fun e=>hno (e▸h.only z hm);rw[h.cnt z hm,List.count_append,List.count_singleton];simp[hne]
    ·rcases List.mem_append.1 hm with hm|hm
     ·obtain⟨u,hu⟩:=h.has t hm;exact⟨u,Qdi (.inr hu)⟩
     ·rw[List.mem_singleton.1 hm];exact⟨1,Qdi (.inl rfl)⟩
    ·rcases hIns_mem hz with rfl|hm
     ·exact List.mem_append_right _ (List.mem_singleton.2 rfl)
     ·exact List.mem_append_left _ (h.only z hm)
theorem Log.drop {U:Int}{l:List Hd}{s:List UInt8}{r:List (List UInt8)}(hok:Qd U l)(h:Log l (s::r)):(Jw l (Qc s)).1=0∧Log (Q8 (Jw l (Qc s)).2).2 r:=by
 obtain⟨k,hk,hf,hid,ht⟩:=h.one hok (List.mem_cons_self ..);have hc:l[k].2.1=((r.count s:Nat):Int)+1:=by rw[h.cnt _ (List.getElem_mem hk),ht,List.count_cons_self];omega
 have e:Jw l (Qc s)=(0,l.modify k (hUse (-1))):=by
  have hn:¬(l[k]?.map (·.2.1))=some 0:=fun e=>by rw[List.getElem?_eq_getElem hk,Option.map_some]at e;have:=Option.some.inj e;omega
  simp only[Jw,hf,if_neg hn]
 rw[e];refine⟨rfl,fun z hz => ?_,fun t hm => ?_,fun z hz => ?_⟩
 ·obtain⟨hz,hu⟩:=List.mem_filter.1 hz;rcases modify_all hok.rise hk hz with⟨hm,hn⟩|rfl
  ·have hne:s≠z.2.2:=fun e=>hn (((hok.each z hm).1.trans (by rw[←e])).trans hid.symm);rw[h.cnt z hm,List.count_cons_of_ne hne]
  ·show l[k].2.1+-1=((r.count l[k].2.2:Nat):Int);rw[hc,ht];omega
 ·obtain⟨u,hu⟩:=h.has t (List.mem_cons_of_mem _ hm);have hcp:1≤r.count t:=List.count_pos_iff.2 hm;by_cases e:t=s
  ·subst e;have ho:=qa (d:=-1) hk;rw[hUse,hid,ht,hc]at ho;refine⟨_,List.mem_filter.2 ⟨ho,?_⟩⟩;have:¬(((r.count t:Nat):Int)+1+-1)=0:=(by omega);simp[unused,this]
  ·refine⟨u,List.mem_filter.2 ⟨Vk hk hu fun e2 => ?_,?_⟩⟩
   ·have:=V3 hok.rise hu (List.getElem_mem hk) e2;exact e (by rw[←ht,←this])
   ·have:=h.used _ hu;have hn:¬u=0:=(by have h1:1≤u:=this;omega);simp[unused,hn]
 ·obtain⟨hz,hu⟩:=List.mem_filter.1 hz;rcases modify_all hok.rise hk hz with⟨hm,hn⟩|rfl
  ·have hne:z.2.2≠s:=fun e=>hn (((hok.each z hm).1.trans (by rw[e])).trans hid.symm);rcases List.mem_cons.1 (h.only z hm)with e|hm
   ·exact absurd e hne
   ·exact hm
  ·show l[k].2.2∈r;rw[ht];have hnz:¬(l[k].2.1+-1=0):=by intro e;have:unused (hUse (-1) l[k])=true:=(by simp only[unused,hUse,e];rfl);rw[this]at hu;cases hu
   exact List.count_pos_iff.1 (by omega)
abbrev Qjr (s:List UInt8):Value:=.string ⟨s.toArray⟩
def idC:List (Nat×Int)→List Value
 | []=>[]
 | x::r=>.int .u32 (x.1:Nat)::.int .i64 x.2::idC r
theorem Qs1:∀(a:List (Nat×Int)) (i:Nat) (h:i<a.length),(idC a)[i*2]? = some (.int .u32 (a[i].1:Nat))∧(idC a)[i*2+1]? = some (.int .i64 a[i].2)
 | x::r,0,_=>⟨rfl,rfl⟩
 | x::r,i+1,h=>by have:=Qs1 r i (by simpa using h);rw[idC,show(i+1)*2=i*2+1+1 by omega];simpa using this
structure K9 (PB:Qdm)(w W:World)(p:Addr)(F:Nat→Prop)(l:List Hd)(vt vi:Value)(lt li:List (List UInt8)):Prop where
 below:Below w.heap.size w W
 pb:PB W p F l
 pnew:∀k,F k→w.heap.size≤k
 rt:W.ownsRow w.heap.size 9 1 vt lt.length (lt.map Qjr)
 ri:W.ownsRow w.heap.size 25 2 vi li.length (idC (li.map Qc))
 pt:∀k,F k→vt.ownBlock≠some k
 pi:∀k,F k→vi.ownBlock≠some k
 ti:∀k,vt.ownBlock=some k→vi.ownBlock≠some k
theorem Qan {w:World}{base:Nat}{e:TypeId}{size:Nat}{v:Value}{n:Nat}{xs:List Value}(h:w.ownsRow base e size v n xs){j:Nat}(hj:v.ownBlock=some j):j<w.heap.size:=by
 obtain⟨_,h⟩:=h;rcases h with⟨rfl,_⟩|⟨g,cap,cur,rfl,_,hh,_⟩
 ·simp[Value.ownBlock]at hj
 ·simp[Value.ownBlock]at hj;subst hj;exact lt_of_block hh
theorem Kc {w:World}{base:Nat}{e:TypeId}{size:Nat}{v:Value}{n:Nat}{xs:List Value}(h:w.ownsRow base e size v n xs){j:Nat}(hj:v.ownBlock=some j):base≤j:=by
 obtain⟨_,h⟩:=h;rcases h with⟨rfl,_⟩|⟨g,cap,cur,rfl,hg,_⟩
 ·simp[Value.ownBlock]at hj
 ·simp[Value.ownBlock]at hj;omega
theorem K9.start {PB:Qdm}{w W:World}{p:Addr}{F:Nat→Prop}(hb:Below w.heap.size w W)(hP:PB W p F [])(hF:∀k,F k→w.heap.size≤k):K9 PB w W p F [] (.slice none 0 0) (.slice none 0 0) [] []:=
 ⟨hb,hP,hF,World.ownsRow_nil _ _ _ _,World.ownsRow_nil _ _ _ _,fun _ _ h=>by simp[Value.ownBlock]at h,fun _ _ h=>by simp[Value.ownBlock]at h,fun _ h=>by simp[Value.ownBlock]at h⟩
theorem K9.next {a:Nat→Addr}{Env:World→Prop}{PB:Qdm}(S:Us a Env PB){w W W':World}{p:Addr}{F:Nat→Prop}{l:List Hd}{vt vi:Value}{lt li:List (List UInt8)}(h:K9 PB w W p F l vt vi lt li)(hb:Below W.heap.size W W'):K9 PB w W' p F l vt vi lt li:=
 ⟨h.below.trans (hb.mono h.below.size),S.below h.pb hb,h.pnew,Qi h.rt hb,Qi h.ri hb,h.pt,h.pi,h.ti⟩
theorem K9.prog {PB:Qdm}{w W W':World}{p:Addr}{F F':Nat→Prop}{l l':List Hd}{vt vi:Value}{lt li:List (List UInt8)}(h:K9 PB w W p F l vt vi lt li)(hp:PB W' p F' l')(hF:∀k,F' k→F k∨W.heap.size≤k)(ho:Off F W W'):K9 PB w W' p F' l' vt vi lt li:=by
 refine⟨h.below.trans (ho.below h.below.size (fun k hk hf=>by have:=h.pnew k hf;omega)),hp,fun k hk => ?_,ho.row h.rt (fun k hk hf=>h.pt k hf hk),ho.row h.ri (fun k hk hf=>h.pi k hf hk),fun k hk e => ?_,fun k hk e => ?_,h.ti⟩
 ·rcases hF k hk with hk|hk
  ·exact h.pnew k hk
  ·exact Nat.le_trans h.below.size hk
 ·rcases hF k hk with hk|hk
  ·exact h.pt k hk e
  ·have:=Qan h.rt e;omega
 ·rcases hF k hk with hk|hk
  ·exact h.pi k hk e
  ·have:=Qan h.ri e;omega
theorem Zd {w w':World}{row:Option Nat}(h:w.grownBy w' row):Off (fun k=>row=some k) w w':=⟨h.os,h.tape,h.output,h.size,fun k hk hn=>h.block k hk (fun e=>hn e.symm)⟩
theorem K9.text {a:Nat→Addr}{Env:World→Prop}{PB:Qdm}(S:Us a Env PB){w W W':World}{p:Addr}{F:Nat→Prop}{l:List Hd}{vt vi vt':Value}{lt li lt':List (List UInt8)}(h:K9 PB w W p F l vt vi lt li)(hg:W.grownBy W' vt.ownBlock)(hr:W'.ownsRow w.heap.size 9 1 vt' lt'.length (lt'.map Qjr))(hv:vt'.ownBlock=vt.ownBlock∨vt'.ownBlock=some W.heap.size):K9 PB w W' p F l vt' vi lt' li:=by
 have ho:=Zd hg;refine⟨h.below.trans (ho.below h.below.size (fun k hk e=>by have:=Kc h.rt e;omega)),S.off h.pb ho (fun k hk e=>h.pt k hk e),h.pnew,hr,ho.row h.ri (fun k hk e=>h.ti k e hk),fun k hk e => ?_,h.pi,fun k e e2 => ?_⟩
 ·rcases hv with hv|hv
  ·exact h.pt k hk (hv▸e)
  ·have:=S.lt h.pb k hk;rw[hv]at e;have:=Option.some.inj e;omega
 ·rcases hv with hv|hv
  ·exact h.ti k (hv▸e) e2
  ·have:=Qan h.ri e2;rw[hv]at e;have:=Option.some.inj e;omega
theorem K9.id {a:Nat→Addr}{Env:World→Prop}{PB:Qdm}(S:Us a Env PB){w W W':World}{p:Addr}{F:Nat→Prop}{l:List Hd}{vt vi vi':Value}{lt li li':List (List UInt8)}(h:K9 PB w W p F l vt vi lt li)(hg:W.grownBy W' vi.ownBlock)(hr:W'.ownsRow w.heap.size 25 2 vi' li'.length (idC (li'.map Qc)))(hv:vi'.ownBlock=vi.ownBlock∨vi'.ownBlock=some W.heap.size):K9 PB w W' p F l vt vi' lt li':=by
 have ho:=Zd hg;refine⟨h.below.trans (ho.below h.below.size (fun k hk e=>by have:=Kc h.ri e;omega)),S.off h.pb ho (fun k hk e=>h.pi k hk e),h.pnew,ho.row h.rt (fun k hk e=>h.ti k hk e),hr,h.pt,fun k hk e => ?_,fun k e e2 => ?_⟩
 ·rcases hv with hv|hv
  ·exact h.pi k hk (hv▸e)
  ·have:=S.lt h.pb k hk;rw[hv]at e;have:=Option.some.inj e;omega
 ·rcases hv with hv|hv
  ·exact h.ti k e (hv▸e2)
  ·have:=Qan h.rt e;rw[hv]at e2;have:=Option.some.inj e2;omega
theorem K9.cells {PB:Qdm}{w W:World}{p:Addr}{F:Nat→Prop}{l:List Hd}{vt vi:Value}{lt li:List (List UInt8)}(h:K9 PB w W p F l vt vi lt li)(hn:li≠[])(hl:lt=li):∃gt ct gi ci,vt=.slice (some ⟨gt,0,none⟩) li.length ct∧vi=.slice (some ⟨gi,0,none⟩) li.length ci∧∀i (hi:i<li.length),W.cell? ⟨gt,i,none⟩=some (Qjr li[i])∧W.cell? ⟨gi,i*2,none⟩=some (.int .u32 ((Qc li[i]).1:Nat))∧W.cell? ⟨gi,i*2+1,none⟩=some (.int .i64 (Qc li[i]).2):=by
 subst hl;have hpos:lt.length≠0:=by simpa using hn
 have h1:=h.rt;have h2:=h.ri;have k1:=h1.2;have k2:=h2.2;rcases k1 with⟨_,hz⟩|⟨g,cap,cur,hv,_⟩
 ·exact absurd hz hpos
 ·rcases k2 with⟨_,hz⟩|⟨g2,cap2,cur2,hv2,_⟩
  ·exact absurd hz hpos
  ·refine⟨g,cap,g2,cap2,hv,hv2,fun i hi => ?_⟩;have c1:=h1.cells (g:=g) (by rw[hv];rfl) i (Qjr lt[i]) (by simp[hi]);have hm:i<(lt.map Qc).length:=(by simpa using hi);obtain⟨e1,e2⟩:=Qs1 (lt.map Qc) i hm;have c2:=h2.cells (g:=g2) (by rw[hv2];rfl) (i*2) _ e1;have c3:=h2.cells (g:=g2) (by rw[hv2];rfl) (i*2+1) _ e2;simp only[add_plain,List.getElem_map]at c1 c2 c3;exact⟨c1,c2,c3⟩
def kFind {κ β:Type}[DecidableEq κ]:List (κ×β)→κ→Option Nat
 | [],_=>none
 | h::r,x=>if h.1=x then some 0 else (kFind r x).map (· + 1)
def Zk {κ β:Type}[DecidableEq κ](l:List (κ×β))(x:κ):Int:=match kFind l x with|some k=>(k:Int)|none=>-1
theorem Qfi {κ β:Type}[DecidableEq κ]:∀(l:List (κ×β)) (x:κ) (k:Nat) (h:k<l.length),(∀j (hj:j<l.length),j<k→l[j].1≠x)→l[k].1=x→kFind l x=some k
 | [],_,_,h,_,_=>by simp at h
 | y::r,x,0,_,_,he=>by have he':y.1=x:=he;rw[kFind,if_pos he']
 | y::r,x,k+1,h,ha,he=>by have h0:y.1≠x:=ha 0 (by simp) (by omega);rw[kFind,if_neg h0,Qfi r x k (by simpa using h) (fun j hj hk=>by have:=ha (j+1) (by simpa using hj) (by omega);simpa using this) (by simpa using he)];rfl
theorem Qb3 {κ β:Type}[DecidableEq κ]:∀(l:List (κ×β)) (x:κ),(∀j (hj:j<l.length),l[j].1≠x)→kFind l x=none
 | [],_,_=>rfl
 | y::r,x,ha=>by have h0:y.1≠x:=ha 0 (by simp);rw[kFind,if_neg h0,Qb3 r x (fun j hj=>by have:=ha (j+1) (by simpa using hj);simpa using this)];rfl
theorem Xd {κ β:Type}[DecidableEq κ]:∀{l:List (κ×β)} {x:κ} {k:Nat},kFind l x=some k→∃h:k<l.length,l[k].1=x
 | [],_,_,h=>by cases h
 | y::r,x,k,h=>by
  rw[kFind]at h;split at h
  ·rename_i he
   cases h;exact⟨by simp,he⟩
  ·cases hr:kFind r x with
   | none=>rw[hr]at h;cases h
   | some j=>
    rw[hr]at h;cases h;obtain⟨hj,he⟩:=Xd hr;exact⟨by simpa using hj,by simpa using he⟩
theorem Qdu {κ β:Type}[DecidableEq κ]{l:List (κ×β)}{x:κ}(h:kFind l x=none):∀y∈l,y.1≠x:=by
 induction l with
 | nil=>intro y hy;simp at hy
 | cons z r ih=>
  rw[kFind]at h;split at h
  ·cases h
  ·rename_i hz
   have hr:kFind r x=none:=by
    cases hk:kFind r x with
    | none=>rfl
    | some k=>rw[hk]at h;cases h
   intro y hy;rcases List.mem_cons.1 hy with rfl|hy
   ·exact hz
   ·exact ih hr y hy
def Yg {κ β:Type}(lt:κ→κ→Bool):List (κ×β)→κ→Nat
 | [],_=>0
 | h::r,x=>if lt h.1 x=true then Yg lt r x+1 else 0
def Ux {κ β:Type}(lt:κ→κ→Bool)(l:List (κ×β))(h:κ×β):List (κ×β):=l.take (Yg lt l h.1)++h::l.drop (Yg lt l h.1)
theorem Uk {κ β:Type}(lt:κ→κ→Bool):∀(l:List (κ×β)) (x:κ) (k:Nat),k≤l.length→(∀j (hj:j<l.length),j<k→lt l[j].1 x=true)→(∀h:k<l.length,lt l[k].1 x=false)→Yg lt l x=k
 | [],_,k,h,_,_=>by simp at h;simp[Yg,h]
 | y::r,x,0,_,_,he=>by have he':lt y.1 x=false:=he (by simp);rw[Yg,he'];rfl
 | y::r,x,k+1,h,ha,he=>by have h0:lt y.1 x=true:=ha 0 (by simp) (by omega);rw[Yg,if_pos h0,Uk lt r x k (by simpa using h) (fun j hj hk=>by have:=ha (j+1) (by simpa using hj) (by omega);simpa using this) (fun h'=>by have:=he (by simpa using h');simpa using this)]
theorem Qug {κ β:Type}(lt:κ→κ→Bool)(h:κ×β):Ux lt [] h=[h]:=rfl
theorem Qum {κ β:Type}(lt:κ→κ→Bool)(y:κ×β)(r:List (κ×β))(h:κ×β)(e:lt y.1 h.1=true):Ux lt (y::r) h=y::Ux lt r h:=by
 unfold Ux;rw[Yg,if_pos e];rfl
theorem Quo {κ β:Type}(lt:κ→κ→Bool)(y:κ×β)(r:List (κ×β))(h:κ×β)(e:lt y.1 h.1=false):Ux lt (y::r) h=h::y::r:=by
 unfold Ux;rw[Yg,e];rfl
theorem kIns_perm {κ β:Type}(lt:κ→κ→Bool)(l:List (κ×β))(h:κ×β):(Ux lt l h).Perm (h::l):=by
 unfold Ux;refine List.perm_middle.trans ?_;rw[List.take_append_drop]
structure Qu0 {κ:Type}(lt:κ→κ→Bool):Prop where
 trans:∀a b c,lt a b=true→lt b c=true→lt a c=true
 conn:∀a b,a≠b→lt a b=false→lt b a=true
 ne:∀a b,lt a b=true→a≠b
theorem Qaf {κ β:Type}{lt:κ→κ→Bool}(O:Qu0 lt)(h:κ×β):∀(l:List (κ×β)),l.Pairwise (fun a b=>lt a.1 b.1=true)→(∀y∈l,y.1≠h.1)→(Ux lt l h).Pairwise (fun a b=>lt a.1 b.1=true)
 | [],_,_=>by rw[Qug];exact List.pairwise_singleton _ _
 | y::r,hp,hn=>by
  obtain⟨h1,h2⟩:=List.pairwise_cons.1 hp;cases e:lt y.1 h.1 with
  | true=>
   rw[Qum lt y r h e];refine List.pairwise_cons.2 ⟨fun z hz => ?_,Qaf O h r h2 (fun z hz=>hn z (List.mem_cons_of_mem _ hz))⟩;rcases List.mem_cons.1 ((kIns_perm lt r h).mem_iff.1 hz)with rfl|hz
   ·exact e
   ·exact h1 z hz
  | false=>
   rw[Quo lt y r h e];have hy:=O.conn _ _ (hn y (List.mem_cons_self ..)) e;refine List.pairwise_cons.2 ⟨fun z hz => ?_,hp⟩;rcases List.mem_cons.1 hz with rfl|hz
   ·exact hy
   ·exact O.trans _ _ _ hy (h1 z hz)
theorem Qos {κ β:Type}{lt:κ→κ→Bool}(O:Qu0 lt){l:List (κ×β)}(h:l.Pairwise (fun a b=>lt a.1 b.1=true)):l.Pairwise (fun a b=>a.1≠b.1):=h.imp fun {_ _} e=>O.ne _ _ e
abbrev ltN (a b:List UInt8):Bool:=decide (a<b)
theorem Qvs:Qu0 ltN where
 trans a b c h1 h2:=by simp only[ltN,decide_eq_true_eq]at *;exact List.lt_trans h1 h2
 conn a b hn h:=by simp only[ltN,decide_eq_true_eq,decide_eq_false_iff_not]at *;have h1:b≤a:=h;exact(List.le_iff_lt_or_eq.1 h1).resolve_right (fun e=>hn e.symm)
 ne a b h e:=by subst e;simp only[ltN,decide_eq_true_eq]at h;exact List.lt_irrefl a h
theorem Xx:∀(l:List Qz) (x:List UInt8),nFile l x=(kFind l x).bind (fun k=>l[k]?.map (·.2))
 | [],_=>rfl
 | b::r,x=>by
  rw[nFile,kFind];by_cases e:b.1=x
  ·rw[if_pos e,if_pos e];rfl
  ·rw[if_neg e,if_neg e,Xx r x];cases kFind r x with
   | none=>rfl
   | some k=>simp
theorem Vs:∀(l:List Qr) (x:Nat×Int),Zi l x=(kFind l x).bind (fun k=>l[k]?.map (·.2))
 | [],_=>rfl
 | b::r,x=>by
  rw[Zi,kFind];by_cases e:b.1=x
  ·rw[if_pos e,if_pos e];rfl
  ·rw[if_neg e,if_neg e,Vs r x];cases kFind r x with
   | none=>rfl
   | some k=>simp
abbrev MF:=Qz×Value
def mfCells:List MF→List Value
 | []=>[]
 | q::r=>.string ⟨q.1.1.toArray⟩::.int .i64 (q.1.2.length:Int)::.int .u32 ((pmore 2166136261 q.1.2:Nat):Int)::q.2::mfCells r
theorem mfCells_append:∀(a b:List MF),mfCells (a++b)=mfCells a++mfCells b
 | [],_=>rfl
 | x::r,b=>by rw[List.cons_append,mfCells,mfCells_append r b,mfCells];rfl
theorem Jb:∀(a:List MF),(mfCells a).length=a.length*4
 | []=>rfl
 | x::r=>by simp only[mfCells,List.length_cons,Jb r];omega
theorem Qe8:∀(a:List MF) (i:Nat) (h:i<a.length),(mfCells a)[i*4]? = some (.string ⟨a[i].1.1.toArray⟩)∧(mfCells a)[i*4+1]? = some (.int .i64 (a[i].1.2.length:Int))∧(mfCells a)[i*4+2]? = some (.int .u32 ((pmore 2166136261 a[i].1.2:Nat):Int))∧(mfCells a)[i*4+3]? = some a[i].2
 | x::r,0,_=>⟨rfl,rfl,rfl,rfl⟩
 | x::r,i+1,h=>by have:=Qe8 r i (by simpa using h);rw[mfCells,show(i+1)*4=i*4+1+1+1+1 by omega];simpa using this
abbrev MB:=Qr×Nat×Value
def mbCells:List MB→List Value
 | []=>[]
 | q::r=>.int .u32 (q.1.1.1:Nat)::.int .i64 q.1.1.2::.pointer (some ⟨q.2.1,0,none⟩)::mbCells r
theorem Z9:∀(a b:List MB),mbCells (a++b)=mbCells a++mbCells b
 | [],_=>rfl
 | x::r,b=>by rw[List.cons_append,mbCells,Z9 r b,mbCells];rfl
theorem Zw:∀(a:List MB),(mbCells a).length=a.length*3
 | []=>rfl
 | x::r=>by simp only[mbCells,List.length_cons,Zw r];omega
theorem qc:∀(a:List MB) (i:Nat) (h:i<a.length),(mbCells a)[i*3]? = some (.int .u32 (a[i].1.1.1:Nat))∧(mbCells a)[i*3+1]? = some (.int .i64 a[i].1.1.2)∧(mbCells a)[i*3+2]? = some (.pointer (some ⟨a[i].2.1,0,none⟩))
 | x::r,0,_=>⟨rfl,rfl,rfl⟩
 | x::r,i+1,h=>by have:=qc r i (by simpa using h);rw[mbCells,show(i+1)*3=i*3+1+1+1 by omega];simpa using this
theorem Yq (l:List MB):∀u∈mbCells l,u.oneCell'=true:=by
 induction l with
 | nil=>simp[mbCells]
 | cons x r ih=>
  intro u hu;simp only[mbCells,List.mem_cons]at hu;rcases hu with rfl|rfl|rfl|hu
  ·rfl
  ·rfl
  ·rfl
  ·exact ih u hu
def mFs (ps:List MF):List Qz:=ps.map (fun q=>q.1)
def mBs (bs:List MB):List Qr:=bs.map (fun q=>q.1)
theorem Zg (ps:List MF):(mFs ps).length=ps.length:=by unfold mFs;rw[List.length_map]
theorem Qn (bs:List MB):(mBs bs).length=bs.length:=by unfold mBs;rw[List.length_map]
theorem Vj (ps:List MF)(i:Nat)(h:i<(mFs ps).length):(mFs ps)[i]=(ps[i]'(by rw[Zg]at h;exact h)).1:=by simp[mFs]
theorem Xk (bs:List MB)(i:Nat)(h:i<(mBs bs).length):(mBs bs)[i]=(bs[i]'(by rw[Qn]at h;exact h)).1:=by simp[mBs]
def qd (w:World)(v:Value)(ps:List MF):Prop:=
 ∃(p:Option Addr) (c:Nat),v=.slice p ps.length c∧∀i (h:i<ps.length),∃b o,p=some ⟨b,o,none⟩∧(b<w.heap.size∧ps.length≤c)∧w.cell? ⟨b,o+i*4,none⟩=some (.string ⟨ps[i].1.1.toArray⟩)∧w.cell? ⟨b,o+i*4+1,none⟩=some (.int .i64 (ps[i].1.2.length:Int)) ∧
  w.cell? ⟨b,o+i*4+2,none⟩=some (.int .u32 ((pmore 2166136261 ps[i].1.2:Nat):Int))∧w.cell? ⟨b,o+i*4+3,none⟩=some ps[i].2
def Qcg (w:World)(v:Value)(bs:List MB):Prop:=
 ∃(p:Option Addr) (c:Nat),v=.slice p bs.length c∧∀i (h:i<bs.length),∃b o,p=some ⟨b,o,none⟩∧(b<w.heap.size∧bs.length≤c)∧w.cell? ⟨b,o+i*3,none⟩=some (.int .u32 (bs[i].1.1.1:Nat))∧w.cell? ⟨b,o+i*3+1,none⟩=some (.int .i64 bs[i].1.1.2) ∧
  w.cell? ⟨b,o+i*3+2,none⟩=some (.pointer (some ⟨bs[i].2.1,0,none⟩))
theorem qd.of_row {w:World}{base:Nat}{e:TypeId}{v:Value}{ps:List MF}(h:w.ownsRow base e 4 v ps.length (mfCells ps)):qd w v ps:=by
 have h0:=h;rcases h.2 with⟨rfl,e0⟩|⟨g,cap,cur,hv,_,hb,hc,_⟩
 ·exact⟨none,0,by rw[e0],fun i hi=>by omega⟩
 ·refine⟨some ⟨g,0,none⟩,cap,hv,fun i hi => ?_⟩;obtain⟨a0,a1,a2,a3⟩:=Qe8 ps i hi;have c0:=h0.cells (g:=g) (by rw[hv];rfl) (i*4) _ a0;have c1:=h0.cells (g:=g) (by rw[hv];rfl) (i*4+1) _ a1;have c2:=h0.cells (g:=g) (by rw[hv];rfl) (i*4+2) _ a2;have c3:=h0.cells (g:=g) (by rw[hv];rfl) (i*4+3) _ a3;simp only[add_plain]at c0 c1 c2 c3;exact⟨g,0,rfl,⟨lt_of_block hb,hc⟩,by rw[Nat.zero_add];exact c0,by rw[Nat.zero_add];exact c1,by rw[Nat.zero_add];exact c2,by rw[Nat.zero_add];exact c3⟩
theorem Qcg.of_row {w:World}{base:Nat}{e:TypeId}{v:Value}{bs:List MB}(h:w.ownsRow base e 3 v bs.length (mbCells bs)):Qcg w v bs:=by
 have h0:=h;rcases h.2 with⟨rfl,e0⟩|⟨g,cap,cur,hv,_,hb,hc,_⟩
 ·exact⟨none,0,by rw[e0],fun i hi=>by omega⟩
 ·refine⟨some ⟨g,0,none⟩,cap,hv,fun i hi => ?_⟩;obtain⟨a0,a1,a2⟩:=qc bs i hi;have c0:=h0.cells (g:=g) (by rw[hv];rfl) (i*3) _ a0;have c1:=h0.cells (g:=g) (by rw[hv];rfl) (i*3+1) _ a1;have c2:=h0.cells (g:=g) (by rw[hv];rfl) (i*3+2) _ a2;simp only[add_plain]at c0 c1 c2;exact⟨g,0,rfl,⟨lt_of_block hb,hc⟩,by rw[Nat.zero_add];exact c0,by rw[Nat.zero_add];exact c1,by rw[Nat.zero_add];exact c2⟩
theorem qd.below {w w':World}{v:Value}{ps:List MF}(h:qd w v ps)(hb:Below w.heap.size w w'):qd w' v ps:=by
 obtain⟨p,c,hv,h⟩:=h;refine⟨p,c,hv,fun i hi => ?_⟩;obtain⟨b,o,hp,⟨hl,hc⟩,h0,h1,h2,h3⟩:=h i hi;exact⟨b,o,hp,⟨Nat.lt_of_lt_of_le hl hb.size,hc⟩,(hb.cell (p:=⟨b,o+i*4,none⟩) hl).trans h0,(hb.cell (p:=⟨b,o+i*4+1,none⟩) hl).trans h1,(hb.cell (p:=⟨b,o+i*4+2,none⟩) hl).trans h2,(hb.cell (p:=⟨b,o+i*4+3,none⟩) hl).trans h3⟩
theorem Qcg.below {w w':World}{v:Value}{bs:List MB}(h:Qcg w v bs)(hb:Below w.heap.size w w'):Qcg w' v bs:=by
 obtain⟨p,c,hv,h⟩:=h;refine⟨p,c,hv,fun i hi => ?_⟩;obtain⟨b,o,hp,⟨hl,hc⟩,h0,h1,h2⟩:=h i hi;exact⟨b,o,hp,⟨Nat.lt_of_lt_of_le hl hb.size,hc⟩,(hb.cell (p:=⟨b,o+i*3,none⟩) hl).trans h0,(hb.cell (p:=⟨b,o+i*3+1,none⟩) hl).trans h1,(hb.cell (p:=⟨b,o+i*3+2,none⟩) hl).trans h2⟩
def Qhd (ps:List MF)(k:Nat):Prop:=∃q∈ps,idsOf q.1.2≠[]∧q.2.ownBlock=some k
def Ja (bs:List MB)(k:Nat):Prop:=∃x∈bs,Qt.Of x.2.1 x.2.2 k
structure MSt (w:World)(M:Nat)(vf vb:Value)(ps:List MF)(bs:List MB):Prop where
 blk:Blk w M #[vf,vb] 34
 frow:w.ownsRow 0 40 4 vf ps.length (mfCells ps)
 brow:w.ownsRow 0 92 3 vb bs.length (mbCells bs)
 ids:∀q∈ps,Q3 w q.2 (idsOf q.1.2)
 bins:∀x∈bs,Qt w x.2.1 x.2.2 x.1.2
 mf:vf.ownBlock≠some M
 mb:vb.ownBlock≠some M
 fb:∀k,vf.ownBlock=some k→vb.ownBlock≠some k
 bm:∀k,Ja bs k→k≠M∧vf.ownBlock≠some k∧vb.ownBlock≠some k
 bb:bs.Pairwise (fun x y=>∀k,Qt.Of x.2.1 x.2.2 k→¬Qt.Of y.2.1 y.2.2 k)
 io:∀k,Qhd ps k→k≠M∧vf.ownBlock≠some k∧vb.ownBlock≠some k∧¬Ja bs k
def Vb (M:Nat)(vf vb:Value)(ps:List MF)(bs:List MB)(k:Nat):Prop:=k=M∨vf.ownBlock=some k∨vb.ownBlock=some k∨Ja bs k∨Qhd ps k
def Ya (w:World)(m:Addr)(G:Nat→Prop)(st:NSt):Prop:=∃M vf vb ps bs,m=⟨M,0,none⟩∧MSt w M vf vb ps bs∧st=⟨mFs ps,mBs bs⟩∧G=Vb M vf vb ps bs
theorem MSt.lt {w:World}{M:Nat}{vf vb:Value}{ps:List MF}{bs:List MB}(h:MSt w M vf vb ps bs):∀k,Vb M vf vb ps bs k→k<w.heap.size:=by
 rintro k (rfl|hk|hk|⟨x,hx,hk⟩|⟨q,hq,hne,hk⟩)
 ·exact h.blk.lt
 ·exact(h.frow.lt k hk).2
 ·exact(h.brow.lt k hk).2
 ·exact(h.bins x hx).lt hk
 ·exact(h.ids q hq).lt hne hk
theorem MSt.off {w w':World}{M:Nat}{vf vb:Value}{ps:List MF}{bs:List MB}{F:Nat→Prop}(h:MSt w M vf vb ps bs)(ho:Off F w w')(hF:∀k,Vb M vf vb ps bs k→¬F k):MSt w' M vf vb ps bs where
 blk:=ho.blk h.blk (hF M (.inl rfl))
 frow:=ho.row h.frow (fun k hk=>hF k (.inr (.inl hk)))
 brow:=ho.row h.brow (fun k hk=>hF k (.inr (.inr (.inl hk))))
 ids q hq:=(h.ids q hq).off ho (fun hne k hk=>hF k (.inr (.inr (.inr (.inr ⟨q,hq,hne,hk⟩)))))
 bins x hx:=(h.bins x hx).off ho (fun k hk=>hF k (.inr (.inr (.inr (.inl ⟨x,hx,hk⟩)))))
 mf:=h.mf
 mb:=h.mb
 fb:=h.fb
 bm:=h.bm
 bb:=h.bb
 io:=h.io
theorem MSt.below {w w':World}{M:Nat}{vf vb:Value}{ps:List MF}{bs:List MB}(h:MSt w M vf vb ps bs)(hb:Below w.heap.size w w'):MSt w' M vf vb ps bs:=h.off (Off.of_below (F:=fun _=>False) hb) (fun _ _ h=>h)
theorem Ya.lt {w:World}{m:Addr}{G:Nat→Prop}{st:NSt}(h:Ya w m G st):∀k,G k→k<w.heap.size:=by
 obtain⟨M,vf,vb,ps,bs,_,h,_,rfl⟩:=h;exact h.lt
theorem Ya.off {w w':World}{m:Addr}{G F:Nat→Prop}{st:NSt}(h:Ya w m G st)(ho:Off F w w')(hF:∀k,G k→¬F k):Ya w' m G st:=by
 obtain⟨M,vf,vb,ps,bs,hm,h,hs,rfl⟩:=h;exact⟨M,vf,vb,ps,bs,hm,h.off ho hF,hs,rfl⟩
theorem Ya.below {w w':World}{m:Addr}{G:Nat→Prop}{st:NSt}(h:Ya w m G st)(hb:Below w.heap.size w w'):Ya w' m G st:=h.off (Off.of_below (F:=fun _=>False) hb) (fun _ _ h=>h)
theorem MSt.files {w:World}{M:Nat}{vf vb:Value}{ps:List MF}{bs:List MB}(h:MSt w M vf vb ps bs):qd w vf ps:=qd.of_row h.frow
theorem MSt.reps {w:World}{M:Nat}{vf vb:Value}{ps:List MF}{bs:List MB}(h:MSt w M vf vb ps bs):Qcg w vb bs:=Qcg.of_row h.brow
theorem Qt5:(Tryz.prog.info? 40).map (fun i=>(i.zero,i.size,i.bytes))=some (some (rcpV ⟨#[]⟩ 0 0 (.slice none 0 0)),4,56):=by kernel_rfl
theorem Quf:(Tryz.prog.info? 92).map (fun i=>(i.zero,i.size,i.bytes))=some (some (.agg #[.int .u32 0,.int .i64 0,.pointer none]),3,24):=by kernel_rfl
theorem Qhu {W:World}{b o:Nat}{ids:List (Nat×Int)}(h:∀i (h:i<ids.length),W.cell? ⟨b,o+i*2,none⟩=some (.int .u32 (ids[i].1:Nat))∧W.cell? ⟨b,o+i*2+1,none⟩=some (.int .i64 ids[i].2)) :
 ∀j u,(idCells ids)[j]? = some u→W.cell? ((⟨b,o,none⟩:Addr).add j)=some u:=by
 intro j u hj;have hjl:j<(idCells ids).length:=(List.getElem?_eq_some_iff.1 hj).1;rw[Vv]at hjl;have hi:j / 2<ids.length:=by omega
 have ha:(⟨b,o,none⟩:Addr).add j=⟨b,o+j,none⟩:=by unfold Addr.add;split<;>simp_all
 rw[ha];have e:=Vw ids (j / 2) hi;rcases Nat.mod_two_eq_zero_or_one j with h0|h0
 ·have hj2:j / 2*2=j:=by omega
  rw[hj2]at e;have h1:=(h (j / 2) hi).1;rw[hj2]at h1;rw[h1,←hj,e.1]
 ·have hj2:j / 2*2+1=j:=by omega
  rw[hj2]at e;have h1:=(h (j / 2) hi).2;rw[Nat.add_assoc,hj2]at h1;rw[h1,←hj,e.2]
theorem idCells_one (ids:List (Nat×Int)):∀u∈idCells ids,u.oneCell'=true:=by
 induction ids with
 | nil=>simp[idCells]
 | cons x r ih=>
  intro u hu;simp only[idCells,List.mem_cons]at hu;rcases hu with rfl|rfl|hu
  ·rfl
  ·rfl
  ·exact ih u hu
structure Qwv (w W:World)(nm:ByteArray)(len p:Int)(v:Value):Prop where
 below:Below w.heap.size w W
 size:w.heap.size+1<W.heap.size
 b0:W.cell? ⟨w.heap.size,0,none⟩=some (.string nm)
 b1:W.cell? ⟨w.heap.size,1,none⟩=some (.int .i64 len)
 b2:W.cell? ⟨w.heap.size,2,none⟩=some (.int .u32 p)
 b3:W.cell? ⟨w.heap.size,3,none⟩=some v
 r0:W.cell? ⟨w.heap.size+1,0,none⟩=some (.string ⟨#[]⟩)
 r1:W.cell? ⟨w.heap.size+1,1,none⟩=some (.int .i64 0)
 r2:W.cell? ⟨w.heap.size+1,2,none⟩=some (.int .u32 0)
 r3:W.cell? ⟨w.heap.size+1,3,none⟩=some (.slice none 0 0)
 g:∀i,W.frozen? ⟨w.heap.size,i,none⟩=false
 f:∀i,W.frozen? ⟨w.heap.size+1,i,none⟩=false
theorem Qwv.of {w W:World}(nm:ByteArray)(len p:Int)(v:Value)(t:TypeId)
 (hb:Below ((w.alloc (.cells #[.string nm,.int .i64 len,.int .u32 p,v] t)).alloc (.cells #[.string ⟨#[]⟩,.int .i64 0,.int .u32 0,.slice none 0 0] t)).heap.size ((w.alloc (.cells #[.string nm,.int .i64 len,.int .u32 p,v] t)).alloc (.cells #[.string ⟨#[]⟩,.int .i64 0,.int .u32 0,.slice none 0 0] t)) W):Qwv w W nm len p v:=by
 have hs:=hb.size;simp only[World.size_alloc]at hs;have c:∀i u,(#[.string nm,.int .i64 len,.int .u32 p,v]:Array Value)[i]? = some u→W.cell? ⟨w.heap.size,i,none⟩=some u:=fun i u h=>
  (hb.cell (p:=⟨w.heap.size,i,none⟩) (by simp;omega)).trans ((World.cell?_alloc_lt _ _ ⟨w.heap.size,i,none⟩ (by simp)).trans (Zh w _ _ h rfl))
 have r:∀i u,(#[.string ⟨#[]⟩,.int .i64 0,.int .u32 0,.slice none 0 0]:Array Value)[i]? = some u→W.cell? ⟨w.heap.size+1,i,none⟩=some u:=fun i u h=>
  (hb.cell (p:=⟨w.heap.size+1,i,none⟩) (by simp)).trans (Zh _ _ _ h (by simp))
 refine⟨(((Below.refl _ w).alloc wz _).alloc (by simp) _).trans (hb.mono (by simp;omega)),by omega,c 0 _ rfl,c 1 _ rfl,c 2 _ rfl,c 3 _ rfl,r 0 _ rfl,r 1 _ rfl,r 2 _ rfl,r 3 _ rfl,fun i => ?_,fun i => ?_⟩
 ·rw[hb.frozen (p:=⟨w.heap.size,i,none⟩) (by simp;omega),X3 _ _ (by simp)];exact Yh w _ _ rfl
 ·rw[hb.frozen (p:=⟨w.heap.size+1,i,none⟩) (by simp)];exact Yh _ _ _ (by simp)
theorem Qjy (v:Value)(ids:List (Nat×Int))(w:World)(hv:Q3 w v ids)(hlen:ids.length≤50000) :
 Calls Tryz.prog 161 #[v] w fun e w'=>∃v',e=.returned v'∧Zb w.heap.size w' v' ids∧Below w.heap.size w w':=by
 obtain⟨i0,hi,hz0,hz1,hz2⟩:=info_parts Qj5;obtain⟨pa,c,rfl,hcell⟩:=hv;have HL:Hid (ids.length≤50000):=hlen;clear hlen;have q55:∀(w:World) (a:Option Addr) (n c n' c':Nat),(binOp .eql 38 (.slice a n c) (.slice none n' c')).run Tryz.prog w=.ok (.bool a.isNone) w:=fun w a n c n' c'=>Lib.run_eql_slice_nil w _ _ a n c n' c' Tryz.underlying38;cases pa with
 | none=>
  have h0:ids.length=0:=by
   rcases Nat.eq_zero_or_pos ids.length with h|h
   ·exact h
   ·obtain⟨b,o,hp,_⟩:=hcell 0 h;cases hp
  obtain rfl:ids=[]:=List.eq_nil_of_length_eq_zero h0;clear hcell h0;go_enter Tryz.func161,Tryz.ntmps161;go_wp2_with fail;go_ret;exact⟨_,rfl,Zb.nil _ _,Below.refl _ _⟩
 | some ad=>
  have HC:Hid (∀W',Below w.heap.size w W'→∀j u,(idCells ids)[j]? = some u→W'.cell? (ad.add j)=some u):=by
   by_cases hn:ids=[]
   ·subst hn;intro W' _ j u hj;simp[idCells]at hj
   ·obtain⟨b,o,hp,_,_⟩:=hcell 0 (List.length_pos_iff.2 hn);cases hp;exact fun W' hb=>Qhu (fun i hi=>by obtain⟨b',o',hp,hl,h1,h2⟩:=hcell i hi;cases hp;exact⟨(hb.cell (p:=⟨b,o+i*2,none⟩) hl).trans h1,(hb.cell (p:=⟨b,o+i*2+1,none⟩) hl).trans h2⟩)
  clear hcell;obtain⟨m,hm⟩:∃m,ids.length=m:=⟨_,rfl⟩;have HM:Hid (ids.length=m):=hm;have HNL:Hid ((idCells ids).length=m*2):=by show _=_;rw[Vv,hm]
  have HM5:Hid (m≤50000):=by show _≤_;rw[←hm];exact HL.out
  rw[hm];clear hm HL;go_enter Tryz.func161,Tryz.ntmps161;go_wp2_with (at_builtin;refine wpList_append_own _ rfl _ _ 38 rfl w.heap.size 25 i0 (idV 0 0) 2 16 Tryz.underlying38 hi hz0 hz1 hz2 rfl (by decide) _ _ _ rfl (World.ownsRow_made w #[] 0 wz (Nat.zero_le _) rfl) ad m c (idCells ids) rfl HNL.out ?qc2 (idCells_one ids) ?qc4 ?qc5 ?qc6 ?_)
  case qc2=>exact HC.out _ ((Below.refl _ w).alloc wz _)
  case qc4=>have:=HM5.out;unfold maxLen;omega
  case qc5=>have:=HM5.out;omega
  case qc6=>simp
  intro v' w1 hown hgrow hnil;go_wp2_with fail;go_ret;refine⟨v',rfl,Zb.of_row (e:=25) (by rw[HM.out];simpa using hown),?_⟩;exact((Below.refl _ w).alloc wz _).grown hgrow (by simp) (by intro k hk;simp[Value.ownBlock]at hk;omega)
abbrev Rcp:=List UInt8×Int×Int×List (Nat×Int)
abbrev Qv (r:Rcp):Nat×Int:=Zq r.2.2.2
structure qi (w:World)(b o:Nat)(v:Value)(r:Rcp):Prop where
 lt:b<w.heap.size
 c0:w.cell? ⟨b,o,none⟩=some (.string ⟨r.1.toArray⟩)
 c1:w.cell? ⟨b,o+1,none⟩=some (.int .i64 r.2.1)
 c2:w.cell? ⟨b,o+2,none⟩=some (.int .u32 r.2.2.1)
 c3:w.cell? ⟨b,o+3,none⟩=some v
 ids:Q3 w v r.2.2.2
theorem qi.below {w w':World}{b o:Nat}{v:Value}{r:Rcp}(h:qi w b o v r)(hb:Below w.heap.size w w'):qi w' b o v r:=
 ⟨Nat.lt_of_lt_of_le h.lt hb.size,(hb.cell (p:=⟨b,o,none⟩) h.lt).trans h.c0,(hb.cell (p:=⟨b,o+1,none⟩) h.lt).trans h.c1,(hb.cell (p:=⟨b,o+2,none⟩) h.lt).trans h.c2,(hb.cell (p:=⟨b,o+3,none⟩) h.lt).trans h.c3,h.ids.below hb⟩
def Jo (w:World)(v:Value)(fs:List Rcp):Prop:=
 ∃(p:Option Addr) (c:Nat),v=.slice p fs.length c∧∀i (h:i<fs.length),∃b o vi,p=some ⟨b,o,none⟩∧qi w b (o+i*4) vi fs[i]
theorem Jo.below {w w':World}{v:Value}{fs:List Rcp}(h:Jo w v fs)(hb:Below w.heap.size w w'):Jo w' v fs:=by
 obtain⟨p,c,rfl,h⟩:=h;refine⟨p,c,rfl,fun i hi => ?_⟩;obtain⟨b,o,vi,hp,hr⟩:=h i hi;exact⟨b,o,vi,hp,hr.below hb⟩
def rcpOf (f:Qz):Rcp:=(f.1,(f.2.length:Int),((pmore 2166136261 f.2:Nat):Int),idsOf f.2)
theorem Off.two {a b c:World}{x y:Nat}(h:Off (fun k=>k=x) a b)(k:Off (fun k=>k=y) b c):Off (fun k=>k=x∨k=y) a c:=
 ⟨k.os.trans h.os,k.tape.trans h.tape,k.output.trans h.output,Nat.le_trans h.size k.size,fun i hi hf=>(k.block i (Nat.lt_of_lt_of_le hi h.size) (fun e=>hf (.inr e))).trans (h.block i hi (fun e=>hf (.inl e)))⟩
def rwR (r:Rcp)(v:Value):Rw:=(r.1,r.2.1,r.2.2.1,v)
structure Js (w:World)(N mf mb:Nat)(vi:List UInt8→Value)(pi:Nat×Int→Addr)(Fi:Nat×Int→Nat→Prop)(fs:List Rcp)(bs:List Qr):Prop where
 blk:Blk w N #[.map (some mf),.map (some mb)] 121
 files:strRcps.Of w mf (fs.map fun r=>(r.1,rwR r (vi r.1)))
 bins:idBins.Of w mb (bs.map fun b=>(b.1,some (pi b.1)))
 ids:∀r∈fs,Q3 w (vi r.1) r.2.2.2
 rows:∀r∈fs,r.2.2.2≠[]→∀k,(vi r.1).ownBlock=some k→k<w.heap.size∧k≠N∧k≠mf∧k≠mb∧∀b∈bs,¬Fi b.1 k
 bin:∀b∈bs,Q0 w (pi b.1) (Fi b.1) b.2
 ne:N≠mf∧N≠mb∧mf≠mb
 apart:∀b∈bs,¬Fi b.1 N∧¬Fi b.1 mf∧¬Fi b.1 mb
 two:∀b∈bs,∀c∈bs,b.1≠c.1→∀k,Fi b.1 k→¬Fi c.1 k
def Xg (N mf mb:Nat)(vi:List UInt8→Value)(Fi:Nat×Int→Nat→Prop)(fs:List Rcp)(bs:List Qr)(k:Nat):Prop:=
 k=N∨k=mf∨k=mb∨(∃b∈bs,Fi b.1 k)∨∃r∈fs,r.2.2.2≠[]∧(vi r.1).ownBlock=some k
theorem NAt.toR {w:World}{N mf mb:Nat}{vi:List UInt8→Value}{pi:Nat×Int→Addr}{Fi:Nat×Int→Nat→Prop}{st:NSt}(h:NAt w N mf mb vi pi Fi st):Js w N mf mb vi pi Fi (st.files.map rcpOf) st.bins where
 blk:=h.blk
 files:=by rw[List.map_map];exact h.files
 bins:=h.bins
 ids r hr:=by obtain⟨f,hf,rfl⟩:=List.mem_map.1 hr;exact h.ids f hf
 rows r hr:=by obtain⟨f,hf,rfl⟩:=List.mem_map.1 hr;exact h.rows f hf
 bin:=h.bin
 ne:=h.ne
 apart:=h.apart
 two:=h.two
theorem Js.toN {w:World}{N mf mb:Nat}{vi:List UInt8→Value}{pi:Nat×Int→Addr}{Fi:Nat×Int→Nat→Prop}{fl:List Qz}{bs:List Qr}(h:Js w N mf mb vi pi Fi (fl.map rcpOf) bs):NAt w N mf mb vi pi Fi ⟨fl,bs⟩ where
 blk:=h.blk
 files:=by have:=h.files;rw[List.map_map]at this;exact this
 bins:=h.bins
 ids f hf:=h.ids _ (List.mem_map_of_mem hf)
 rows f hf:=h.rows _ (List.mem_map_of_mem hf)
 bin:=h.bin
 ne:=h.ne
 apart:=h.apart
 two:=h.two
theorem Qa1 {N mf mb:Nat}{vi:List UInt8→Value}{Fi:Nat×Int→Nat→Prop}{fl:List Qz}{bs:List Qr}{k:Nat}:Xg N mf mb vi Fi (fl.map rcpOf) bs k↔X7 N mf mb vi Fi ⟨fl,bs⟩ k:=by
 unfold Xg X7;refine or_congr Iff.rfl (or_congr Iff.rfl (or_congr Iff.rfl (or_congr Iff.rfl ⟨?_,?_⟩)))
 ·rintro⟨r,hr,h1,h2⟩;obtain⟨f,hf,rfl⟩:=List.mem_map.1 hr;exact⟨f,hf,h1,h2⟩
 ·rintro⟨f,hf,h1,h2⟩;exact⟨_,List.mem_map_of_mem hf,h1,h2⟩
theorem Js.lt {w:World}{N mf mb:Nat}{vi:List UInt8→Value}{pi:Nat×Int→Addr}{Fi:Nat×Int→Nat→Prop}{fs:List Rcp}{bs:List Qr}(h:Js w N mf mb vi pi Fi fs bs):∀k,Xg N mf mb vi Fi fs bs k→k<w.heap.size:=by
 rintro k (rfl|rfl|rfl|⟨b,hb,hk⟩|⟨f,hf,hi,hk⟩)
 ·exact h.blk.lt
 ·exact h.files.lt
 ·exact h.bins.lt
 ·exact(h.bin b hb).lt k hk
 ·exact(h.rows f hf hi k hk).1
theorem Js.off {w w':World}{N mf mb:Nat}{vi:List UInt8→Value}{pi:Nat×Int→Addr}{Fi:Nat×Int→Nat→Prop}{fs:List Rcp}{bs:List Qr}{G:Nat→Prop}(h:Js w N mf mb vi pi Fi fs bs)(ho:Off G w w')(hG:∀k,Xg N mf mb vi Fi fs bs k→¬G k):Js w' N mf mb vi pi Fi fs bs where
 blk:=ho.blk h.blk (hG N (.inl rfl))
 files:=h.files.moved (ho.block mf h.files.lt (hG mf (.inr (.inl rfl))))
 bins:=h.bins.moved (ho.block mb h.bins.lt (hG mb (.inr (.inr (.inl rfl)))))
 ids f hf:=(h.ids f hf).off ho (fun hi k hk=>hG k (.inr (.inr (.inr (.inr ⟨f,hf,hi,hk⟩)))))
 rows f hf hi k hk:=by obtain⟨h1,h2⟩:=h.rows f hf hi k hk;exact⟨Nat.lt_of_lt_of_le h1 ho.size,h2⟩
 bin b hb:=(h.bin b hb).off ho (fun k hk=>hG k (.inr (.inr (.inr (.inl ⟨b,hb,hk⟩)))))
 ne:=h.ne
 apart:=h.apart
 two:=h.two
theorem Js.below {w w':World}{N mf mb:Nat}{vi:List UInt8→Value}{pi:Nat×Int→Addr}{Fi:Nat×Int→Nat→Prop}{fs:List Rcp}{bs:List Qr}(h:Js w N mf mb vi pi Fi fs bs)(hb:Below w.heap.size w w'):Js w' N mf mb vi pi Fi fs bs:=h.off (Off.of_below (F:=fun _=>False) hb) (fun _ _ h=>h)
theorem Js.file {w w':World}{N mf mb:Nat}{vi:List UInt8→Value}{pi:Nat×Int→Addr}{Fi:Nat×Int→Nat→Prop}{fs:List Rcp}{bs:List Qr}{r:Rcp}{v:Value}
 (h:Js w N mf mb vi pi Fi fs bs)(ho:Off (fun k=>k=mf) w w')(hfiles:strRcps.Of w' mf ((r.1,rwR r v)::fs.map fun r=>(r.1,rwR r (vi r.1))))(hnew:∀g∈fs,g.1≠r.1)(hids:Q3 w' v r.2.2.2)
 (hrow:r.2.2.2≠[]→∀k,v.ownBlock=some k→k<w'.heap.size∧¬Xg N mf mb vi Fi fs bs k) :
 Js w' N mf mb (fun n=>if n=r.1 then v else vi n) pi Fi (r::fs) bs:=by
 obtain⟨n1,n2,n3⟩:=h.ne;refine⟨ho.blk h.blk (fun e=>n1 e),?_,h.bins.moved (ho.block mb h.bins.lt (fun e=>n3 e.symm)),?_,?_,fun b hb=>(h.bin b hb).off ho (fun k hk e=>(h.apart b hb).2.1 (e▸hk)),h.ne,h.apart,h.two⟩
 ·rw[List.map_cons];simp only[if_true];rw[List.map_congr_left (g:=fun f=>(f.1,rwR f (vi f.1))) (fun f hf=>by rw[if_neg (hnew f hf)])];exact hfiles
 ·intro f hf;rcases List.mem_cons.1 hf with rfl|hf
  ·simp only[if_true];exact hids
  ·simp only[if_neg (hnew f hf)];exact(h.ids f hf).off ho (fun hi k hk e=>(h.rows f hf hi k hk).2.2.1 e)
 ·intro f hf hi k hk;rcases List.mem_cons.1 hf with rfl|hf
  ·simp only[if_true]at hk;obtain⟨h1,h2⟩:=hrow hi k hk;exact⟨h1,fun e=>h2 (.inl e),fun e=>h2 (.inr (.inl e)),fun e=>h2 (.inr (.inr (.inl e))),fun b hb hF=>h2 (.inr (.inr (.inr (.inl ⟨b,hb,hF⟩))))⟩
  ·simp only[if_neg (hnew f hf)]at hk;obtain⟨h1,h2⟩:=h.rows f hf hi k hk;exact⟨Nat.lt_of_lt_of_le h1 ho.size,h2⟩
theorem rFoot_file {N mf mb:Nat}{vi:List UInt8→Value}{Fi:Nat×Int→Nat→Prop}{fs:List Rcp}{bs:List Qr}{r:Rcp}{v:Value}(hnew:∀g∈fs,g.1≠r.1){k:Nat}(h:Xg N mf mb (fun n=>if n=r.1 then v else vi n) Fi (r::fs) bs k):Xg N mf mb vi Fi fs bs k∨(r.2.2.2≠[]∧v.ownBlock=some k):=by
 rcases h with e|e|e|h|⟨f,hf,hi,hk⟩
 ·exact .inl (.inl e)
 ·exact .inl (.inr (.inl e))
 ·exact .inl (.inr (.inr (.inl e)))
 ·exact .inl (.inr (.inr (.inr (.inl h))))
 ·rcases List.mem_cons.1 hf with rfl|hf
  ·simp only[if_true]at hk;exact .inr ⟨hi,hk⟩
  ·simp only[if_neg (hnew f hf)]at hk;exact .inl (.inr (.inr (.inr (.inr ⟨f,hf,hi,hk⟩))))
theorem Js.rep {w w':World}{N mf mb:Nat}{vi:List UInt8→Value}{pi:Nat×Int→Addr}{Fi:Nat×Int→Nat→Prop}{fs:List Rcp}{bs:List Qr}{q:Addr}{F8:Nat→Prop}{bl:List Hd}{x:Nat×Int}
 (h:Js w N mf mb vi pi Fi fs bs)(ho:Off (fun k=>k=mb) w w')(hbins:idBins.Of w' mb ((x,some q)::(bs.filter (fun b => !decide (b.1=x))).map fun b=>(b.1,some (pi b.1))))
 (hq:Q0 w' q F8 bl)(hF8:∀k,F8 k→¬Xg N mf mb vi Fi fs bs k) :
 Js w' N mf mb vi (fun y=>if y=x then q else pi y) (fun y=>if y=x then F8 else Fi y) fs ((x,bl)::bs.filter (fun b => !decide (b.1=x))):=by
 obtain⟨n1,n2,n3⟩:=h.ne;have hfil:∀b∈bs.filter (fun b => !decide (b.1=x)),b∈bs∧b.1≠x:=fun b hb=>by obtain⟨h1,h2⟩:=List.mem_filter.1 hb;exact⟨h1,by simpa using h2⟩
 refine⟨ho.blk h.blk (fun e=>n2 e),h.files.moved (ho.block mf h.files.lt (fun e=>n3 e)),?_,fun f hf=>(h.ids f hf).off ho (fun hi k hk e=>(h.rows f hf hi k hk).2.2.2.1 e),?_,?_,h.ne,?_,?_⟩
 ·rw[List.map_cons];simp only[if_true];rw[List.map_congr_left (g:=fun b=>(b.1,some (pi b.1))) (fun b hb=>by rw[if_neg (hfil b hb).2])];exact hbins
 ·intro f hf hi k hk;obtain⟨h1,h2,h3,h4,h5⟩:=h.rows f hf hi k hk;refine⟨Nat.lt_of_lt_of_le h1 ho.size,h2,h3,h4,fun b hb => ?_⟩;rcases List.mem_cons.1 hb with rfl|hb
  ·simp only[if_true];exact fun hF=>hF8 k hF (.inr (.inr (.inr (.inr ⟨f,hf,hi,hk⟩))))
  ·simp only[if_neg (hfil b hb).2];exact h5 b (hfil b hb).1
 ·intro b hb;rcases List.mem_cons.1 hb with rfl|hb
  ·simp only[if_true];exact hq
  ·simp only[if_neg (hfil b hb).2];exact(h.bin b (hfil b hb).1).off ho (fun k hk e=>(h.apart b (hfil b hb).1).2.2 (e▸hk))
 ·intro b hb;rcases List.mem_cons.1 hb with rfl|hb
  ·simp only[if_true];exact⟨fun hF=>hF8 _ hF (.inl rfl),fun hF=>hF8 _ hF (.inr (.inl rfl)),fun hF=>hF8 _ hF (.inr (.inr (.inl rfl)))⟩
  ·simp only[if_neg (hfil b hb).2];exact h.apart b (hfil b hb).1
 ·intro b hb c hc hne k;rcases List.mem_cons.1 hb with rfl|hb
  ·rcases List.mem_cons.1 hc with rfl|hc
   ·exact absurd rfl hne
   ·simp only[if_true,if_neg (hfil c hc).2];exact fun hF hG=>hF8 k hF (.inr (.inr (.inr (.inl ⟨c,(hfil c hc).1,hG⟩))))
  ·rcases List.mem_cons.1 hc with rfl|hc
   ·simp only[if_true,if_neg (hfil b hb).2];exact fun hG hF=>hF8 k hF (.inr (.inr (.inr (.inl ⟨b,(hfil b hb).1,hG⟩))))
   ·simp only[if_neg (hfil b hb).2,if_neg (hfil c hc).2];exact h.two b (hfil b hb).1 c (hfil c hc).1 hne k
theorem rFoot_rep {N mf mb:Nat}{vi:List UInt8→Value}{Fi:Nat×Int→Nat→Prop}{fs:List Rcp}{bs:List Qr}{F8:Nat→Prop}{bl:List Hd}{x:Nat×Int}{k:Nat}(h:Xg N mf mb vi (fun y=>if y=x then F8 else Fi y) fs ((x,bl)::bs.filter (fun b => !decide (b.1=x))) k):Xg N mf mb vi Fi fs bs k∨F8 k:=by
 rcases h with e|e|e|⟨b,hb,hk⟩|h
 ·exact .inl (.inl e)
 ·exact .inl (.inr (.inl e))
 ·exact .inl (.inr (.inr (.inl e)))
 ·rcases List.mem_cons.1 hb with rfl|hb
  ·simp only[if_true]at hk;exact .inr hk
  ·obtain⟨h1,h2⟩:=List.mem_filter.1 hb;simp only[if_neg (show b.1≠x by simpa using h2)]at hk;exact .inl (.inr (.inr (.inr (.inl ⟨b,h1,hk⟩))))
 ·exact .inl (.inr (.inr (.inr (.inr h))))
theorem Js.node {w:World}{N mf mb:Nat}{vi:List UInt8→Value}{pi:Nat×Int→Addr}{Fi:Nat×Int→Nat→Prop}{fl:List Qz}{bs:List Qr}(h:Js w N mf mb vi pi Fi (fl.map rcpOf) bs):Q9 w ⟨N,0,none⟩ (Xg N mf mb vi Fi (fl.map rcpOf) bs) ⟨fl,bs⟩:=
 ⟨N,mf,mb,vi,pi,Fi,rfl,h.toN,funext fun _=>propext Qa1⟩
theorem Xv {w w':World}{row:Option Nat}(h:w.drew.grownBy w' row):w.grownBy w' row:=⟨h.os,h.tape,h.output,h.size,h.block⟩
theorem Qpn {a:Nat→Addr}(x:Nat×Int)(p:Addr)(F:Nat→Prop)(l:List Hd)(w:World)(hx:Zv x)(hok:Qd 1000000 l)(hE:Je [4,10] w a)(hP:Q0 w p F l) :
 Calls Tryz.prog 102 #[.pointer (some p),idV (x.1:Nat) x.2] w fun e w'=>∃ev F',e=.returned ev∧Qp w.heap.size w' a ev ((Jw l x).1,-1)∧Q0 w' p F' (Jw l x).2∧(∀k,F' k→F k∨w.heap.size≤k)∧Off F w w':=by
 obtain⟨B,b,rfl,hB,hM,hne,rfl⟩:=hP;have hBl:=hB.lt;have hal:=(Below.refl _ w).alloc wz (.cells #[.int .u32 (x.1:Nat),.int .i64 x.2] 25);have HG:Hid (∀W',Below w.heap.size w W'→∀i,([4,10]:List Nat).contains i=true→W'.cell? ⟨Xn i,0,none⟩=some (sentV a i)):=fun W' hb i hi=>(hE.below hb wz).glob i hi;have HB0:Hid (∀W,Below w.heap.size w W→Q0 W ⟨B,0,none⟩ (fun k=>k=B∨k=b) l):=fun W h=>Q0.off ⟨B,b,rfl,hB,hM,hne,rfl⟩ (Off.of_below (F:=fun _=>False) h) (fun _ _ h=>h);cases hf:Z8 l x with
 | none=>
  have e2:Hid (Jw l x=(5,l)):=by show _=_;unfold Jw;rw[hf]
  have hn:=J2 hf;have hl:∀W:World,idPieces.Of W b l→(Instr.lookup 168 (.map (some b)) (idV (x.1:Nat) x.2) true).run Tryz.prog W=.ok (.tuple #[Xz (0,[]),.bool false]) W:=fun W h=>h.look_none Tryz.underlying168 (Yt W) hx hn;have hI:=Blk.new w #[.int .u32 (x.1:Nat),.int .i64 x.2] 25;have hB1:=hB.next hal;have hM1:=of_below hM hal;go_enter Tryz.func102,Tryz.ntmps102;go_wp2_with fail;generalize hW:w.alloc (.cells #[.int .u32 (x.1:Nat),.int .i64 x.2] 25)=W at *;have hal2:=(Below.refl _ W).alloc wz (.cells #[.string ⟨#[]⟩,.int .i64 0] 172);have hI2:=hI.next hal2;have hB2:=hB1.next hal2;have hM2:=of_below hM1 hal2;have hP2:=Blk.new W #[.string ⟨#[]⟩,.int .i64 0] 172;have hbw:Below w.heap.size w (W.alloc (.cells #[.string ⟨#[]⟩,.int .i64 0] 172)):=hal.trans (hal2.mono hal.size);have x0:=hI.cell (i:=0) rfl;have x1:=hI.cell (i:=1) rfl;have q0:=hB1.cell (i:=0) rfl;have y0:=hI2.cell (i:=0) rfl;have y1:=hI2.cell (i:=1) rfl;have r0:=hB2.cell (i:=0) rfl;have p0:=hP2.cell (i:=0) rfl;have p1:=hP2.cell (i:=1) rfl;have f0:=hP2.frozen 0;have f1:=hP2.frozen 1;have l1:=hl W.drew (Zt hM1);have l2:=hl (W.alloc (.cells #[.string ⟨#[]⟩,.int .i64 0] 172)).drew (Zt hM2);go_region
  all_goals
   have hb3:=Qk hbw;have g4:(W.alloc (.cells #[.string ⟨#[]⟩,.int .i64 0] 172)).drew.cell? ⟨0,0,none⟩=some (sentV a 4):=HG.out _ hb3 4 (by decide);generalize (W.alloc (.cells #[.string ⟨#[]⟩,.int .i64 0] 172)).drew=W3 at *;go_wp2_with fail;go_ret;exact⟨_,_,rfl,by rw[e2.out];exact Xr _ _ a 4 (by decide) rfl,by rw[e2.out];exact HB0.out _ hb3,fun k hk=>.inl hk,Off.of_below hb3⟩
 | some k=>
  obtain⟨hk,hm⟩:=Ve hf;obtain⟨_,hxe⟩:=Jg hf;have e2:Hid (Jw l x=if l[k].2.1=0 then (11,l) else (0,l.modify k (hUse (-1)))):=by show _=_;unfold Jw;rw[hf];simp[List.getElem?_eq_getElem hk]
  have hmp:=Qaw (-1) l k hk hM.apart;rw[hxe]at hmp;obtain⟨hu0,hu1⟩:=hok.uses (Int.le_refl _) _ (List.getElem_mem hk);have hmany:=hok.many;obtain⟨⟨u,t⟩,hc⟩:∃c,l[k].2=c:=⟨_,rfl⟩;rw[hc]at hm e2 hmp hu0 hu1;simp only at e2 hmp hu0 hu1;clear hc;have hl:∀W:World,idPieces.Of W b l→(Instr.lookup 168 (.map (some b)) (idV (x.1:Nat) x.2) true).run Tryz.prog W=.ok (.tuple #[Xz (u,t),.bool true]) W:=fun W h=>h.look_some Tryz.underlying168 (Yt W) hm;have hI:=Blk.new w #[.int .u32 (x.1:Nat),.int .i64 x.2] 25;have hB1:=hB.next hal;have hM1:=of_below hM hal;go_enter Tryz.func102,Tryz.ntmps102;go_wp2_with fail;generalize hW:w.alloc (.cells #[.int .u32 (x.1:Nat),.int .i64 x.2] 25)=W at *;have hal2:=(Below.refl _ W).alloc wz (.cells #[.string ⟨#[]⟩,.int .i64 0] 172);have hI2:=hI.next hal2;have hB2:=hB1.next hal2;have hM2:=of_below hM1 hal2;have hP2:=Blk.new W #[.string ⟨#[]⟩,.int .i64 0] 172;have hbw:Below w.heap.size w (W.alloc (.cells #[.string ⟨#[]⟩,.int .i64 0] 172)):=hal.trans (hal2.mono hal.size);have x0:=hI.cell (i:=0) rfl;have x1:=hI.cell (i:=1) rfl;have q0:=hB1.cell (i:=0) rfl;have y0:=hI2.cell (i:=0) rfl;have y1:=hI2.cell (i:=1) rfl;have r0:=hB2.cell (i:=0) rfl;have p0:=hP2.cell (i:=0) rfl;have p1:=hP2.cell (i:=1) rfl;have f0:=hP2.frozen 0;have f1:=hP2.frozen 1;have l1:=hl W.drew (Zt hM1);have l2:=hl (W.alloc (.cells #[.string ⟨#[]⟩,.int .i64 0] 172)).drew (Zt hM2);go_region
  all_goals
   have hal3:=(Below.refl _ W).alloc wz (.cells #[.string ⟨t.toArray⟩,.int .i64 u] 172);have hP3:=Blk.new W #[.string ⟨t.toArray⟩,.int .i64 u] 172;have hI3:=hI.next hal3;have hB3:=hB1.next hal3;have hM3:=Zt (of_below hM1 hal3);have hb3:=Qk (hal.trans (hal3.mono hal.size));have hPd:Blk (W.alloc (.cells #[.string ⟨t.toArray⟩,.int .i64 u] 172)).drew W.heap.size #[.string ⟨t.toArray⟩,.int .i64 u] 172:=hP3;have hId:Blk (W.alloc (.cells #[.string ⟨t.toArray⟩,.int .i64 u] 172)).drew w.heap.size #[.int .u32 (x.1:Nat),.int .i64 x.2] 25:=hI3;have hBd:Blk (W.alloc (.cells #[.string ⟨t.toArray⟩,.int .i64 u] 172)).drew B #[.map (some b)] 170:=hB3;generalize (W.alloc (.cells #[.string ⟨t.toArray⟩,.int .i64 u] 172)).drew=W3 at *;have hIW:w.heap.size<W.heap.size:=hI.lt;have g10:W3.cell? ⟨10,0,none⟩=some (sentV a 10):=HG.out _ hb3 10 (by decide);have t0:=hPd.cell (i:=0) rfl;have t1:=hPd.cell (i:=1) rfl;have ft:=hPd.frozen 1;clear hl l1 l2 hP2 hbw hal2 hI2 hB2 hM2 x0 x1 q0 y0 y1 r0 p0 p1 f0 f1 hP3 hI3 hB3;by_cases hz:u=0
   ·subst hz;have e3:Hid (Jw l x=(11,l)):=(by show _=_;rw[e2.out,if_pos rfl]);clear e2;go_wp2_with fail;go_ret;exact⟨_,_,rfl,by rw[e3.out];exact Xr _ _ a 10 (by decide) rfl,by rw[e3.out];exact HB0.out _ hb3,fun k hk=>.inl hk,Off.of_below hb3⟩
   ·have e3:Hid (Jw l x=(0,l.modify k (hUse (-1)))):=(by show _=_;rw[e2.out,if_neg hz]);clear e2;have hu1':IntKind.i64.wrap (u - 1)=u - 1:=(by rw[IntKind.wrap_i64];omega);have hS3:=hPd.set 1 (.int .i64 (u - 1));have hneI:w.heap.size≠W.heap.size:=(by omega);have hneB:B≠W.heap.size:=(by omega);have hIs:=hId.other (a:=⟨W.heap.size,1,none⟩) hneI (.int .i64 (u - 1));have hBs:=hBd.other (a:=⟨W.heap.size,1,none⟩) hneB (.int .i64 (u - 1));have hgs:W3.grownBy (W3.setCell ⟨W.heap.size,1,none⟩ (.int .i64 (u - 1))) (some W.heap.size):=grown_set (grown_refl W3 _) 1 _;have hbl:=hM1.lt;have hMs:=Zt (hM3.kept hgs (fun e=>by have:=Option.some.inj e;omega));have hb4:Below w.heap.size w (W3.setCell ⟨W.heap.size,1,none⟩ (.int .i64 (u - 1))):=hb3.setCell (p:=⟨W.heap.size,1,none⟩) (by show w.heap.size≤W.heap.size;omega) _;obtain⟨w5,hs,hOf,hg5⟩:=hMs.store Tryz.underlying168 hx (u - 1,t) (by unfold maxLen;omega);change(Instr.mapUpdate 168 (.map (some b)) (idV (x.1:Nat) x.2) (Xz (u - 1,t))).run Tryz.prog _=_ at hs;have s0:=hS3.cell (i:=0) rfl;have s1:=hS3.cell (i:=1) rfl;have i0:=hIs.cell (i:=0) rfl;have i1:=hIs.cell (i:=1) rfl;have b0:=hBs.cell (i:=0) rfl;have HOF:=hOf _ hmp;have hg5':=Xv hg5;have HQ:Hid (Q0 w5 ⟨B,0,none⟩ (fun k=>k=B∨k=b) (l.modify k (hUse (-1)))∧Off (fun k=>k=B∨k=b) w w5):=
     ⟨⟨B,b,rfl,(hg5'.block B hBs.lt (fun e=>hne (Option.some.inj e))).trans hBs,HOF,hne,rfl⟩,(Off.of_below hb4).trans (Q7 hg5' (.inr rfl)) (fun _ _ h=>h)⟩
    clear HOF hOf hg5 hg5' hMs hmp hS3 hIs hBs hgs;go_wp2_with fail;go_region
    all_goals
     go_wp2_with fail;go_ret;rw[e3.out];exact⟨_,_,rfl,.inl ⟨rfl,rfl⟩,HQ.out.1,fun k hk=>.inl hk,HQ.out.2⟩
end Go.Proofs.YtjngnnbondejaabGreatDoor
