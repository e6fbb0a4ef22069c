/- A part. -/
import Derived.Test.YtjngnnbondejaabGreatDoorM12
set_option maxHeartbeats 8000000
set_option maxRecDepth 100000
namespace Go.Proofs.YtjngnnbondejaabGreatDoor
open Go.RowKit Go.Maps
theorem Qwj {w:World}{M:Nat}{G:Nat→Prop}{sm:NSt}(h:Ya w ⟨M,0,none⟩ G sm)(nm s:ByteArray){U:Int}(hnm:nm.size≤50000)(hs:s.size≤50000)(hU:0≤U∧U+5000≤1000000)(hok:∀b∈sm.bins,Qd U b.2)(hbn:sm.bins.length≤1000)(hpn:sm.files.length≤1000) :
 Calls Tryz.prog 68 #[.pointer (some ⟨M,0,none⟩),.string nm,.string s] w (Yy w M G (Qdr sm nm.data.toList s.data.toList)):=by
 obtain⟨M',vf,vb,ps,bs,hm,h,rfl,rfl⟩:=h;obtain rfl:M=M':=by simpa using hm
 exact Qi1 M vf vb ps bs nm s U w hnm hs hU hok (by rw[←Qn];exact hbn) (by rw[←Zg];exact hpn) h
theorem Qv1 {w:World}{M:Nat}{G:Nat→Prop}{sm:NSt}(h:Ya w ⟨M,0,none⟩ G sm)(nm:ByteArray)(hI:Xh sm)(hok:∀b∈sm.bins,Qd 1000000 b.2)(hfl:∀f∈sm.files,f.2.length≤4000)(hbn:sm.bins.length≤1000)(hpn:sm.files.length≤1000) :
 Calls Tryz.prog 69 #[.pointer (some ⟨M,0,none⟩),.string nm] w (Uf w M G (Z5 sm nm.data.toList)):=by
 obtain⟨M',vf,vb,ps,bs,hm,h,rfl,rfl⟩:=h;obtain rfl:M=M':=by simpa using hm
 exact Qhl M vf vb ps bs nm w (by rw[←Qn];exact hbn) (by rw[←Zg];exact hpn) hI hok hfl h
theorem Qus {w:World}{M:Nat}{G:Nat→Prop}{sm:NSt}(h:Ya w ⟨M,0,none⟩ G sm)(hok:∀b∈sm.bins,Qd 1000000 b.2)(hbn:sm.bins.length≤1000) :
 Calls Tryz.prog 70 #[.pointer (some ⟨M,0,none⟩)] w (Uf w M G (Xo sm)):=by
 obtain⟨M',vf,vb,ps,bs,hm,h,rfl,rfl⟩:=h;obtain rfl:M=M':=by simpa using hm
 refine(Qoh M vf vb ps bs w (by rw[←Qn];exact hbn) hok h).mono ?_;rintro e w' ⟨rfl,bs',he,hS,hn,ho⟩;refine⟨rfl,_,⟨M,vf,vb,ps,bs',rfl,hS,?_,rfl⟩,fun k hk => ?_,ho.mono (fun k _ hk=>.inr (.inr (.inr (.inl hk))))⟩
 ·show(⟨mFs ps,(mBs bs).map swB⟩:NSt)=_;rw[he]
 ·rcases hk with rfl|hk|hk|hk|hk
  ·exact .inl (.inl rfl)
  ·exact .inl (.inr (.inl hk))
  ·exact .inl (.inr (.inr (.inl hk)))
  ·rcases hn k hk with hk|hk
   ·exact .inl (.inr (.inr (.inr (.inl hk))))
   ·exact .inr hk
  ·exact .inl (.inr (.inr (.inr (.inr hk))))
theorem Qjf {w:World}{M:Nat}{G:Nat→Prop}{sm:NSt}(h:Ya w ⟨M,0,none⟩ G sm)(hok:∀b∈sm.bins,Qd 1000000 b.2)(hbn:sm.bins.length≤1000) :
 Calls Tryz.prog 72 #[.pointer (some ⟨M,0,none⟩)] w fun e w'=>e=.returned (.int .i64 (Z7 sm.bins))∧w'=w:=by
 obtain⟨M',vf,vb,ps,bs,hm,h,rfl,rfl⟩:=h;obtain rfl:M=M':=by simpa using hm
 exact Qql M vf vb ps bs w (by rw[←Qn];exact hbn) hok h
theorem Qwr {w:World}{M:Nat}{G:Nat→Prop}{sm:NSt}(h:Ya w ⟨M,0,none⟩ G sm)(nm:ByteArray){U:Int}{n:Nat}(hI:Xh sm)(hok:NOk U n sm)(hbn:sm.bins.length≤1000)(hpn:sm.files.length≤1000) :
 Calls Tryz.prog 71 #[.pointer (some ⟨M,0,none⟩),.string nm] w fun e w'=>e=.returned (.tuple #[.string ⟨(Qbd sm nm.data.toList).1.toArray⟩,.int .i64 (Qbd sm nm.data.toList).2])∧Below w.heap.size w w':=by
 obtain⟨M',vf,vb,ps,bs,hm,h,rfl,rfl⟩:=h;obtain rfl:M=M':=by simpa using hm
 exact Qi6 M vf vb ps bs nm U n w (by rw[←Qn];exact hbn) (by rw[←Zg];exact hpn) hI hok h
structure TwoN (w0 w:World)(p:Addr)(F:Nat→Prop)(st:NSt)(M:Nat)(G:Nat→Prop)(sm:NSt):Prop where
 below:Below w0.heap.size w0 w
 node:Q9 w p F st
 doc:Ya w ⟨M,0,none⟩ G sm
 fnew:∀k,F k→w0.heap.size≤k
 gnew:∀k,G k→w0.heap.size≤k
 apart:∀k,F k→¬G k
theorem TwoN.next {w0 w w':World}{p:Addr}{F:Nat→Prop}{st:NSt}{M:Nat}{G:Nat→Prop}{sm:NSt}(h:TwoN w0 w p F st M G sm)(hb:Below w.heap.size w w'):TwoN w0 w' p F st M G sm:=
 ⟨h.below.trans (hb.mono h.below.size),h.node.below hb,h.doc.below hb,h.fnew,h.gnew,h.apart⟩
theorem TwoN.prog {w0 w w':World}{p:Addr}{F F':Nat→Prop}{st st':NSt}{M:Nat}{G:Nat→Prop}{sm:NSt}(h:TwoN w0 w p F st M G sm)(hp:Q9 w' p F' st')(hF:∀k,F' k→F k∨w.heap.size≤k)(ho:Off F w w'):TwoN w0 w' p F' st' M G sm:=
 ⟨h.below.trans (ho.below h.below.size (fun k hk hf=>by have:=h.fnew k hf;omega)),hp,h.doc.off ho (fun k hk hf=>h.apart k hf hk),fun k hk=>(hF k hk).elim (h.fnew k) (fun h2=>Nat.le_trans h.below.size h2),h.gnew,fun k hk hg=>(hF k hk).elim (fun hf=>h.apart k hf hg) (fun h2=>by have:=h.doc.lt k hg;omega)⟩
theorem TwoN.model {w0 w w':World}{p:Addr}{F:Nat→Prop}{st:NSt}{M:Nat}{G G':Nat→Prop}{sm sm':NSt}(h:TwoN w0 w p F st M G sm)(hp:Ya w' ⟨M,0,none⟩ G' sm')(hG:∀k,G' k→G k∨w.heap.size≤k)(ho:Off G w w'):TwoN w0 w' p F st M G' sm':=
 ⟨h.below.trans (ho.below h.below.size (fun k hk hf=>by have:=h.gnew k hf;omega)),h.node.off ho (fun k hk hf=>h.apart k hk hf),hp,h.fnew,fun k hk=>(hG k hk).elim (h.gnew k) (fun h2=>Nat.le_trans h.below.size h2),fun k hk hg=>(hG k hg).elim (fun hf=>h.apart k hk hf) (fun h2=>by have:=h.node.lt k hk;omega)⟩
structure G7 (k:Nat)(st sm:NSt):Prop where
 rel:Yu st sm
 inv:Xh st
 full:Xj st
 ok:NOk (4000*k) k st
theorem G7.start:G7 0 ⟨[],[]⟩ ⟨[],[]⟩:=⟨Yu.empty,Xh.empty,Xj.empty,NOk.empty.mono (by simp) wz⟩
theorem G7.more {k:Nat}{st sm:NSt}(h:G7 k st sm):G7 (k+1) st sm:=⟨h.rel,h.inv,h.full,h.ok.mono (by push_cast;omega) (by omega)⟩
theorem G7.put {k:Nat}{st sm:NSt}(h:G7 k st sm)(nm s:List UInt8):G7 (k+1) (Jt st nm s).2.2 (Qdr sm nm s).2.2:=
 ⟨(h.rel.put nm s).2.2,h.inv.put h.ok (by omega) nm s,h.full.put nm s,(h.ok.put (by omega) nm s).mono (V:=4000*((k+1:Nat):Int)) (m:=k+1) (by push_cast;omega) wz⟩
theorem G7.drop {k:Nat}{st sm:NSt}(h:G7 k st sm)(nm:List UInt8):G7 (k+1) (Z5 st nm).2 (Z5 sm nm).2:=
 ⟨(h.rel.drop nm).2,h.inv.drop h.ok nm,h.full.drop h.inv nm,(h.ok.drop nm).mono (by push_cast;omega) (by omega)⟩
theorem G7.sweep {k:Nat}{st sm:NSt}(h:G7 k st sm):G7 (k+1) (Xo st).2 (Xo sm).2:=
 ⟨h.rel.sweep.2,h.inv.sweep,h.full.sweep,h.ok.sweep.mono (by push_cast;omega) (by omega)⟩
theorem Qs8 {st sm:NSt}(h:Yu st sm)(nm:List UInt8):Qbd sm nm=Qbd st nm:=by
 unfold Qbd;rw[h.file]
open Go.RowKit
theorem Gg (a:Nat→Addr)(v:Value)(c:Int)(w:World)(hE:J6 w a)(h:Qbn w a v (c,-1)) :
 Calls Tryz.prog 29 #[v,.int .i64 c] w fun e w'=>e=.returned (.bool true)∧Below w.heap.size w w':=by
 have HE:Hid (J6 w a):=hE;have HI:Hid (Qbn w a v (c,-1)):=h;have hcc:(c==c)=true:=by simp
 clear hE h;go_enter Tryz.func29,Tryz.ntmps29;go_wp2_with fail;refine(HI.out.code HE.out).mono ?_;rintro e w1 ⟨rfl,hb1⟩;go_wp2_with fail;go_ret;exact⟨rfl,hb1⟩
section
variable {P:Program} {k:TypeId} {κ β:Type}
variable {ops:Array Oper} {rest:List Oper} {o:Oper} {a:Act} {Q:Exit→Act→World→Prop}
end
variable {w w':World} {N mf mb:Nat} {vi:List UInt8→Value} {pi:Nat×Int→Addr} {Fi:Nat×Int→Nat→Prop} {st:NSt}
def qm (l:List Qr)(r:Nat×Int)(bl:List Hd):List Qr:=l.map (fun b=>if b.1=r then (b.1,bl) else b)
theorem Vq (r:Nat×Int)(bl:List Hd)(b:Qr):(if b.1=r then (b.1,bl) else b).1=b.1:=by split<;>rfl
theorem NAt.bin1 {r:Nat×Int}{bl bl':List Hd}{F':Nat→Prop}(h:NAt w N mf mb vi pi Fi st)(hm:(r,bl)∈st.bins)(ho:Off (Fi r) w w')(hq:Q0 w' (pi r) F' bl')(hF:∀k,F' k→Fi r k∨w.heap.size≤k) :
 NAt w' N mf mb vi pi (fun x=>if x=r then F' else Fi x) ⟨st.files,qm st.bins r bl'⟩:=by
 obtain⟨a1,a2,a3⟩:=h.apart _ hm;have hFl:∀k,F' k→k<w.heap.size→Fi r k:=fun k hk hl=>(hF k hk).resolve_right (by omega);refine⟨ho.blk h.blk a1,h.files.moved (ho.block mf h.files.lt a2),?_,fun f hf=>(h.ids f hf).off ho (fun hi k hk=>(h.rows f hf hi k hk).2.2.2.2 _ hm),fun f hf hi k hk => ?_,fun b hb => ?_,h.ne,fun b hb => ?_,fun b hb c hc hne k => ?_⟩
 ·have e:(qm st.bins r bl').map (fun b=>(b.1,some (pi b.1)))=st.bins.map (fun b=>(b.1,some (pi b.1))):=by unfold qm;rw[List.map_map];refine List.map_congr_left fun b _ => ?_;simp only[Function.comp,Vq]
  rw[e];exact h.bins.moved (ho.block mb h.bins.lt a3)
 ·obtain⟨h1,h2,h3,h4,h5⟩:=h.rows f hf hi k hk;refine⟨Nat.lt_of_lt_of_le h1 ho.size,h2,h3,h4,fun b hb => ?_⟩;obtain⟨c,hc,rfl⟩:=List.mem_map.1 hb;rw[Vq];by_cases e:c.1=r
  ·simp only[if_pos e];exact fun hk'=>h5 _ hm (hFl k hk' h1)
  ·simp only[if_neg e];exact h5 c hc
 ·obtain⟨c,hc,rfl⟩:=List.mem_map.1 hb;by_cases e:c.1=r
  ·simp only[if_pos e];rw[e];exact hq
  ·simp only[if_neg e];exact(h.bin c hc).off ho (fun k hk hr=>h.two c hc _ hm e k hk hr)
 ·obtain⟨c,hc,rfl⟩:=List.mem_map.1 hb;rw[Vq];by_cases e:c.1=r
  ·simp only[if_pos e];exact⟨fun hk=>a1 (hFl _ hk h.blk.lt),fun hk=>a2 (hFl _ hk h.files.lt),fun hk=>a3 (hFl _ hk h.bins.lt)⟩
  ·simp only[if_neg e];exact h.apart c hc
 ·obtain⟨b',hb',rfl⟩:=List.mem_map.1 hb;obtain⟨c',hc',rfl⟩:=List.mem_map.1 hc;rw[Vq,Vq]at *;by_cases e:b'.1=r
  ·by_cases e2:c'.1=r
   ·exact absurd (e.trans e2.symm) hne
   ·simp only[if_pos e,if_neg e2];exact fun hk hc2=>h.two c' hc' _ hm e2 k hc2 (hFl k hk ((h.bin c' hc').lt k hc2))
  ·by_cases e2:c'.1=r
   ·simp only[if_neg e,if_pos e2];exact fun hk hc2=>h.two b' hb' _ hm e k hk (hFl k hc2 ((h.bin b' hb').lt k hk))
   ·simp only[if_neg e,if_neg e2];exact h.two b' hb' c' hc' hne k
theorem nFoot_bin1 {r:Nat×Int}{bl bl':List Hd}{F':Nat→Prop}{s:Nat}(hm:(r,bl)∈st.bins)(hF:∀k,F' k→Fi r k∨s≤k){k:Nat}(h:X7 N mf mb vi (fun x=>if x=r then F' else Fi x) ⟨st.files,qm st.bins r bl'⟩ k):X7 N mf mb vi Fi st k∨s≤k:=by
 rcases h with e|e|e|⟨b,hb,hk⟩|h
 ·exact .inl (.inl e)
 ·exact .inl (.inr (.inl e))
 ·exact .inl (.inr (.inr (.inl e)))
 ·obtain⟨c,hc,rfl⟩:=List.mem_map.1 hb;rw[Vq]at hk;by_cases e:c.1=r
  ·simp only[if_pos e]at hk;rcases hF k hk with h|h
   ·exact .inl (.inr (.inr (.inr (.inl ⟨_,hm,h⟩))))
   ·exact .inr h
  ·simp only[if_neg e]at hk;exact .inl (.inr (.inr (.inr (.inl ⟨c,hc,hk⟩))))
 ·exact .inl (.inr (.inr (.inr (.inr h))))
theorem NAt.unfile {nm:List UInt8}(h:NAt w N mf mb vi pi Fi st)(ho:Off (fun k=>k=mf) w w')(hfiles:strRcps.Of w' mf ((st.files.map fun f=>(f.1,Qex f (vi f.1))).filter (fun h => !decide (h.1=nm)))) :
 NAt w' N mf mb vi pi Fi ⟨st.files.filter (fun f => !decide (f.1=nm)),st.bins⟩:=by
 obtain⟨n1,n2,n3⟩:=h.ne;refine⟨ho.blk h.blk (fun e=>n1 e),?_,h.bins.moved (ho.block mb h.bins.lt (fun e=>n3 e.symm)),fun f hf => ?_,fun f hf hi k hk => ?_,fun b hb=>(h.bin b hb).off ho (fun k hk e=>(h.apart b hb).2.1 (e▸hk)),h.ne,h.apart,h.two⟩
 ·rw[List.filter_map]at hfiles;exact hfiles
 ·have hf':=(List.mem_filter.1 hf).1;exact(h.ids f hf').off ho (fun hi k hk=>(h.rows f hf' hi k hk).2.2.1)
 ·obtain⟨h1,h2⟩:=h.rows f (List.mem_filter.1 hf).1 hi k hk;exact⟨Nat.lt_of_lt_of_le h1 ho.size,h2⟩
theorem Qjk {nm:List UInt8}{k:Nat}(h:X7 N mf mb vi Fi ⟨st.files.filter (fun f => !decide (f.1=nm)),st.bins⟩ k):X7 N mf mb vi Fi st k:=by
 rcases h with e|e|e|h|⟨f,hf,h⟩
 ·exact .inl e
 ·exact .inr (.inl e)
 ·exact .inr (.inr (.inl e))
 ·exact .inr (.inr (.inr (.inl h)))
 ·exact .inr (.inr (.inr (.inr ⟨f,(List.mem_filter.1 hf).1,h⟩)))
theorem NAt.unbin {r:Nat×Int}(h:NAt w N mf mb vi pi Fi st)(ho:Off (fun k=>k=mb) w w')(hbins:idBins.Of w' mb ((st.bins.map fun b=>(b.1,some (pi b.1))).filter (fun h => !decide (h.1=r)))) :
 NAt w' N mf mb vi pi Fi ⟨st.files,st.bins.filter (fun b => !decide (b.1=r))⟩:=by
 obtain⟨n1,n2,n3⟩:=h.ne;refine⟨ho.blk h.blk (fun e=>n2 e),h.files.moved (ho.block mf h.files.lt (fun e=>n3 e)),?_,fun f hf=>(h.ids f hf).off ho (fun hi k hk=>(h.rows f hf hi k hk).2.2.2.1),fun f hf hi k hk => ?_,fun b hb => ?_,h.ne,fun b hb=>h.apart b (List.mem_filter.1 hb).1,fun b hb c hc=>h.two b (List.mem_filter.1 hb).1 c (List.mem_filter.1 hc).1⟩
 ·rw[List.filter_map]at hbins;exact hbins
 ·obtain⟨h1,h2,h3,h4,h5⟩:=h.rows f hf hi k hk;exact⟨Nat.lt_of_lt_of_le h1 ho.size,h2,h3,h4,fun b hb=>h5 b (List.mem_filter.1 hb).1⟩
 ·have hb':=(List.mem_filter.1 hb).1;exact(h.bin b hb').off ho (fun k hk e=>(h.apart b hb').2.2 (e▸hk))
theorem Qkg {r:Nat×Int}{k:Nat}(h:X7 N mf mb vi Fi ⟨st.files,st.bins.filter (fun b => !decide (b.1=r))⟩ k):X7 N mf mb vi Fi st k:=by
 rcases h with e|e|e|⟨b,hb,h⟩|h
 ·exact .inl e
 ·exact .inr (.inl e)
 ·exact .inr (.inr (.inl e))
 ·exact .inr (.inr (.inr (.inl ⟨b,(List.mem_filter.1 hb).1,h⟩)))
 ·exact .inr (.inr (.inr (.inr h)))
open Go.RowKit Go.Maps
theorem Qhe (x:Nat×Int)(p:Addr)(F:Nat→Prop)(st:NSt)(w:World)(hlen:∀f∈st.files,(idsOf f.2).length≤4000)(hP:Q9 w p F st) :
 Calls Tryz.prog 101 #[.pointer (some p),idV (x.1:Nat) x.2] w fun e w'=>e=.returned (.bool (st.files.any (fun f=>decide (Qg f.2=x))))∧Below w.heap.size w w':=by
 obtain⟨N,mf,mb,vi,pi,Fi,rfl,h,_⟩:=hP;obtain⟨xp,xl⟩:=x;simp only;have hal:=(Below.refl _ w).alloc wz (.cells #[.int .u32 (xp:Nat),.int .i64 xl] 25);have hbx:=Blk.new w #[.int .u32 (xp:Nat),.int .i64 xl] 25;have h1:=h.below hal;have q0:=h1.blk.cell (i:=0) rfl;have hM:=h1.files;have HH:=Qa h1;have HLEN:=Qa hlen;have HB0:=Qa hal;have HBX:=Qa hbx;obtain⟨L,hL⟩:∃L,(st.files.map fun f=>(f.1,Qex f (vi f.1)))=L:=⟨_,rfl⟩;have HL:Hid ((st.files.map fun f=>(f.1,Qex f (vi f.1)))=L):=hL;rw[hL]at hM;clear h h1 hL hlen hal hbx;obtain⟨RES,hRES⟩:∃RES,st.files.any (fun f=>decide (Qg f.2=(xp,xl)))=RES:=⟨_,rfl⟩;have HRES:=Qa hRES;rw[hRES];clear hRES;go_enter Tryz.func101,Tryz.ntmps101;go_wp2_with (first|(at_range;refine wp_range_kit strRcps _ rfl _ 118 rfl 40 Tryz.underlying118 mf L rfl hM ?_;intro w0 hr0 hg0 hs0)|go_in);go_frame;generalize w.alloc (.cells #[.int .u32 (xp:Nat),.int .i64 xl] 25)=W at *
 go_loopw [12] (fun _ wr=>∃(left:List UInt8→Bool) (cnt:Nat),strRcps.Rng wr mf W.heap.size L left cnt∧Hid (∀f∈st.files,left f.1=false→Qg f.2≠(xp,xl))∧Hid (W.grownBy wr none)) (fun _ wr=>wr.rangeLeft mf W.heap.size)
 case atStart=>
  refine⟨_,_,hr0,fun f hf hl => ?_,hg0⟩;have hm:f.1∈L.map (·.1):=List.mem_map.2 ⟨(f.1,Qex f (vi f.1)),by rw[←HL.out];exact List.mem_map.2 ⟨f,hf,rfl⟩,rfl⟩;simp only[decide_eq_false_iff_not]at hl;exact absurd hm hl
 case round=>
  obtain⟨left,cnt,hrg,HNO,HG⟩:=hrel;go_wp2_with (first|(at_next;refine wp_next_kit strRcps _ rfl _ rfl mf W.heap.size L left cnt rfl hrg ?_ ?_)|go_in)
  ·intro h0;have HR0:Hid (RES=false):=by show _=_;rw[←HRES.out,List.any_eq_false];intro f hf;have:=HNO.out f hf (h0 f.1 _ _ _ _ (by rw[←HL.out];exact List.mem_map.2 ⟨f,hf,rfl⟩));simp[this]
   clear h0;go_wp2_with fail;go_ret;exact⟨by rw[HR0.out];rfl,HB0.out.trans ((Qe HG.out).mono HB0.out.size)⟩
  ·intro fn c1 c2 c3 c4 w1 cnt1 hm hlx hrg1 hlt hg1 hs1 hen;clear hs1;rw[←HL.out]at hm;obtain⟨⟨fn',s⟩,hf,hfe⟩:=List.mem_map.1 hm;obtain⟨rfl,rfl,rfl,rfl,rfl⟩:fn'=fn∧fn'=c1∧(s.length:Int)=c2∧((pmore 2166136261 s:Nat):Int)=c3∧vi fn'=c4:=(by simpa[Qex]using hfe);obtain⟨pv0,cv0,hv0,_⟩:=HH.out.ids _ hf;have HI:=Qa (HH.out.ids _ hf);have HF:=Qa hf;have HLX:=Qa hlx;simp only at hv0 HI;change(Instr.entry (.pointer (some ⟨W.heap.size,0,none⟩))).run Tryz.prog w1=.ok (.tuple #[.string ⟨fn'.toArray⟩,.agg #[.string ⟨fn'.toArray⟩,.int .i64 (s.length:Int),.int .u32 ((pmore 2166136261 s:Nat):Int),vi fn']]) w1 at hen;rw[hv0]at hen HI;have HLS:=Qa (HLEN.out _ hf);simp only at HLS;obtain⟨P,hPP⟩:∃P,pmore 2166136261 s=P:=⟨_,rfl⟩;obtain⟨LL,hLL⟩:∃LL,(s.length:Int)=LL:=⟨_,rfl⟩;obtain⟨idl,hidl⟩:∃idl,(idsOf s).length=idl:=⟨_,rfl⟩;obtain⟨⟨rp,rl⟩,hrep⟩:∃r,Qg s=r:=⟨_,rfl⟩;obtain⟨FN,hFN⟩:∃FN:ByteArray,(⟨fn'.toArray⟩:ByteArray)=FN:=⟨_,rfl⟩;have HID:=Qa hidl;have HRP:=Qa hrep;have HREP:=Qa (fun W (hv:Q3 W (.slice pv0 idl cv0) (idsOf s))=>Ga FN LL (P:Int) (.slice pv0 idl cv0) (idsOf s) W hv (by have:=HLS.out;unfold maxLen;omega));change Hid (∀W,_→Calls _ _ _ W fun e w'=>e=.returned (idV ((Qg s).1:Nat) (Qg s).2)∧_)at HREP;rw[hrep]at HREP;simp only at HREP;rw[hPP,hLL,hidl,hFN]at hen;rw[hidl]at HI;have HG1:Hid (W.grownBy w1 none):=HG.out.andThen hg1 (fun j hj=>by cases hj;exact .inl wz);clear hfe hv0 hPP hLL hidl hrep hFN hf hm hlx;have hal:=(Below.refl _ w1).alloc wz (.cells #[.string FN,.int .i64 LL,.int .u32 (P:Nat),.slice pv0 idl cv0] 40);have hbr:=Blk.new w1 #[.string FN,.int .i64 LL,.int .u32 (P:Nat),.slice pv0 idl cv0] 40;have hB1:=Qe HG1.out;have HI1:=Qa ((HI.out.below hB1).below hal);have HBX1:=Qa ((HBX.out.next hB1).next hal);have hrg2:=hrg1.kept (Qw hal) (by simp) (by simp);have HG2:Hid (W.grownBy _ none):=Qa (HG1.out.andThen (Qw hal) (fun j hj=>by cases hj));have hc:(rp=xp∧rl=xl)∨((rp:Int)==(xp:Int))=false∨(((rp:Int)==(xp:Int))=true∧(rl==xl)=false):=by
    by_cases h:rp=xp
    ·by_cases h2:rl=xl
     ·exact .inl ⟨h,h2⟩
     ·exact .inr (.inr ⟨by rw[beq_iff_eq];omega,by rw[beq_eq_false_iff_ne];exact h2⟩)
    ·exact .inr (.inl (by rw[beq_eq_false_iff_ne];omega))
   have HNEW:Hid ((rp,rl)≠(xp,xl)→∀f∈st.files,(left f.1 && !decide (f.1=fn'))=false→Qg f.2≠(xp,xl)):=fun hne f hf hl=>by
    by_cases e:f.1=fn'
    ·have hap:st.files.Pairwise (fun p q=>p.1≠q.1):=(by have:=HH.out.files.apart;rw[List.pairwise_map]at this;exact this);obtain⟨f1,f2⟩:=f;simp only at e;subst e;have h1:=Jj hap hf;rw[Jj hap HF.out]at h1;rw[←Option.some.inj h1,HRP.out];exact hne
    ·exact HNO.out f hf (by simpa[e]using hl)
   have HCE:Hid (∀W',Blk W' w1.heap.size #[.string FN,.int .i64 LL,.int .u32 (P:Nat),.slice pv0 idl cv0] 40→Blk W' w.heap.size #[.int .u32 (xp:Nat),.int .i64 xl] 25→W'.cell? ⟨w1.heap.size,0,none⟩=some (.string FN)∧W'.cell? ⟨w1.heap.size,1,none⟩=some (.int .i64 LL)∧W'.cell? ⟨w1.heap.size,2,none⟩=some (.int .u32 (P:Nat))∧W'.cell? ⟨w1.heap.size,3,none⟩=some (.slice pv0 idl cv0)∧W'.cell? ⟨w.heap.size,0,none⟩=some (.int .u32 (xp:Nat))∧W'.cell? ⟨w.heap.size,1,none⟩=some (.int .i64 xl)):=fun W' h1 h2=>⟨h1.cell (i:=0) rfl,h1.cell (i:=1) rfl,h1.cell (i:=2) rfl,h1.cell (i:=3) rfl,h2.cell (i:=0) rfl,h2.cell (i:=1) rfl⟩;have HBR:=Qa hbr;have HTRUE:Hid ((rp,rl)=(xp,xl)→RES=true):=fun e=>by rw[←HRES.out,List.any_eq_true];exact⟨_,HF.out,by simp only;rw[HRP.out,e];simp⟩
   clear hal hbr hB1 HI HBX HF;go_wp2_with fail;generalize w1.alloc (.cells #[.string FN,.int .i64 LL,.int .u32 (P:Nat),.slice pv0 idl cv0] 40)=W2 at *;generalize w1.heap.size=RB at *;obtain⟨z0,z1,z2,z3,z4,z5⟩:=HCE.out _ HBR.out HBX1.out;rcases hc with⟨rfl,rfl⟩|hc|⟨hc,hd⟩
   ·go_region_held3 (fun w'=>w'.cell? ⟨RB,0,none⟩=some (.string FN)∧w'.cell? ⟨RB,1,none⟩=some (.int .i64 LL)∧w'.cell? ⟨RB,2,none⟩=some (.int .u32 (P:Nat))∧w'.cell? ⟨RB,3,none⟩=some (.slice pv0 idl cv0)∧w'.cell? ⟨w.heap.size,0,none⟩=some (.int .u32 (rp:Nat))∧w'.cell? ⟨w.heap.size,1,none⟩=some (.int .i64 rl)) (first|exact HCE.out _ HBR3.out HBX3.out|go_keep) (first
     | (go_at_call 96;refine(HREP.out _ (HI1.out.below (Below.refl _ W2).drew)).mono ?_;rintro e w3 ⟨rfl,hb3⟩;have hB3:Below W2.heap.size W2 w3:=(Below.refl _ W2).drew.trans hb3;have HBR3:=Qa (HBR.out.next hB3);have HBX3:=Qa (HBX1.out.next hB3);have HG3:Hid (W.grownBy w3 none):=HG2.out.andThen (Qw hB3) (fun j hj=>by cases hj);clear hb3 hB3))
    go_wp2_with fail;go_ret;exact⟨by rw[HTRUE.out (by trivial)];rfl,HB0.out.trans ((Qe HG3.out).mono HB0.out.size)⟩
   all_goals
    go_region_held3 (fun w'=>w'.cell? ⟨RB,0,none⟩=some (.string FN)∧w'.cell? ⟨RB,1,none⟩=some (.int .i64 LL)∧w'.cell? ⟨RB,2,none⟩=some (.int .u32 (P:Nat))∧w'.cell? ⟨RB,3,none⟩=some (.slice pv0 idl cv0)∧w'.cell? ⟨w.heap.size,0,none⟩=some (.int .u32 (xp:Nat))∧w'.cell? ⟨w.heap.size,1,none⟩=some (.int .i64 xl)) (first|exact HCE.out _ HBR3.out HBX3.out|go_keep) (first
     | (go_at_call 96;refine(HREP.out _ (HI1.out.below (Below.refl _ W2).drew)).mono ?_;rintro e w3 ⟨rfl,hb3⟩;have hB3:Below W2.heap.size W2 w3:=(Below.refl _ W2).drew.trans hb3;have HBR3:=Qa (HBR.out.next hB3);have HBX3:=Qa (HBX1.out.next hB3);have HG3:Hid (W.grownBy w3 none):=HG2.out.andThen (Qw hB3) (fun j hj=>by cases hj);have hrg3:=hrg2.kept (Qw hB3) (by simp) (by simp);clear hb3 hB3))
    have HNE:Hid ((rp,rl)≠(xp,xl)):=fun e=>by obtain⟨e1,e2⟩:=Prod.mk.inj e;subst e1 e2;simp at *
    go_wp2_with fail;go_roundw
    case rel=>exact⟨_,cnt1,hrg3,HNEW.out HNE.out,HG3.out⟩
    case measure=>rw[hrg3.left_eq,hrg.left_eq];exact hlt
theorem Qf.Of.drop {P:Program}{k:TypeId}{κ β:Type}{M:Qf P k κ β}[DecidableEq κ]{w:World}{b:Nat}{l:List (κ×β)}{t e:TypeId}(h:M.Of w b l)(ht:P.underlying t=some (.map k e)){x:κ}(hx:M.wf x) :
 ∃w',(∀ty,(Builtin.delete_ #[t,k] ty #[.map (some b),M.mkK x]).run P w=.ok (.tuple #[]) w')∧M.Of w' b (l.filter (fun h => !decide (h.1=x)))∧w.grownBy w' (some b):=by obtain⟨ds,ho,hp⟩:=h.own;obtain⟨w',hrun,ho',hturn⟩:=ho.drop M.K ht (M.key_kl hx) 0;refine⟨w',fun ty=>hrun,⟨⟨_,G6 ho',?_⟩,fun z hz=>h.wf z (List.mem_filter.1 hz).1⟩,hturn.grown⟩;rw[←Gf hx l h.wf];exact hp.filter _
theorem Qnp {st:NSt}{nm:List UInt8}(h:nFile st.files nm=none):Z5 st nm=(5,st):=by unfold Z5;rw[h]
theorem Qn9 {st:NSt}{nm s:List UInt8}(h:nFile st.files nm=some s)(ha:(st.files.filter (fun f => !decide (f.1=nm))).any (fun f=>decide (Qg f.2=Qg s))=false):Z5 st nm=(0,⟨st.files.filter (fun f => !decide (f.1=nm)),st.bins.filter (fun b => !decide (b.1=Qg s))⟩):=by
 unfold Z5;rw[h];simp only;rw[if_neg (by rw[ha];simp)]
theorem Qmn {st:NSt}{nm s:List UInt8}{l:List Hd}(h:nFile st.files nm=some s)(hap:st.bins.Pairwise (fun f g=>f.1≠g.1))(hm:(Qg s,l)∈st.bins)(ha:(st.files.filter (fun f => !decide (f.1=nm))).any (fun f=>decide (Qg f.2=Qg s))=true):Z5 st nm=(0,⟨st.files.filter (fun f => !decide (f.1=nm)),qm st.bins (Qg s) (Zl l (idsOf s))⟩):=by
 unfold Z5;rw[h];simp only;rw[if_pos ha];have e:st.bins.map (fun b=>if b.1=Qg s then (b.1,Zl b.2 (idsOf s)) else b)=qm st.bins (Qg s) (Zl l (idsOf s)):=List.map_congr_left fun b hb=>by
  by_cases e:b.1=Qg s
  ·obtain⟨b1,b2⟩:=b;simp only at e;subst e;have h1:=Zz hap hb;rw[Zz hap hm]at h1;rw[Option.some.inj h1]
  ·simp only[if_neg e]
 rw[e]
def Qdw (a:Nat→Addr)(w:World)(p:Addr)(F:Nat→Prop)(r:Int×NSt)(e:Ending)(w':World):Prop:=
 ∃ev F',e=.returned ev∧Qp w.heap.size w' a ev (r.1,-1)∧Q9 w' p F' r.2∧(∀k,F' k→F k∨w.heap.size≤k)∧Off F w w'
theorem Qdh (a:Nat→Addr)(nm:ByteArray)(p:Addr)(F:Nat→Prop)(st:NSt)(w:World)(hnm:nm.size≤50000)(hok:∀b∈st.bins,Qd 1000000 b.2)(hfl:∀f∈st.files,f.2.length≤4000)(hhas:∀f∈st.files,∃l,(Qg f.2,l)∈st.bins)(hE:Je [4,10] w a)(hG:∀i,([4,10]:List Nat).contains i=true→¬F (Xn i))(hP:Q9 w p F st) :
 Calls Tryz.prog 32 #[.pointer (some p),.string nm] w (Qdw a w p F (Z5 st nm.data.toList)):=by
 have HP:=Qa hP;have HEO:Hid (∀W,Off F w W→Je [4,10] W a):=fun W ho=>hE.off ho hG;have HOK:=Qa hok;have HLEN:Hid (∀f∈st.files,(idsOf f.2).length≤4000):=fun f hf=>by have h1:=Qy f.2;have h2:=hfl f hf;unfold idsOf;rw[List.length_map];omega
 obtain⟨N,mf,mb,vi,pi,Fi,rfl,h,hFe⟩:=hP;have HH:=Qa h;have HFE:=Qa hFe;have q0:=h.blk.cell (i:=0) rfl;have hnw:Qfr nm.data.toList:=by show nm.data.toList.length≤maxLen;rw[Array.length_toList];show nm.size≤maxLen;unfold maxLen;omega
 have hnmE:(⟨nm.data.toList.toArray⟩:ByteArray)=nm:=by simp
 obtain⟨RES,hRES⟩:∃RES,Z5 st nm.data.toList=RES:=⟨_,rfl⟩;have HRES:=Qa hRES;rw[hRES];clear hRES hok hfl hE hG hFe;cases hf:nFile st.files nm.data.toList with
 | none=>
  have HR:Hid (RES=(5,st)):=HRES.out.symm.trans (Qnp hf);have l0:(Instr.lookup 118 (.map (some mf)) (.string nm) true).run Tryz.prog w=.ok (.tuple #[.agg #[.string ⟨#[]⟩,.int .i64 0,.int .u32 0,.slice none 0 0],.bool false]) w:=by have:=h.files.look_none Tryz.underlying118 (Y5 _) hnw (fun y hy=>by obtain⟨f,hfm,rfl⟩:=List.mem_map.1 hy;exact Ju hf f hfm);change(Instr.lookup _ _ (.string ⟨nm.data.toList.toArray⟩) true).run _ _=_ at this;rw[hnmE]at this;exact this
  have hal:=(Below.refl _ w).alloc wz (.cells #[.string ⟨#[]⟩,.int .i64 0,.int .u32 0,.slice none 0 0] 40);have HB:=Qa hal;have g4:=(HEO.out _ (Off.of_below hal)).glob 4 rfl;change World.cell? _ ⟨0,0,none⟩=_ at g4;clear h hf hnmE hal;go_enter Tryz.func32,Tryz.ntmps32;go_wp2_with fail;go_ret;refine⟨_,F,rfl,?_,?_,fun k hk=>.inl hk,Off.of_below HB.out⟩
  ·rw[HR.out];exact .inr (.inl ⟨4,by decide,rfl,rfl⟩)
  ·rw[HR.out];exact HP.out.below HB.out
 | some s=>
  obtain⟨pv0,cv0,hv0,_⟩:=h.ids _ (nFile_some hf);have HMEM:=Qa (nFile_some hf);have HI:=Qa (h.ids _ (nFile_some hf));have HROW:=Qa (h.rows _ (nFile_some hf));have HLS:=Qa (HLEN.out _ (nFile_some hf));have HF:=Qa hf;obtain⟨bl0,hbl0⟩:=hhas _ (nFile_some hf);have hapB:st.bins.Pairwise (fun p q=>p.1≠q.1):=by have:=h.bins.apart;rw[List.pairwise_map]at this;exact this
  have HAPB:=Qa hapB;simp only at hv0 HI HROW HLS hbl0;have l0:(Instr.lookup 118 (.map (some mf)) (.string nm) true).run Tryz.prog w=.ok (.tuple #[.agg #[.string nm,.int .i64 (s.length:Int),.int .u32 ((pmore 2166136261 s:Nat):Int),.slice pv0 (idsOf s).length cv0],.bool true]) w:=by have:=h.files.look_some Tryz.underlying118 (Y5 _) (List.mem_map.2 ⟨_,nFile_some hf,rfl⟩);change(Instr.lookup _ _ (.string ⟨nm.data.toList.toArray⟩) true).run _ _=.ok (.tuple #[rcpV ⟨nm.data.toList.toArray⟩ (s.length:Int) ((pmore 2166136261 s:Nat):Int) (vi nm.data.toList),.bool true]) _ at this;rw[hnmE,hv0]at this;exact this
  rw[hv0]at HI HROW;obtain⟨P,hPP⟩:∃P,pmore 2166136261 s=P:=⟨_,rfl⟩;obtain⟨LL,hLL⟩:∃LL,(s.length:Int)=LL:=⟨_,rfl⟩;obtain⟨idl,hidl⟩:∃idl,(idsOf s).length=idl:=⟨_,rfl⟩;obtain⟨⟨rp,rl⟩,hrep⟩:∃r,Qg s=r:=⟨_,rfl⟩;have HID:=Qa hidl;have HRP:=Qa hrep;have HWR:=Qa (Gi s);have HREP:=Qa (fun W (hv:Q3 W (.slice pv0 idl cv0) (idsOf s))=>Ga nm LL (P:Int) (.slice pv0 idl cv0) (idsOf s) W hv (by have:=HLS.out;unfold maxLen;omega));change Hid (∀W,_→Calls _ _ _ W fun e w'=>e=.returned (idV ((Qg s).1:Nat) (Qg s).2)∧_)at HREP;rw[hrep]at HREP HWR hbl0;simp only at HREP;have HBL0:=Qa hbl0;rw[hPP,hLL,hidl]at l0;rw[hidl]at HI HROW HLS;have hal:=(Below.refl _ w).alloc wz (.cells #[.string nm,.int .i64 LL,.int .u32 (P:Nat),.slice pv0 idl cv0] 40);have hbr:=Blk.new w #[.string nm,.int .i64 LL,.int .u32 (P:Nat),.slice pv0 idl cv0] 40;have h1:=h.below hal;have q1:=h1.blk.cell (i:=0) rfl;obtain⟨w2,hdel,hof2,hg2⟩:=h1.files.drop Tryz.underlying118 hnw;change ∀ty,(Builtin.delete_ _ ty #[.map (some mf),.string ⟨nm.data.toList.toArray⟩]).run _ _=_ at hdel;rw[hnmE]at hdel;have ho2:Off (fun k=>k=mf) (w.alloc (.cells #[.string nm,.int .i64 LL,.int .u32 (P:Nat),.slice pv0 idl cv0] 40)) w2:=Q7 hg2 rfl;have HN2:=Qa (h1.unfile ho2 hof2);have hmfl:mf<w.heap.size:=h.files.lt;have HBR2:=Qa (ho2.blk hbr (fun e=>by omega));have HI2:=Qa ((HI.out.below hal).off ho2 (fun hne k hk e=>(HROW.out hne k hk).2.2.1 e));have HO2:Hid (Off F w w2):=(Off.of_below hal).trans ho2 (fun k hk e=>by rw[HFE.out,e];exact .inr (.inl rfl));have HSZ2:Hid (w.heap.size<w2.heap.size):=Nat.lt_of_lt_of_le hbr.lt ho2.size;have b0:=HBR2.out.cell (i:=0) rfl;have b1:=HBR2.out.cell (i:=1) rfl;have b2:=HBR2.out.cell (i:=2) rfl;have b3:=HBR2.out.cell (i:=3) rfl;clear h hf hhas hv0 hPP hLL hidl hrep hbl0 hal hbr h1 hof2 hg2 ho2 hnmE;go_enter Tryz.func32,Tryz.ntmps32;go_wp2_with fail;refine(HREP.out w2 HI2.out).mono ?_;rintro e w3 ⟨rfl,hb3⟩;have hal3:=(Below.refl _ w3).alloc wz (.cells #[.int .u32 (rp:Nat),.int .i64 rl] 25);have HBI4:=Qa (Blk.new w3 #[.int .u32 (rp:Nat),.int .i64 rl] 25);have HN4:=Qa ((HN2.out.below hb3).below hal3);have HBR4:=Qa ((HBR2.out.next hb3).next hal3);have HI4:=Qa ((HI2.out.below hb3).below hal3);have HO4:Hid (Off F w _):=Qa ((HO2.out.trans (Off.of_below (F:=fun _=>False) hb3) (fun _ _ h=>h.elim)).trans (Off.of_below (F:=fun _=>False) hal3) (fun _ _ h=>h.elim));have HSZ3:Hid (w.heap.size<w3.heap.size):=Nat.lt_of_lt_of_le HSZ2.out hb3.size;have i0:=HBI4.out.cell (i:=0) rfl;have i1:=HBI4.out.cell (i:=1) rfl;clear b0 b1 b2 b3 hal3 hb3 HN2 HBR2 HI2 HO2 HREP l0 hdel q0 q1;obtain⟨FS,hFS⟩:∃FS,st.files.filter (fun f => !decide (f.1=nm.data.toList))=FS:=⟨_,rfl⟩;have HFS:=Qa hFS;rw[hFS]at HN4;obtain⟨AN,hAN⟩:∃AN,FS.any (fun f=>decide (Qg f.2=(rp,rl)))=AN:=⟨_,rfl⟩;have HAN:=Qa hAN;clear hFS hAN;go_wp2_with fail;generalize w3.alloc (.cells #[.int .u32 (rp:Nat),.int .i64 rl] 25)=W4 at *;generalize w3.heap.size=IB at *;have HHAS:=Qa (Qhe (rp,rl) ⟨N,0,none⟩ (X7 N mf mb vi Fi ⟨FS,st.bins⟩) ⟨FS,st.bins⟩ W4 (fun f hf=>by rw[←HFS.out]at hf;exact HLEN.out f (List.mem_filter.1 hf).1) ⟨N,mf,mb,vi,pi,Fi,rfl,HN4.out,rfl⟩);simp only at HHAS;rw[HAN.out]at HHAS;refine HHAS.out.mono ?_;rintro e w5 ⟨rfl,hb5⟩;have HN5:=Qa (HN4.out.below hb5);have HBR5:=Qa (HBR4.out.next hb5);have HI5:=Qa (HI4.out.below hb5);have HBI5:=Qa (HBI4.out.next hb5);have HO5:Hid (Off F w w5):=HO4.out.trans (Off.of_below (F:=fun _=>False) hb5) (fun _ _ h=>h.elim);clear i0 i1 hb5 HN4 HBR4 HI4 HBI4 HO4 HHAS;have i0:=HBI5.out.cell (i:=0) rfl;have i1:=HBI5.out.cell (i:=1) rfl;have q1:=HN5.out.blk.cell (i:=1) rfl;have b3:=HBR5.out.cell (i:=3) rfl;have HLF:Hid (∀k,X7 N mf mb vi Fi st k→k<w.heap.size):=HH.out.lt;have HSUB:Hid (∀k,X7 N mf mb vi Fi ⟨FS,st.bins⟩ k→F k):=fun k hk=>by rw[HFE.out];rw[←HFS.out]at hk;exact Qjk hk
  cases AN with
  | false=>
   have HR:Hid (RES=(0,⟨FS,st.bins.filter (fun b => !decide (b.1=(rp,rl)))⟩)):=(by show _=_;rw[←HRES.out,Qn9 HF.out (by rw[HFS.out,HRP.out];exact HAN.out),HFS.out,HRP.out]);obtain⟨w6,hdel6,hof6,hg6⟩:=(Qde HN5.out.bins).drop Tryz.underlying119 HWR.out;change ∀ty,(Builtin.delete_ _ ty #[.map (some mb),idV (rp:Nat) rl]).run _ _=_ at hdel6;have ho6:Off (fun k=>k=mb) w5 w6:=Q7 (Xv hg6) rfl;have HN6:=Qa (HN5.out.unbin ho6 hof6);have HO6:Hid (Off F w w6):=HO5.out.trans ho6 (fun k _ e=>by rw[HFE.out,e];exact .inr (.inr (.inl rfl)));clear hof6 hg6 ho6;go_wp2_with fail;go_region
   all_goals
    go_wp2_with fail;go_ret;refine⟨.nilIface,X7 N mf mb vi Fi ⟨FS,st.bins.filter (fun b => !decide (b.1=(rp,rl)))⟩,rfl,?_,?_,fun k hk=>.inl (HSUB.out k (Qkg (st:=⟨FS,st.bins⟩) hk)),HO6.out⟩
    ·rw[HR.out];exact .inl ⟨rfl,rfl⟩
    ·rw[HR.out];exact⟨N,mf,mb,vi,pi,Fi,rfl,HN6.out,rfl⟩
  | true=>
   obtain⟨RR,hRR⟩:∃RR,Zl bl0 (idsOf s)=RR:=⟨_,rfl⟩;have HRR:=Qa hRR;have HR:Hid (RES=(0,⟨FS,qm st.bins (rp,rl) RR⟩)):=(by show _=_;rw[←HRES.out,Qmn HF.out HAPB.out (by rw[HRP.out];exact HBL0.out) (by rw[HFS.out,HRP.out];exact HAN.out),HFS.out,HRP.out,HRR.out]);have HPB:=Qa (HN5.out.bin _ HBL0.out);obtain⟨q,hq⟩:∃q,pi (rp,rl)=q:=⟨_,rfl⟩;have HQ:=Qa hq;simp only at HPB;rw[hq]at HPB;have HAPF:=Qa (HN5.out.apart _ HBL0.out);simp only at HAPF;have HOK0:=Qa (HOK.out _ HBL0.out);have HFR:Hid (∀k,Fi (rp,rl) k→k<w.heap.size∧F k):=fun k hk=>by have h1:X7 N mf mb vi Fi st k:=.inr (.inr (.inr (.inl ⟨_,HBL0.out,hk⟩)));exact⟨HLF.out k h1,by rw[HFE.out];exact h1⟩
   have hidl4:(idl:Int)≤4000:=(by have:=HLS.out;omega);have HPL:Hid ((pieces s).length=idl):=(by show _=_;rw[←HID.out];unfold idsOf;rw[List.length_map]);clear hRR hq HRES HAN;go_wp2_with fail;clear i0 i1 q1 b3
   go_loopw [41] (fun iv wr=>∃(k:Nat) (bl:List Hd) (Fj:Nat→Prop),k≤idl∧iv=.int .i64 k∧Hid (Zl bl ((idsOf s).drop k)=RR)∧Hid (Qd 1000000 bl)∧Hid (Q0 wr q Fj bl)∧Hid (∀j,Fj j→Fi (rp,rl) j∨w5.heap.size≤j)∧Hid (Off (Fi (rp,rl)) w5 wr)) (fun iv _=>idl - (intOf iv).toNat)
   case atStart=>exact⟨0,bl0,Fi (rp,rl),Nat.zero_le _,rfl,by rw[List.drop_zero];exact HRR.out,HOK0.out,HPB.out,fun j hj=>.inl hj,Off.refl _ _⟩
   case round=>
    clear HRR HOK0 HPB;obtain⟨k,bl,Fj,hk,rfl,HRD,HOKB,HPB,HFJ,HO⟩:=hrel;by_cases hlt:k<idl
    ·have hlt':(k:Int)<(idl:Int):=(by omega);have hk0:(0:Int)≤(k:Int):=(by omega);have hIr:=HI5.out.off HO.out (fun hne j hj hf=>(HROW.out hne j hj).2.2.2.2 _ HBL0.out hf);obtain⟨pq,cq,hve,hcell⟩:=hIr;obtain⟨b,o,hpq,hbl,c0,c1⟩:=hcell k (by rw[HID.out];exact hlt);obtain⟨rfl,rfl⟩:pv0=pq∧cv0=cq:=(by have:=hve;simp at this;exact⟨this.1,this.2.2⟩);subst hpq;have hkp:k<(pieces s).length:=(by rw[HPL.out];exact hlt);obtain⟨t,ht⟩:∃t,(pieces s)[k]=t:=⟨_,rfl⟩;have hid:(idsOf s)[k]'(by rw[HID.out];exact hlt)=(pmore 2166136261 t,(t.length:Int)):=(by unfold idsOf;rw[List.getElem_map,ht]);rw[hid]at c0 c1;simp only at c0 c1;have HTL:=Qa (Kv (s:=s) (q:=t) (by rw[←ht];exact List.getElem_mem hkp));have hdr:(idsOf s).drop k=(idsOf s)[k]'(by rw[HID.out];exact hlt)::(idsOf s).drop (k+1):=List.drop_eq_getElem_cons (by rw[HID.out];exact hlt);rw[hdr,hid,Zl]at HRD;obtain⟨xp,hxp⟩:∃xp,pmore 2166136261 t=xp:=⟨_,rfl⟩;obtain⟨xl,hxl⟩:∃xl,(t.length:Int)=xl:=⟨_,rfl⟩;have HXW:Hid (Zv (xp,xl)):=⟨by rw[←hxp];exact Zr _ (by decide) _,by rw[←hxl];simp only;omega,by rw[←hxl];have:=HTL.out;simp only;omega⟩;rw[hxp]at c0 HRD;rw[hxl]at c1 HRD;clear hcell hve hid ht hkp hxp hxl hdr hbl;have hal4:=(Below.refl _ wr).alloc wz (.cells #[.int .u32 (xp:Nat),.int .i64 xl] 25);have HBJ:=Qa (Blk.new wr #[.int .u32 (xp:Nat),.int .i64 xl] 25);have HPB4:=Qa (HPB.out.off (Off.of_below (F:=fun _=>False) hal4) (fun _ _ h=>h));have HO4:Hid (Off (Fi (rp,rl)) w5 _):=Qa (HO.out.trans (Off.of_below (F:=fun _=>False) hal4) (fun _ _ h=>h.elim));have HSZO:=Qa HO.out.size;have HJN0:Hid (¬Fj wr.heap.size):=fun hf=>by have:=HPB.out.lt _ hf;omega
     clear hal4;go_wp2_with fail;generalize wr.alloc (.cells #[.int .u32 (xp:Nat),.int .i64 xl] 25)=W at *;have HJB:Hid (w5.heap.size≤wr.heap.size):=HSZO.out;generalize wr.heap.size=JB at *;have HJN:Hid (¬Fj JB):=HJN0.out;have HIBL:Hid (w.heap.size<IB):=HSZ3.out;have HCE:Hid (∀W',Off (Fi (rp,rl)) w5 W'→Blk W' JB #[.int .u32 (xp:Nat),.int .i64 xl] 25→(W'.cell? ⟨N,1,none⟩=some (.map (some mb))∧W'.cell? ⟨IB,0,none⟩=some (.int .u32 (rp:Nat))∧W'.cell? ⟨IB,1,none⟩=some (.int .i64 rl)∧W'.cell? ⟨JB,0,none⟩=some (.int .u32 (xp:Nat))∧W'.cell? ⟨JB,1,none⟩=some (.int .i64 xl))):=fun W' h1 h2=>by have hN:=h1.blk HN5.out.blk HAPF.out.1;have hI:=h1.blk HBI5.out (fun hf=>by have:=(HFR.out _ hf).1;have:=HIBL.out;omega);exact⟨hN.cell (i:=1) rfl,hI.cell (i:=0) rfl,hI.cell (i:=1) rfl,h2.cell (i:=0) rfl,h2.cell (i:=1) rfl⟩
     have HLK:Hid (∀W',Off (Fi (rp,rl)) w5 W'→(Instr.lookup 119 (.map (some mb)) (idV (rp:Nat) rl) false).run Tryz.prog W'=.ok (.pointer (some q)) W'):=fun W' h1=>by have:=look1 (HN5.out.bins.moved (h1.block mb HN5.out.bins.lt HAPF.out.2.2)) Tryz.underlying119 (Qbc W') (List.mem_map.2 ⟨_,HBL0.out,rfl⟩);change(Instr.lookup 119 (.map (some mb)) (idV (rp:Nat) rl) false).run Tryz.prog W'=.ok (.pointer (some (pi (rp,rl)))) W' at this;rw[HQ.out]at this;exact this
     have hod:Off (Fi (rp,rl)) w5 W.drew:=HO4.out.trans (Off.of_below (F:=fun _=>False) (Below.refl _ W).drew) (fun _ _ h=>h.elim);have HOD:=Qa hod;have l0:=HLK.out W HO4.out;have l1:=HLK.out W.drew hod;obtain⟨z1,z2,z3,z4,z5⟩:=HCE.out W HO4.out HBJ.out;have HEW:Hid (Je [4,10] W.drew a):=HEO.out _ (HO5.out.trans hod (fun j _ hf=>(HFR.out j hf).2));have HDR:=Qa (Qpn (a:=a) (xp,xl) q Fj bl W.drew HXW.out HOKB.out HEW.out (HPB4.out.off (Off.of_below (F:=fun _=>False) (Below.refl _ W).drew) (fun _ _ h=>h)));have HOK2:=Qa (Qc4 HOKB.out (xp,xl));have HSZW:Hid (w5.heap.size≤W.heap.size):=HO4.out.size;clear hod c0 c1
     go_region_held3 (fun W'=>W'.cell? ⟨N,1,none⟩=some (.map (some mb))∧W'.cell? ⟨IB,0,none⟩=some (.int .u32 (rp:Nat))∧W'.cell? ⟨IB,1,none⟩=some (.int .i64 rl)∧W'.cell? ⟨JB,0,none⟩=some (.int .u32 (xp:Nat))∧W'.cell? ⟨JB,1,none⟩=some (.int .i64 xl)) (first|exact HCE.out _ HO6.out HBJ6.out|go_keep) (first
      | (go_at_call 102;refine HDR.out.mono ?_;rintro e w6 ⟨ev6,F6,rfl,_,hp6,hf6,ho6⟩;have HP6:=Qa hp6;have HO6:Hid (Off (Fi (rp,rl)) w5 w6):=HOD.out.trans ho6 (fun j hj hf=>(HFJ.out j hf).resolve_right (by omega));have HBJ6:Hid (Blk w6 JB #[.int .u32 (xp:Nat),.int .i64 xl] 25):=ho6.blk (Blk.next (W:=W) HBJ.out (Below.refl _ W).drew) (fun hf=>HJN.out hf);have HF6:Hid (∀j,F6 j→Fi (rp,rl) j∨w5.heap.size≤j):=fun j hj=>(hf6 j hj).elim (HFJ.out j) (fun h=>.inr (Nat.le_trans HSZW.out h));clear hp6 hf6 ho6))
     go_wp2_with fail;go_roundw
     case rel=>exact⟨k+1,_,F6,hlt,by go_num,HRD.out,HOK2.out,HP6.out,HF6.out,HO6.out⟩
     case measure=>simp[intOf];omega
    ·have hge:(idl:Int)≤(k:Int):=(by omega);rw[List.drop_eq_nil_of_le (by rw[HID.out];omega),Zl]at HRD;go_wp2_with fail;go_ret;have hn:=HN5.out.bin1 HBL0.out HO.out (by rw[HQ.out];exact HPB.out) HFJ.out;rw[HRD.out]at hn;have hsz5:=HO5.out.size;refine⟨.nilIface,X7 N mf mb vi (fun x=>if x=(rp,rl) then Fj else Fi x) ⟨FS,qm st.bins (rp,rl) RR⟩,rfl,?_,?_,fun j hj => ?_,HO5.out.trans HO.out (fun j _ hf=>(HFR.out j hf).2)⟩
     ·rw[HR.out];exact .inl ⟨rfl,rfl⟩
     ·rw[HR.out];exact⟨N,mf,mb,vi,pi,_,rfl,hn,rfl⟩
     ·rcases nFoot_bin1 (st:=⟨FS,st.bins⟩) HBL0.out HFJ.out hj with h|h
      ·exact .inl (HSUB.out j h)
      ·exact .inr (by omega)
def Xl (l:List Qr)(left:Nat×Int→Bool):List Qr:=l.map (fun b=>if left b.1=true then b else (b.1,(Q8 b.2).2))
def Xa (l:List Qr)(left:Nat×Int→Bool):Int:=((l.filter (fun b => !left b.1)).map fun b=>(Q8 b.2).1).sum
theorem Qlb (left:Nat×Int→Bool)(b:Qr):(if left b.1=true then b else (b.1,(Q8 b.2).2)).1=b.1:=by split<;>rfl
theorem Qi7 {l:List Qr}(hap:l.Pairwise (fun p q=>p.1≠q.1)){left:Nat×Int→Bool}{x:Nat×Int}{bl:List Hd}(hm:(x,bl)∈l)(hl:left x=true):qm (Xl l left) x (Q8 bl).2=Xl l (fun y=>left y && !decide (y=x)):=by
 unfold qm Xl;rw[List.map_map];refine List.map_congr_left fun b hb => ?_;simp only[Function.comp,Qlb];by_cases e:b.1=x
 ·have eb:b=(x,bl):=by obtain⟨b1,b2⟩:=b;simp only at e;subst e;have h1:=Zz hap hb;have h2:=Zz hap hm;rw[h1]at h2;rw[Option.some.inj h2]
  subst eb;simp
 ·rw[if_neg e];simp[e]
theorem Qse {a b:List Int}(h:a.Perm b):a.sum=b.sum:=by
 induction h with
 | nil=>rfl
 | cons x _ ih=>rw[List.sum_cons,List.sum_cons,ih]
 | swap x y l=>rw[List.sum_cons,List.sum_cons,List.sum_cons,List.sum_cons];omega
 | trans _ _ h1 h2=>rw[h1,h2]
theorem Qjj {l:List Qr}(hap:l.Pairwise (fun p q=>p.1≠q.1)){left:Nat×Int→Bool}{x:Nat×Int}{bl:List Hd}(hm:(x,bl)∈l)(hl:left x=true):Xa l (fun y=>left y && !decide (y=x))=(Q8 bl).1+Xa l left:=by
 unfold Xa;have:=Qse ((Yo hap (p:=left) hm hl).map fun b:Qr=>(Q8 b.2).1);rw[List.map_cons,List.sum_cons]at this;exact this
theorem Qg9 (l:List Qr)(left:Nat×Int→Bool)(h:∀b∈l,Qd 1000000 b.2)(hn:l.length≤1000):0≤Xa l left∧Xa l left≤16000000:=by
 have hall:∀m:List Qr,(∀b∈m,Qd 1000000 b.2)→0≤(m.map fun b=>(Q8 b.2).1).sum∧(m.map fun b=>(Q8 b.2).1).sum≤m.length*16000:=by
  intro m
  induction m with
  | nil=>intro _;simp
  | cons b r ih=>
   intro hm;have h1:=ih (fun c hc=>hm c (List.mem_cons_of_mem _ hc));have h2:=Z0 (hm b (List.mem_cons_self ..)) unused;have e:(Q8 b.2).1=Qx (b.2.filter unused):=rfl;rw[List.map_cons,List.sum_cons,List.length_cons,e];omega
 have h1:=hall (l.filter (fun b => !left b.1)) (fun b hb=>h b (List.mem_filter.1 hb).1);have h2:=List.length_filter_le (fun b:Qr => !left b.1) l;unfold Xa;omega
theorem Qu5 {P:Program}{k:TypeId}{κ β:Type}{M:Qf P k κ β}{w w':World}{b r:Nat}{l:List (κ×β)}{left:κ→Bool}{cnt:Nat}{F:Nat→Prop}(h:M.Rng w b r l left cnt)(ho:Off F w w')(hb:¬F b)(hr:¬F r):M.Rng w' b r l left cnt:=by
 have hbl:=h.of.lt;have hrl:=h.lt;obtain⟨ds,n,lf,⟨es,clock,since,seen,c0,e1,h2,h3,h4,e5,rest⟩,hp,hl⟩:=h.at';exact⟨⟨ds,n,lf,⟨es,clock,since,seen,c0,(ho.block b hbl hb).trans e1,h2,h3,h4,(ho.block r hrl hr).trans e5,rest⟩,hp,hl⟩,h.wf⟩
def Qg7 (w:World)(p:Addr)(F:Nat→Prop)(r:Int×NSt)(e:Ending)(w':World):Prop:=
 ∃F',e=.returned (.int .i64 r.1)∧Q9 w' p F' r.2∧(∀k,F' k→F k∨w.heap.size≤k)∧Off F w w'
theorem Qhj (p:Addr)(F:Nat→Prop)(st:NSt)(w:World)(hok:∀b∈st.bins,Qd 1000000 b.2)(hn:st.bins.length≤1000)(hP:Q9 w p F st) :
 Calls Tryz.prog 33 #[.pointer (some p)] w (Qg7 w p F (Xo st)):=by
 obtain⟨N,mf,mb,vi,pi,Fi,rfl,h,hFe⟩:=hP;have q1:=h.blk.cell (i:=1) rfl;have hM:=h.bins;have hap:st.bins.Pairwise (fun p q=>p.1≠q.1):=by have:=hM.apart;rw[List.pairwise_map]at this;exact this
 have hbl:=hM.lt;have HH:=Qa h;have HOK:Hid (∀b∈st.bins,Qd 1000000 b.2):=hok;have HNB:Hid (∀left,0≤Xa st.bins left∧Xa st.bins left≤16000000):=fun left=>Qg9 st.bins left hok hn;have HFE:=Qa hFe;obtain⟨L,hL⟩:∃L,(st.bins.map fun b=>(b.1,some (pi b.1)))=L:=⟨_,rfl⟩;have HL:Hid ((st.bins.map fun b=>(b.1,some (pi b.1)))=L):=hL;rw[hL]at hM;clear hok h hL hFe;go_enter Tryz.func33,Tryz.ntmps33;go_wp2_with (first|(at_range;refine wp_range_kit idBins _ rfl _ 119 rfl 47 Tryz.underlying119 mb L rfl hM ?_;intro w0 hr0 hg0 hs0)|go_in);go_frame
 go_loopw [3] (fun n wr=>∃(left:Nat×Int→Bool) (cnt:Nat) (Fj:Nat×Int→Nat→Prop),n=.int .i64 (Xa st.bins left)∧idBins.Rng wr mb w.heap.size L left cnt∧Hid (NAt wr N mf mb vi pi Fj ⟨st.files,Xl st.bins left⟩)∧Hid (∀k,X7 N mf mb vi Fj ⟨st.files,Xl st.bins left⟩ k→F k∨w.heap.size<k)∧Hid (Off F w wr)) (fun _ wr=>wr.rangeLeft mb w.heap.size)
 case atStart=>
  have H:∀left:Nat×Int→Bool,(∀b∈st.bins,left b.1=true)→Xl st.bins left=st.bins∧Xa st.bins left=0:=fun left hl=>by
   refine⟨?_,?_⟩
   ·unfold Xl;rw[List.map_congr_left (g:=id) (fun b hb=>by rw[if_pos (hl b hb)];rfl),List.map_id]
   ·unfold Xa;rw[List.filter_eq_nil_iff.2 (fun b hb=>by simp[hl b hb])];rfl
  obtain⟨left0,hl0,hr⟩:∃left0:Nat×Int→Bool,(∀b∈st.bins,left0 b.1=true)∧idBins.Rng w0 mb w.heap.size L left0 L.length:=by refine⟨_,?_,hr0⟩;intro b hb;simp only[decide_eq_true_eq];exact List.mem_map.2 ⟨(b.1,some (pi b.1)),by rw[←HL.out];exact List.mem_map.2 ⟨b,hb,rfl⟩,rfl⟩
  obtain⟨h1,h2⟩:=H left0 hl0;refine⟨left0,_,Fi,by rw[h2],hr,?_,?_,Off.of_below (Qe hg0)⟩
  ·show NAt _ _ _ _ _ _ _ _;rw[h1];exact HH.out.below (Qe hg0)
  ·show ∀k,_;rw[h1];exact fun k hk=>.inl (by rw[HFE.out];exact hk)
 case round=>
  obtain⟨left,cnt,Fj,rfl,hrg,HN,HFT,HO⟩:=hrel;obtain⟨n1,n2⟩:=HNB.out left;obtain⟨Z,hZ⟩:∃Z,Xa st.bins left=Z:=⟨_,rfl⟩;have HZ:Hid (Xa st.bins left=Z):=hZ;rw[hZ]at n1 n2 ⊢;clear hZ;go_wp2_with (first|(at_next;refine wp_next_kit idBins _ rfl _ rfl mb w.heap.size L left cnt rfl hrg ?_ ?_)|go_in)
  ·intro h0;have HL0:Hid (∀b∈st.bins,left b.1=false):=fun b hb=>h0 b.1.1 b.1.2 (some (pi b.1)) (by rw[←HL.out];exact List.mem_map.2 ⟨b,hb,rfl⟩);clear h0;go_wp2_with fail;go_ret;have e1:(⟨st.files,Xl st.bins left⟩:NSt)=(Xo st).2:=by unfold Xl Xo;simp only[NSt.mk.injEq,true_and];exact List.map_congr_left fun b hb=>by rw[if_neg (by rw[HL0.out b hb];simp)]
   have e2:Z=(Xo st).1:=(by rw[←HZ.out];unfold Xa Xo;rw[List.filter_eq_self.2 (fun b hb=>by rw[HL0.out b hb];rfl)]);refine⟨_,by rw[e2];rfl,⟨N,mf,mb,vi,pi,Fj,rfl,by rw[←e1];exact HN.out,rfl⟩,fun k hk => ?_,HO.out⟩;rw[←e1]at hk;rcases HFT.out k hk with h|h
   ·exact .inl h
   ·exact .inr (Nat.le_of_lt h)
  ·intro xp xl c w1 cnt1 hm hlx hrg1 hlt hg1 hs1 hen;rw[←HL.out]at hm;obtain⟨⟨y,bl⟩,hyb,hye⟩:=List.mem_map.1 hm;obtain⟨hy,rfl⟩:y=(xp,xl)∧some (pi y)=c:=(by simpa using hye);subst hy;change(Instr.entry (.pointer (some ⟨w.heap.size,0,none⟩))).run Tryz.prog w1=.ok (.tuple #[idV (xp:Nat) xl,.pointer (some (pi (xp,xl)))]) w1 at hen;have HF1:=Qa (Qi7 hap (left:=left) hyb hlx);have HS:Hid (Xa st.bins (fun y=>left y && !decide (y=(xp,xl)))=(Q8 bl).1+Z):=by show _=_;rw[Qjj hap hyb hlx,HZ.out]
   obtain⟨m1,m2⟩:=HNB.out (fun y=>left y && !decide (y=(xp,xl)));rw[HS.out]at m1 m2;have hw:IntKind.i64.wrap (Z+(Q8 bl).1)=Z+(Q8 bl).1:=(by rw[IntKind.wrap_i64];omega);have HLT:=Qa HH.out.lt;have hrn:¬X7 N mf mb vi Fj ⟨st.files,Xl st.bins left⟩ w.heap.size:=fun hk=>by
    rcases HFT.out _ hk with h|h
    ·rw[HFE.out]at h;have:=HLT.out _ h;omega
    ·omega
   have ho1:Off (fun k=>k=w.heap.size) wr w1:=Q7 hg1 rfl;have HN1:=Qa (HN.out.off ho1 (fun k hk e=>hrn (e▸hk)));have HO1:Hid (Off F w w1):=HO.out.trans ho1 (fun k hk e=>by omega);have hmem:((xp,xl),bl)∈Xl st.bins left:=List.mem_map.2 ⟨_,hyb,by simp[hlx]⟩;have HMEM:=Qa hmem;have HC:=Qa (Qm6 (pi (xp,xl)) (Fj (xp,xl)) bl w1 (HOK.out _ hyb) (HN1.out.bin _ hmem));have HPI:Hid (∃q,q=pi (xp,xl)):=⟨_,rfl⟩;obtain⟨q,hq⟩:∃q,pi (xp,xl)=q:=⟨_,rfl⟩;have HQ:=Qa hq;rw[hq]at HC hen;obtain⟨hb,hhb⟩:∃hb,(Q8 bl).1=hb:=⟨_,rfl⟩;have HHB:=Qa hhb;rw[hhb]at HC hw m1 m2 HS;have hrf:¬Fj (xp,xl) w.heap.size:=fun hk=>hrn (.inr (.inr (.inr (.inl ⟨_,hmem,hk⟩))));have hmf:¬Fj (xp,xl) mb:=(HN1.out.apart _ hmem).2.2;have HRF:=Qa hrf;have HMF:=Qa hmf;clear hM hr0 hg0 hm hye hq hhb hmem hrn ho1 hrf hmf HPI;go_wp2_with fail;refine HC.out.mono ?_;rintro e w2 ⟨F2,rfl,hP2,hF2,ho2⟩;have hrg2:idBins.Rng w2 mb w.heap.size L (fun y=>left y && !decide (y=(xp,xl))) cnt1:=Qu5 hrg1 ho2 HMF.out HRF.out;have hn2:=HN1.out.bin1 HMEM.out ho2 (by rw[HQ.out];exact hP2) hF2;rw[HF1.out]at hn2;have HN2:=Qa hn2;have hw1s:w.heap.size<w1.heap.size:=hrg1.lt;have HFT2:Hid (∀k,X7 N mf mb vi (fun x=>if x=(xp,xl) then F2 else Fj x) ⟨st.files,Xl st.bins (fun y=>left y && !decide (y=(xp,xl)))⟩ k→F k∨w.heap.size<k):=fun k hk=>by
    have hk':X7 N mf mb vi (fun x=>if x=(xp,xl) then F2 else Fj x) ⟨st.files,qm (Xl st.bins left) (xp,xl) (Q8 bl).2⟩ k:=(by rw[HF1.out];exact hk)
    rcases nFoot_bin1 (st:=⟨st.files,Xl st.bins left⟩) HMEM.out hF2 hk' with h|h
    ·exact HFT.out k h
    ·exact .inr (by omega)
   have HO2:Hid (Off F w w2):=HO1.out.trans ho2 (fun k hk hf=>by
    rcases HFT.out k (.inr (.inr (.inr (.inl ⟨_,HMEM.out,hf⟩))))with h|h
    ·exact h
    ·omega)
   clear hn2 hP2 hF2 ho2 HC;go_wp2_with fail;go_roundw
   case rel=>exact⟨_,cnt1,_,by rw[HS.out,Int.add_comm],hrg2,HN2.out,HFT2.out,HO2.out⟩
   case measure=>rw[hrg2.left_eq,hrg.left_eq];exact hlt
abbrev Qth:ByteArray:=⟨#[104,101,108,108,111]⟩
theorem ok1:NOk 4000 1 st1:=by
 have:=NOk.empty.put (by decide) [97] Q6;rw[Quq]at this;exact this
abbrev Qkr:=ByteArray×ByteArray×ByteArray
def Qa5 (w:World)(v:Value)(l:List Qkr):Prop:=
 ∃(p:Option Addr) (c:Nat),v=.slice p l.length c∧∀i (h:i<l.length),∃b o,p=some ⟨b,o,none⟩∧b<w.heap.size∧w.cell? ⟨b,o+i*3,none⟩=some (.string l[i].1)∧w.cell? ⟨b,o+i*3+1,none⟩=some (.string l[i].2.1)∧w.cell? ⟨b,o+i*3+2,none⟩=some (.string l[i].2.2)
theorem Qa5.below {w w':World}{v:Value}{l:List Qkr}(h:Qa5 w v l)(hb:Below w.heap.size w w'):Qa5 w' v l:=by
 obtain⟨p,c,rfl,h⟩:=h;refine⟨p,c,rfl,fun i hi => ?_⟩;obtain⟨b,o,hp,hlt,h0,h1,h2⟩:=h i hi;exact⟨b,o,hp,Nat.lt_of_lt_of_le hlt hb.size,(hb.cell (p:=⟨b,o+i*3,none⟩) hlt).trans h0,(hb.cell (p:=⟨b,o+i*3+1,none⟩) hlt).trans h1,(hb.cell (p:=⟨b,o+i*3+2,none⟩) hlt).trans h2⟩
def fits (y:Qkr):Prop:=y.2.1.size≤30∧y.2.2.size≤4001
def Qpy (w:World)(l:List Qkr)(m:Nat)(e:Ending)(w':World):Prop:=∃n:Int,e=.returned (.int .i64 n)∧w'=w∧(n=0∨n=1)∧(n=0→l.length≤m∧∀i (h:i<l.length),fits l[i])
theorem Qhg (v:Value)(l:List Qkr)(m:Nat)(w:World)(hm:m≤1000)(hv:Qa5 w v l) :
 Calls Tryz.prog 12 #[v,.int .i64 (m:Int)] w (Qpy w l m):=by
 obtain⟨p,c,rfl,hcell⟩:=hv;by_cases hl:l.length≤m
 ·have hl':¬(m:Int)<(l.length:Int):=by omega
  go_enter Tryz.func12,Tryz.ntmps12;go_wp2_with fail
  go_loopw [5] (fun i wr=>∃j:Nat,j≤l.length∧i=.int .i64 j∧wr=w∧Hid (∀k (hk:k<l.length),k<j→fits l[k])) (fun i _=>l.length - (intOf i).toNat)
  case atStart=>exact⟨0,Nat.zero_le _,rfl,rfl,fun k _ h=>by omega⟩
  case round=>
   obtain⟨j,hj,rfl,hww,HA⟩:=hrel;subst hww;by_cases hlt:j<l.length
   ·have hlt':(j:Int)<(l.length:Int):=(by omega);have hj0:(0:Int)≤(j:Int):=(by omega);obtain⟨b,o,rfl,_,c0,c1,c2⟩:=hcell j hlt;have HNX:Hid (fits l[j]→∀k (hk:k<l.length),k<j+1→fits l[k]):=fun h k hk hkj=>by
     rcases Nat.lt_or_ge k j with h'|h'
     ·exact HA.out k hk h'
     ·obtain rfl:k=j:=(by omega);exact h
    obtain⟨⟨y1,y2,y3⟩,hy⟩:∃y,l[j]=y:=⟨_,rfl⟩;rw[hy]at c0 c1 c2 HNX;simp only at c0 c1 c2;clear hy hcell;by_cases h1:(20:Int)<(y1.size:Int)
    ·go_wp2_with fail;go_ret;exact⟨1,rfl,rfl,.inr rfl,fun h=>by cases h⟩
    ·by_cases h2:(30:Int)<(y2.size:Int)
     ·go_wp2_with fail;go_ret;exact⟨1,rfl,rfl,.inr rfl,fun h=>by cases h⟩
     ·by_cases h3:(600:Int)<(y3.size:Int)
      ·by_cases h4:(y3.size:Int)=4001
       ·have HN:=Qa (HNX.out ⟨by simp only;omega,by simp only;omega⟩);go_wp2_with fail;go_roundw
        case rel=>exact⟨j+1,hlt,by go_num,by first|rfl|trivial,HN.out⟩
        case measure=>simp[intOf];omega
       ·go_wp2_with fail;go_ret;exact⟨1,rfl,rfl,.inr rfl,fun h=>by cases h⟩
      ·have HN:=Qa (HNX.out ⟨by simp only;omega,by simp only;omega⟩);go_wp2_with fail;go_roundw
       case rel=>exact⟨j+1,hlt,by go_num,by first|rfl|trivial,HN.out⟩
       case measure=>simp[intOf];omega
   ·have hge:(l.length:Int)≤(j:Int):=(by omega);go_wp2_with fail;go_ret;exact⟨0,rfl,rfl,.inl rfl,fun _=>⟨hl,fun i hi=>HA.out i hi (by omega)⟩⟩
 ·have hl':(m:Int)<(l.length:Int):=by omega
  go_enter Tryz.func12,Tryz.ntmps12;go_wp2_with fail;go_ret;exact⟨1,rfl,rfl,.inr rfl,fun h=>by cases h⟩
open Go.RowKit
theorem Qp.off {base:Nat}{w w':World}{a:Nat→Addr}{v:Value}{f:Int×Int}{G:Nat→Prop}(h:Qp base w a v f)(ho:Off G w w')(hG:∀k,base≤k→¬G k):Qp base w' a v f:=by
 rcases h with h|h|⟨k,pb,po,at0,hk,hl,hv,h0,h1,hf⟩
 ·exact .inl h
 ·exact .inr (.inl h)
 ·have e:∀j,w'.cell? ⟨pb,j,none⟩=w.cell? ⟨pb,j,none⟩:=fun j=>World.cell?_of_block (w:=w) (ho.block pb (lt_of_cell h0) (hG pb hl));exact .inr (.inr ⟨k,pb,po,at0,hk,hl,hv,(e _).trans h0,(e _).trans h1,hf⟩)
theorem Qj1 (a:Nat→Addr)(nm:ByteArray)(p:Addr)(F:Nat→Prop)(st:NSt)(w:World)(hnm:nm.size≤50000)(hf:nFile st.files nm.data.toList=none)(hE:Je [4] w a)(hP:Q9 w p F st) :
 Calls Tryz.prog 40 #[.pointer (some p),.string nm] w fun e w'=>e=.returned (.tuple #[.string ⟨#[]⟩,sentV a 4])∧Below w.heap.size w w':=by
 obtain⟨N,mf,mb,vi,pi,Fi,rfl,h,_⟩:=hP;have q0:=h.blk.cell (i:=0) rfl;have hnw:Qfr nm.data.toList:=by show nm.data.toList.length≤maxLen;rw[Array.length_toList];show nm.size≤maxLen;unfold maxLen;omega
 have hnmE:(⟨nm.data.toList.toArray⟩:ByteArray)=nm:=by simp
 have l0:(Instr.lookup 118 (.map (some mf)) (.string nm) true).run Tryz.prog w=.ok (.tuple #[.agg #[.string ⟨#[]⟩,.int .i64 0,.int .u32 0,.slice none 0 0],.bool false]) w:=by have:=h.files.look_none Tryz.underlying118 (Y5 _) hnw (fun y hy=>by obtain⟨f,hfm,rfl⟩:=List.mem_map.1 hy;exact Ju hf f hfm);change(Instr.lookup _ _ (.string ⟨nm.data.toList.toArray⟩) true).run _ _=_ at this;rw[hnmE]at this;exact this
 have hal:=(Below.refl _ w).alloc wz (.cells #[.string ⟨#[]⟩,.int .i64 0,.int .u32 0,.slice none 0 0] 40);have g4:=(hE.below hal wz).glob 4 rfl;change World.cell? _ ⟨0,0,none⟩=_ at g4;have HB:=Qa hal;clear h hf hnmE hE hal;go_enter Tryz.func40,Tryz.ntmps40;go_wp2_with fail;obtain⟨W1,hW1⟩:∃W1,w.alloc (.cells #[.string ⟨#[]⟩,.int .i64 0,.int .u32 0,.slice none 0 0] 40)=W1:=⟨_,rfl⟩;rw[hW1]at g4 HB ⊢;clear hW1;go_quiet (fail);go_wp2_with fail;go_ret2;exact⟨rfl,HB.out.trans ((Qe (grown_drewN W1 nq)).mono HB.out.size)⟩
structure Qvq (a:Nat→Addr)(w0:World):Prop where
 err:∀W,Below w0.heap.size w0 W→J6 W a
 glob:∀i,([4,10]:List Nat).contains i=true→Xn i<w0.heap.size
def Qw5 (w0:World)(p:Addr)(M k:Nat)(e:Ending)(w':World):Prop:=
 e=.returned (.int .i64 1)∧∃F st G sm,TwoN w0 w' p F st M G sm∧G7 (k+1) st sm
structure Vm (D:Nat→Prop)(wd w0 w:World)(p:Addr)(F:Nat→Prop)(st:NSt)(M:Nat)(G:Nat→Prop)(sm:NSt):Prop extends TwoN w0 w p F st M G sm where
 grown:wd.heap.size≤w.heap.size
 kept:∀k,D k→k<w.heap.size∧w.heap[k]? = wd.heap[k]? ∧ ¬F k∧¬G k
theorem Vm.next {D:Nat→Prop}{wd w0 w w':World}{p:Addr}{F:Nat→Prop}{st:NSt}{M:Nat}{G:Nat→Prop}{sm:NSt}(h:Vm D wd w0 w p F st M G sm)(hb:Below w.heap.size w w'):Vm D wd w0 w' p F st M G sm:=
 ⟨h.toTwoN.next hb,Nat.le_trans h.grown hb.size,fun k hk=>by obtain⟨h1,h2,h3,h4⟩:=h.kept k hk;exact⟨Nat.lt_of_lt_of_le h1 hb.size,(hb.block k h1).trans h2,h3,h4⟩⟩
theorem Vm.prog {D:Nat→Prop}{wd w0 w w':World}{p:Addr}{F F':Nat→Prop}{st st':NSt}{M:Nat}{G:Nat→Prop}{sm:NSt}(h:Vm D wd w0 w p F st M G sm)(hp:Q9 w' p F' st')(hF:∀k,F' k→F k∨w.heap.size≤k)(ho:Off F w w'):Vm D wd w0 w' p F' st' M G sm:=
 ⟨h.toTwoN.prog hp hF ho,Nat.le_trans h.grown ho.size,fun k hk=>by obtain⟨h1,h2,h3,h4⟩:=h.kept k hk;exact⟨Nat.lt_of_lt_of_le h1 ho.size,(ho.block k h1 h3).trans h2,fun hf=>(hF k hf).elim h3 (fun h5=>by omega),h4⟩⟩
theorem Vm.model {D:Nat→Prop}{wd w0 w w':World}{p:Addr}{F:Nat→Prop}{st:NSt}{M:Nat}{G G':Nat→Prop}{sm sm':NSt}(h:Vm D wd w0 w p F st M G sm)(hp:Ya w' ⟨M,0,none⟩ G' sm')(hG:∀k,G' k→G k∨w.heap.size≤k)(ho:Off G w w'):Vm D wd w0 w' p F st M G' sm':=
 ⟨h.toTwoN.model hp hG ho,Nat.le_trans h.grown ho.size,fun k hk=>by obtain⟨h1,h2,h3,h4⟩:=h.kept k hk;exact⟨Nat.lt_of_lt_of_le h1 ho.size,(ho.block k h1 h4).trans h2,h3,fun hg=>(hG k hg).elim h4 (fun h5=>by omega)⟩⟩
theorem Vm.other {D:Nat→Prop}{wd w0 w:World}{p q:Addr}{F:Nat→Prop}{st:NSt}{M:Nat}{G:Nat→Prop}{sm so:NSt}(h:Vm D wd w0 w p F st M G sm)(hb:Below w0.heap.size w0 wd)(hq:Q9 wd q D so):Q9 w q D so:=
 hq.off (G:=fun k=>¬D k) ⟨h.below.os.trans hb.os.symm,h.below.tape.trans hb.tape.symm,h.below.output.trans hb.output.symm,h.grown,fun _ _ hn=>(h.kept _ (Classical.not_not.1 hn)).2.1⟩ (fun _ hk hn=>hn hk)
def Qu6 (D:Nat→Prop)(wd w0:World)(p:Addr)(M k:Nat)(e:Ending)(w':World):Prop:=
 e=.returned (.int .i64 1)∧∃F st G sm,Vm D wd w0 w' p F st M G sm∧G7 (k+1) st sm
theorem Quw (D:Nat→Prop)(wd:World)(a:Nat→Addr)(w0 w:World)(p:Addr)(F:Nat→Prop)(st:NSt)(M:Nat)(G:Nat→Prop)(sm:NSt)(k:Nat)(y1 y2 y3:ByteArray)(hk:k≤60)(hy2:y2.size≤30)(hy3:y3.size≤4001)(hT:Vm D wd w0 w p F st M G sm)(hI:G7 k st sm)(hE:Qvq a w0) :
 Calls Tryz.prog 14 #[.pointer (some p),.pointer (some ⟨M,0,none⟩),.agg #[.string y1,.string y2,.string y3]] w (Qu6 D wd w0 p M k):=by
 have HEE:=Qa hE.err;have HGL:=Qa hE.glob;have HI:=Qa hI;have HKB:Hid (4000*(k:Int)+5000≤1000000):=by show _≤_;omega
 have HKH:Hid (k+1≤100):=by show _≤_;omega
 have HSM:Hid (∀k st sm,G7 k st sm→k≤100→(∀b∈st.bins,Qd 1000000 b.2)∧(∀b∈sm.bins,Qd 1000000 b.2)∧st.bins.length≤1000∧sm.bins.length≤1000∧sm.files.length≤1000∧Z7 sm.bins=Z7 st.bins):=fun k st sm h hk=>by have h1:=h.ok.many;have h2:=h.rel.bins.length_eq;have h3:=h.rel.files.length_eq;have h4:=h.full.fmany;exact⟨fun b hb=>(h.ok.bins b hb).mono (by omega),fun b hb=>(h.ok.bins b (h.rel.bins.mem_iff.1 hb)).mono (by omega),by omega,by omega,by omega,Qe9 h.rel.bins⟩
 have hal:=(Below.refl _ w).alloc wz (.cells #[.string y1,.string y2,.string y3] 37);have HBA:=Qa (Blk.new w #[.string y1,.string y2,.string y3] 37);have HT1:=Qa (hT.next hal);have HFW:Hid (∀j,F j→j<w.heap.size):=hT.node.lt;have HGW:Hid (∀j,G j→j<w.heap.size):=hT.doc.lt;clear hT hI hE hal;go_enter Tryz.func14,Tryz.ntmps14;have a0:=HBA.out.cell (i:=0) rfl;have a1:=HBA.out.cell (i:=1) rfl;have a2:=HBA.out.cell (i:=2) rfl;by_cases hput:y1=⟨#[112,117,116]⟩
 ·subst hput;have HPUT:=Qa (fun W (hb:Below w0.heap.size w0 W) (hP:Q9 W p F st)=>Qen a y2 y3 p F (4000*(k:Int)) st W (by omega) (by omega) ⟨by omega,by have:=HKB.out;omega⟩ HI.out.ok.bins (by have:=HI.out.ok.many;omega) ((HEE.out _ hb).on (by decide)) hP);have HMP:=Qa (fun W F' st' (h:Vm D wd w0 W p F' st' M G sm)=>Qwj h.doc y2 y3 (U:=4000*(k:Int)) (by omega) (by omega) ⟨by omega,by have:=HKB.out;omega⟩ (HI.out.rel.ok HI.out.ok).bins (HSM.out k st sm HI.out (by have:=HKH.out;omega)).2.2.2.1 (HSM.out k st sm HI.out (by have:=HKH.out;omega)).2.2.2.2.1);have HIB:=Qa (HI.out.put y2.data.toList y3.data.toList);obtain⟨e1,e2,_⟩:=HI.out.rel.put y2.data.toList y3.data.toList;obtain⟨⟨mr,me,smB⟩,hmr⟩:∃r,Qdr sm y2.data.toList y3.data.toList=r:=⟨_,rfl⟩;obtain⟨⟨fr,ec,stB⟩,hr⟩:∃r,Jt st y2.data.toList y3.data.toList=r:=⟨_,rfl⟩;unfold Kz at HPUT;unfold Yy at HMP;rw[hr]at HPUT HIB e1 e2;rw[hmr]at HMP HIB e1 e2;simp only at HPUT HMP HIB e1 e2;subst e1 e2;clear hr hmr;have hff:(mr==mr)=true:=by simp
  go_wp2_with fail;obtain⟨W1,hW1⟩:∃W1,w.alloc (.cells #[.string ⟨#[112,117,116]⟩,.string y2,.string y3] 37)=W1:=⟨_,rfl⟩;rw[hW1]at HBA HT1 ⊢;have HRW1:Hid (w.heap.size≤W1.heap.size):=by show _≤_;rw[←hW1];simp
  obtain⟨RB,hRB⟩:∃RB,w.heap.size=RB:=⟨_,rfl⟩;rw[hRB]at HBA HFW HGW HRW1 ⊢;clear hW1 hRB;refine(HPUT.out W1 HT1.out.below HT1.out.node).mono ?_;rintro e w4 ⟨ev4,F4,rfl,he4,hP4,hF4,ho4⟩;have HT4:=Qa (HT1.out.prog hP4 hF4 ho4);have HBA4:=Qa (ho4.blk HBA.out (fun hf=>by have:=HFW.out _ hf;omega));have HE4:=Qa he4.at;have HEI:=Qa he4;have HSZ14:Hid (W1.heap.size≤w4.heap.size):=ho4.size;clear hP4 hF4 ho4 he4 a0 a1 a2 HPUT;have b1:=HBA4.out.cell (i:=1) rfl;have b2:=HBA4.out.cell (i:=2) rfl;go_wp2_with fail;refine(HMP.out w4 F4 stB HT4.out).mono ?_;rintro e w5 ⟨rfl,G5,hM5,hG5,ho5⟩;have HT5:=Qa (HT4.out.model hM5 hG5 ho5);have HE5:=Qa (HEI.out.off ho5 (fun j hj hg=>by have:=HGW.out j hg;have:=HRW1.out;omega)).at;clear hM5 hG5 ho5 b1 b2 HMP HE4 HEI;have HCD:=Qa (Gg a ev4 _ w5 (HEE.out _ HT5.out.below) HE5.out);go_wp2_with fail;refine HCD.out.mono ?_;rintro e w6 ⟨rfl,hb6⟩;have HT6:=Qa (HT5.out.next hb6);obtain⟨s1,s2,s3,s4,s5,s6⟩:=HSM.out _ _ _ HIB.out HKH.out;have HS1:=Qa (Vh p F4 stB w6 s1 s3 HT6.out.node);have HS2:Hid (∀W,Vm D wd w0 W p F4 stB M G5 smB→Calls Tryz.prog 72 #[.pointer (some ⟨M,0,none⟩)] W fun e w'=>e=.returned (.int .i64 (Z7 stB.bins))∧w'=W):=fun W h=>by have:=Qjf h.doc s2 s4;rw[s6]at this;exact this
  obtain⟨Z,hZ⟩:∃Z,Z7 stB.bins=Z:=⟨_,rfl⟩;rw[hZ]at HS1 HS2;have hzz:(Z==Z)=true:=by simp
  clear hb6 HCD s1 s2 s3 s4 s5 s6 hZ HE5;go_wp2_with fail;refine HS1.out.mono ?_;rintro e w7 ⟨rfl,hb7⟩;have HT7:=Qa (HT6.out.next hb7);clear hb7 HS1;go_wp2_with fail;refine(HS2.out w7 HT7.out).mono ?_;rintro e w8 ⟨rfl,hw8⟩;obtain rfl:=hw8.symm;go_wp2_with fail;go_ret;exact⟨rfl,_,_,_,_,HT7.out,HIB.out⟩
 ·by_cases hdrop:y1=⟨#[100,114,111,112]⟩
  ·subst hdrop;have n1:((⟨#[100,114,111,112]⟩:ByteArray).toList==[112,117,116])=false:=Ym hput;clear hput;have HDROP:=Qa (fun W (hb:Below w0.heap.size w0 W) (hP:Q9 W p F st) (hn:∀j,F j→w0.heap.size≤j)=>Qdh a y2 p F st W (by omega) (HSM.out k st sm HI.out (by have:=HKH.out;omega)).1 (fun f hf=>(HI.out.ok.files f hf).1) HI.out.inv.has ((HEE.out _ hb).on (by decide)) (fun i hi hf=>by have h1:=HGL.out i hi;have h2:=hn _ hf;omega) hP);have HMD:=Qa (fun W F' st' (h:Vm D wd w0 W p F' st' M G sm)=>Qv1 h.doc y2 (HI.out.rel.inv HI.out.inv) (HSM.out k st sm HI.out (by have:=HKH.out;omega)).2.1 (fun f hf=>(HI.out.ok.files f (HI.out.rel.files.mem_iff.1 hf)).1) (HSM.out k st sm HI.out (by have:=HKH.out;omega)).2.2.2.1 (HSM.out k st sm HI.out (by have:=HKH.out;omega)).2.2.2.2.1);have HIB:=Qa (HI.out.drop y2.data.toList);have e1:=(HI.out.rel.drop y2.data.toList).1;obtain⟨⟨md,smB⟩,hmr⟩:∃r,Z5 sm y2.data.toList=r:=⟨_,rfl⟩;obtain⟨⟨dc,stB⟩,hr⟩:∃r,Z5 st y2.data.toList=r:=⟨_,rfl⟩;unfold Qdw at HDROP;unfold Uf at HMD;rw[hr]at HDROP HIB e1;rw[hmr]at HMD HIB e1;simp only at HDROP HMD HIB e1;subst e1;clear hr hmr;go_wp2_with fail;obtain⟨W1,hW1⟩:∃W1,w.alloc (.cells #[.string ⟨#[100,114,111,112]⟩,.string y2,.string y3] 37)=W1:=⟨_,rfl⟩;rw[hW1]at HBA HT1 ⊢;have HRW1:Hid (w.heap.size≤W1.heap.size):=(by show _≤_;rw[←hW1];simp);obtain⟨RB,hRB⟩:∃RB,w.heap.size=RB:=⟨_,rfl⟩;rw[hRB]at HBA HFW HGW HRW1 ⊢;clear hW1 hRB;have HTD:=Qa (HT1.out.next (Below.refl _ W1).drew);have HBD:=Qa (HBA.out.next (Below.refl _ W1).drew)
   go_region_held3 (fun w'=>w'.cell? ⟨RB,1,none⟩=some (.string y2)) (first|exact HBA6.out.cell (i:=1) rfl|exact HBA5.out.cell (i:=1) rfl|exact HBA4.out.cell (i:=1) rfl|exact HBA.out.cell (i:=1) rfl|go_keep) (first
    | (go_at_call 32;refine(HDROP.out _ HTD.out.below HTD.out.node HTD.out.fnew).mono ?_;rintro e w4 ⟨ev4,F4,rfl,he4,hP4,hF4,ho4⟩;have HT4:=Qa (HTD.out.prog hP4 hF4 ho4);have HBA4:=Qa (ho4.blk HBD.out (fun hf=>by have:=HFW.out _ hf;omega));have HEI:=Qa he4;clear hP4 hF4 ho4 he4)
    | (go_at_call 69;refine(HMD.out _ F4 stB HT4.out).mono ?_;rintro e w5 ⟨rfl,G5,hM5,hG5,ho5⟩;have HT5:=Qa (HT4.out.model hM5 hG5 ho5);have HE5:=Qa (HEI.out.off ho5 (fun j hj hg=>by have h1:=HGW.out j hg;have h2:=HRW1.out;have h3:W1.heap.size≤j:=hj;omega)).at;have HBA5:=Qa (ho5.blk HBA4.out (fun hf=>by have:=HGW.out _ hf;omega));clear hM5 hG5 ho5)
    | (go_at_call 29;refine(Gg a ev4 _ w5 (HEE.out _ HT5.out.below) HE5.out).mono ?_;rintro e w6 ⟨rfl,hb6⟩;have HT6:=Qa (HT5.out.next hb6);have HBA6:=Qa (HBA5.out.next hb6);clear hb6))
   obtain⟨s1,s2,s3,s4,s5,s6⟩:=HSM.out _ _ _ HIB.out HKH.out;have HS1:=Qa (Vh p F4 stB w6 s1 s3 HT6.out.node);have HS2:Hid (∀W,Vm D wd w0 W p F4 stB M G5 smB→Calls Tryz.prog 72 #[.pointer (some ⟨M,0,none⟩)] W fun e w'=>e=.returned (.int .i64 (Z7 stB.bins))∧w'=W):=fun W h=>by have:=Qjf h.doc s2 s4;rw[s6]at this;exact this
   obtain⟨Z,hZ⟩:∃Z,Z7 stB.bins=Z:=⟨_,rfl⟩;rw[hZ]at HS1 HS2;have hzz:(Z==Z)=true:=(by simp);clear s1 s2 s3 s4 s5 s6 hZ;go_wp2_with fail;refine HS1.out.mono ?_;rintro e w7 ⟨rfl,hb7⟩;have HT7:=Qa (HT6.out.next hb7);clear hb7 HS1;go_wp2_with fail;refine(HS2.out w7 HT7.out).mono ?_;rintro e w8 ⟨rfl,hw8⟩;obtain rfl:=hw8.symm;go_wp2_with fail;go_ret;exact⟨rfl,_,_,_,_,HT7.out,HIB.out⟩
  ·by_cases hsweep:y1=⟨#[115,119,101,101,112]⟩
   ·subst hsweep;have n1:((⟨#[115,119,101,101,112]⟩:ByteArray).toList==[112,117,116])=false:=Ym hput;have n2:((⟨#[115,119,101,101,112]⟩:ByteArray).toList==[100,114,111,112])=false:=Ym hdrop;clear hput hdrop;have HSW:=Qa (fun W (hP:Q9 W p F st)=>Qhj p F st W (HSM.out k st sm HI.out (by have:=HKH.out;omega)).1 (HSM.out k st sm HI.out (by have:=HKH.out;omega)).2.2.1 hP);have HMD:=Qa (fun W F' st' (h:Vm D wd w0 W p F' st' M G sm)=>Qus h.doc (HSM.out k st sm HI.out (by have:=HKH.out;omega)).2.1 (HSM.out k st sm HI.out (by have:=HKH.out;omega)).2.2.2.1);have HIB:=Qa HI.out.sweep;have e1:=HI.out.rel.sweep.1;obtain⟨⟨md,smB⟩,hmr⟩:∃r,Xo sm=r:=⟨_,rfl⟩;obtain⟨⟨gone,stB⟩,hr⟩:∃r,Xo st=r:=⟨_,rfl⟩;unfold Qg7 at HSW;unfold Uf at HMD;rw[hr]at HSW HIB e1;rw[hmr]at HMD HIB e1;simp only at HSW HMD HIB e1;subst e1;have hmm:(md==md)=true:=(by simp);clear hr hmr;go_wp2_with fail;obtain⟨W1,hW1⟩:∃W1,w.alloc (.cells #[.string ⟨#[115,119,101,101,112]⟩,.string y2,.string y3] 37)=W1:=⟨_,rfl⟩;rw[hW1]at HBA HT1 ⊢;have HRW1:Hid (w.heap.size≤W1.heap.size):=(by show _≤_;rw[←hW1];simp);obtain⟨RB,hRB⟩:∃RB,w.heap.size=RB:=⟨_,rfl⟩;rw[hRB]at HBA HFW HGW HRW1 ⊢;clear hW1 hRB;refine(HSW.out W1 HT1.out.node).mono ?_;rintro e w4 ⟨F4,rfl,hP4,hF4,ho4⟩;have HT4:=Qa (HT1.out.prog hP4 hF4 ho4);clear hP4 hF4 ho4 a0 a1 a2 HSW;go_wp2_with fail;refine(HMD.out w4 F4 stB HT4.out).mono ?_;rintro e w6 ⟨rfl,G5,hM5,hG5,ho5⟩;have HT6:=Qa (HT4.out.model hM5 hG5 ho5);clear hM5 hG5 ho5 HMD;obtain⟨s1,s2,s3,s4,s5,s6⟩:=HSM.out _ _ _ HIB.out HKH.out;have HS1:=Qa (Vh p F4 stB w6 s1 s3 HT6.out.node);have HS2:Hid (∀W,Vm D wd w0 W p F4 stB M G5 smB→Calls Tryz.prog 72 #[.pointer (some ⟨M,0,none⟩)] W fun e w'=>e=.returned (.int .i64 (Z7 stB.bins))∧w'=W):=fun W h=>by have:=Qjf h.doc s2 s4;rw[s6]at this;exact this
    obtain⟨Z,hZ⟩:∃Z,Z7 stB.bins=Z:=⟨_,rfl⟩;rw[hZ]at HS1 HS2;have hzz:(Z==Z)=true:=(by simp);clear s1 s2 s3 s4 s5 s6 hZ;go_wp2_with fail;refine HS1.out.mono ?_;rintro e w7 ⟨rfl,hb7⟩;have HT7:=Qa (HT6.out.next hb7);clear hb7 HS1;go_wp2_with fail;refine(HS2.out w7 HT7.out).mono ?_;rintro e w8 ⟨rfl,hw8⟩;obtain rfl:=hw8.symm;go_wp2_with fail;go_ret;exact⟨rfl,_,_,_,_,HT7.out,HIB.out⟩
   ·have n1:(y1.toList==[112,117,116])=false:=Ym hput;have n2:(y1.toList==[100,114,111,112])=false:=Ym hdrop;have n3:(y1.toList==[115,119,101,101,112])=false:=Ym hsweep;clear hput hdrop hsweep;have HIB:=Qa HI.out.more;have HG:Hid (∃(S:ByteArray) (ev:Value) (c:Int),(∀W,Below w0.heap.size w0 W→Q9 W p F st→Calls Tryz.prog 40 #[.pointer (some p),.string y2] W fun e w'=>e=.returned (.tuple #[.string S,ev])∧Below W.heap.size W w')∧(∀W,Vm D wd w0 W p F st M G sm→Calls Tryz.prog 71 #[.pointer (some ⟨M,0,none⟩),.string y2] W fun e w'=>e=.returned (.tuple #[.string S,.int .i64 c])∧Below W.heap.size W w')∧∀W,Qbn W a ev (c,-1)):=by
     have hmg:=Qs8 HI.out.rel y2.data.toList;have hM:∀W,Vm D wd w0 W p F st M G sm→Calls Tryz.prog 71 #[.pointer (some ⟨M,0,none⟩),.string y2] W fun e w'=>e=.returned (.tuple #[.string ⟨(Qbd st y2.data.toList).1.toArray⟩,.int .i64 (Qbd st y2.data.toList).2])∧Below W.heap.size W w':=fun W h=>by have:=Qwr h.doc y2 (HI.out.rel.inv HI.out.inv) (HI.out.rel.ok HI.out.ok) (HSM.out k st sm HI.out (by have:=HKH.out;omega)).2.2.2.1 (HSM.out k st sm HI.out (by have:=HKH.out;omega)).2.2.2.2.1;rw[hmg]at this;exact this
     cases hf:nFile st.files y2.data.toList with
     | none=>
      have hg:Qbd st y2.data.toList=([],5):=(by unfold Qbd;rw[hf]);rw[hg]at hM;exact⟨⟨#[]⟩,sentV a 4,5,fun W hb hP=>Qj1 a y2 p F st W (by omega) hf ((HEE.out _ hb).on (by decide)) hP,hM,fun W=>.inr (.inl ⟨4,by decide,rfl,rfl⟩)⟩
     | some s=>
      have hg:Qbd st y2.data.toList=(s,0):=(by unfold Qbd;rw[hf]);rw[hg]at hM;obtain⟨g1,bl,g2,g3⟩:=HI.out.inv.got HI.out.ok (nFile_some hf);obtain⟨g4,g5⟩:=HI.out.ok.files _ (nFile_some hf);exact⟨⟨s.toArray⟩,.nilIface,0,fun W hb hP=>Vg a y2 p F st W s bl (by omega) g1 g2 g3 g5 g4 ((HEE.out _ hb).on (by decide)) hP,hM,fun W=>.inl ⟨rfl,rfl⟩⟩
    obtain⟨S,ev,c,hP,hM,hE⟩:=HG.out;have HPG:=Qa hP;have HMG:=Qa hM;have HEV:=Qa hE;have hss:(S.toList==S.toList)=true:=(by simp);clear hP hM hE HG;go_wp2_with fail;obtain⟨W1,hW1⟩:∃W1,w.alloc (.cells #[.string y1,.string y2,.string y3] 37)=W1:=⟨_,rfl⟩;rw[hW1]at HBA HT1 ⊢;have HRW1:Hid (w.heap.size≤W1.heap.size):=(by show _≤_;rw[←hW1];simp);obtain⟨RB,hRB⟩:∃RB,w.heap.size=RB:=⟨_,rfl⟩;rw[hRB]at HBA HFW HGW HRW1 ⊢;clear hW1 hRB;refine(HPG.out W1 HT1.out.below HT1.out.node).mono ?_;rintro e w4 ⟨rfl,hb4⟩;have HT4:=Qa (HT1.out.next hb4);have HBA4:=Qa (HBA.out.next hb4);clear hb4 a0 a1 a2 HPG;have b1:=HBA4.out.cell (i:=1) rfl;go_wp2_with fail;refine(HMG.out w4 HT4.out).mono ?_;rintro e w5 ⟨rfl,hb5⟩;have HT5:=Qa (HT4.out.next hb5);clear hb5 b1 HMG;have HCD:=Qa (Gg a ev _ w5 (HEE.out _ HT5.out.below) (HEV.out w5));go_wp2_with fail;refine HCD.out.mono ?_;rintro e w6 ⟨rfl,hb6⟩;have HT6:=Qa (HT5.out.next hb6);clear hb6 HCD;obtain⟨s1,s2,s3,s4,s5,s6⟩:=HSM.out _ _ _ HIB.out HKH.out;have HS1:=Qa (Vh p F st w6 s1 s3 HT6.out.node);have HS2:Hid (∀W,Vm D wd w0 W p F st M G sm→Calls Tryz.prog 72 #[.pointer (some ⟨M,0,none⟩)] W fun e w'=>e=.returned (.int .i64 (Z7 st.bins))∧w'=W):=fun W h=>by have:=Qjf h.doc s2 s4;rw[s6]at this;exact this
    obtain⟨Z,hZ⟩:∃Z,Z7 st.bins=Z:=⟨_,rfl⟩;rw[hZ]at HS1 HS2;have hzz:(Z==Z)=true:=(by simp);clear s1 s2 s3 s4 s5 s6 hZ;go_wp2_with fail;refine HS1.out.mono ?_;rintro e w7 ⟨rfl,hb7⟩;have HT7:=Qa (HT6.out.next hb7);clear hb7 HS1;go_wp2_with fail;refine(HS2.out w7 HT7.out).mono ?_;rintro e w8 ⟨rfl,hw8⟩;obtain rfl:=hw8.symm;go_wp2_with fail;go_ret;exact⟨rfl,_,_,_,_,HT7.out,HIB.out⟩
end Go.Proofs.YtjngnnbondejaabGreatDoor
