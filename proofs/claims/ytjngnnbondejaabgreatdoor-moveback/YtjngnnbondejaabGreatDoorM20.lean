/- A part. -/
import Derived.Test.YtjngnnbondejaabGreatDoorCards
import Derived.Test.YtjngnnbondejaabGreatDoorTie
import Derived.Test.YtjngnnbondejaabGreatDoorM19
import Derived.LaidMore
import Derived.Deep.DeepWitnessRowRef
import Derived.Lay
set_option maxRecDepth 100000
namespace Go.Proofs.YtjngnnbondejaabGreatDoor.mbCard
open Go.ChangeShapes Go.WideShapes Go.ChangeAt Go.RowKit
open Go.ChangeMaps (open_string shut_string)
open Go.Joins
open Go.Deep (open_slice choose_lt add_add trod_struct3)
theorem own:ownKnob Tryz.prog.godebug=none:=by kernel_rfl
theorem Qtp:Tryz.prog.cellsOf 37=3:=by kernel_rfl
theorem Qtu:Tryz.prog.cellsOf 9=1:=by kernel_rfl
theorem Qtw:(Tryz.prog.globals[ 13 ]?).map (·.type)=some 406:=by kernel_rfl
theorem Qsr:Tryz.prog.cellsOf 406=20:=by kernel_rfl
theorem Qve:Tryz.prog.cellsOf 317=1:=by kernel_rfl
theorem table {W:World}(h:laidMetH Tryz.prog Rows.moveBackRow.laid W):Y9 W:=
 Lib.tabIs_of_head (P:=Tryz.prog) (rest:=[]) Qtm Qtw Tryz.underlying406 Tryz.underlying317 Qve Qsr
  (show laidMetH Tryz.prog [("internal/strconv.uint64pow10",Rows.laid_internal_strconv_uint64pow10)] W from laidMetH.filter (fun x=>x.1 == "internal/strconv.uint64pow10") h)
theorem Qn0 {W:World}(h:W.ShapedOpen Tryz.prog):∃m,W.cell? ⟨14,0,none⟩=some (.int .i64 m):=
 cell_of_shapedOpen_int (P:=Tryz.prog) (t:=3) (zero := #[.int .i64 0]) h (of_decide_eq_true (by kernel_rfl)) (by kernel_rfl) rfl (by kernel_rfl) (by kernel_rfl) Tryz.underlying3
theorem errs {W:World}(h:laidMetH Tryz.prog Rows.moveBackRow.laid W):∃a,J6 W a:=
 Qjo (show laidMetH Tryz.prog Qov W from laidMetH.filter (fun x=>x.1 == "errors.errorType"||Qaj.any (fun y=>y.1==x.1)) h)
theorem Qrb {H:Type}{enc:TypeId×Value→H}{W:World}{a0:Option Addr}{len cap:Nat}{d:DataW H}{ps:List MemPlace}(h:DataW.Trod enc Tryz.prog W 0 (fun _=>true) true 22 (.slice a0 len cap) d ps) :
 ∃l:List Qkr,Qa5 W (.slice a0 len cap) l:=by
 obtain⟨fuel,hf⟩:=h;rcases open_slice Tryz.underlying22 hf with⟨hcs,_⟩|⟨a,len',cap',m,n,D,Pl,hcs,_,hl,hm,hmm,_,hel⟩
 ·simp[Value.cells]at hcs;obtain⟨rfl,rfl,rfl⟩:=hcs;exact⟨[],none,0,rfl,fun i hi=>by simp at hi⟩
 ·simp[Value.cells]at hcs;obtain⟨rfl,rfl,rfl⟩:=hcs;have hlm:len≤m:=by rw[hmm];simpa using hl
  rw[Qtp]at hel;have each:∀i,i<len→∃q:Qkr,W.cell? (a.add (i*3))=some (.string q.1)∧W.cell? (a.add (i*3+1))=some (.string q.2.1)∧W.cell? (a.add (i*3+2))=some (.string q.2.2):=by
   intro i hi;obtain⟨cs',h1,h2⟩:=hel i (by omega);obtain⟨_,hlen,hcell⟩:=World.cells?_some h1;obtain⟨y0,y1,y2,k,_,_,g0,g1,g2⟩:=trod_struct3 Tryz.underlying37 h2
   match cs',hlen with
   | [v0,v1,v2],_=>
    simp[Qtu]at g0 g1 g2;obtain⟨s0,e0,_,_⟩:=DataW.trod_string Tryz.underlying9 g0;obtain⟨s1,e1,_,_⟩:=DataW.trod_string Tryz.underlying9 g1;obtain⟨s2,e2,_,_⟩:=DataW.trod_string Tryz.underlying9 g2;simp at e0 e1 e2;subst e0 e1 e2;have c0:=hcell 0 (by omega);have c1:=hcell 1 (by omega);have c2:=hcell 2 (by omega);rw[add_add]at c0 c1 c2;exact⟨(s0,s1,s2),by simpa using c0,by simpa using c1,by simpa using c2⟩
  obtain⟨f,hf'⟩:=choose_lt each;refine⟨(List.range len).map f,some a,cap,by simp,fun i hi => ?_⟩;have hi':i<len:=by simpa using hi
  obtain⟨b,off,spot⟩:=a;have hspot:spot=none:=by simpa[Addr.add]using World.cell?_spot (hf' 0 (by omega)).1
  subst hspot;obtain⟨c0,c1,c2⟩:=hf' i hi';have ha:∀j,(⟨b,off,none⟩:Addr).add j=⟨b,off+j,none⟩:=fun j=>by unfold Addr.add;split<;>simp_all
  rw[ha]at c0 c1 c2;rw[←Nat.add_assoc]at c1 c2;simp only[List.getElem_map,List.getElem_range];exact⟨b,off,rfl,lt_of_cell c0,c0,c1,c2⟩
theorem contract (H:Type)(enc:TypeId×Value→H)(W:World)(base:Nat)(args:Array Value)(ds gs:List (DataW H))(before:List MemPlace)
 (hval:∀(j:Nat) t v,Tryz.f6.params[j]? = some t→args[j]? = some v→Value.okWide Tryz.prog W .any base t v)
 (hW:DataW.Whole enc Tryz.prog Tryz.f6.params.toList Rows.moveBackSpec.vars false W args.toList ds gs before)(hL:laidMetH Tryz.prog Rows.moveBackRow.laid W)(hS:W.ShapedOpen Tryz.prog) :
 Calls Tryz.prog 6 args W fun e W'=>∃v,e=.returned v∧Rows.moveBackSpec.post enc Tryz.prog Tryz.f6 false true false false W args v W':=by
 have hW':=hW;obtain⟨p,q,hA0,hV,rfl,hfz,hnd⟩:=hW;have hA:DataW.TrodAll enc Tryz.prog W 0 (fun _=>true) true Tryz.f6.params.toList args.toList ds p:=hA0;rw[Tryz.params6]at hA hval;obtain⟨v0,vs0,d0,ds0,p0,q0,hargs,rfl,rfl,h0,r0⟩:=trodAll_cons hA;obtain⟨v1,vs1,d1,ds1,p1,q1,rfl,rfl,rfl,h1,r1⟩:=trodAll_cons r0;obtain⟨v2,vs2,d2,ds2,p2,q2,rfl,rfl,rfl,h2,r2⟩:=trodAll_cons r1;obtain⟨v3,vs3,d3,ds3,p3,q3,rfl,rfl,rfl,h3,r3⟩:=trodAll_cons r2;obtain⟨rfl,rfl,rfl⟩:=trodAll_nil r3;obtain rfl:args = #[v0,v1,v2,v3]:=Array.toList_inj.1 hargs;obtain⟨rfl,rfl⟩:=trodVars_none hV;obtain⟨a0,len,cap,rfl⟩:=okWide_slice Tryz.underlying22 (hval 0 22 v0 rfl rfl);obtain⟨at0,rfl,rfl,rfl,wat⟩:=open_int Tryz.underlying3 (hval 1 3 v1 rfl rfl) h1;obtain⟨spot,rfl,rfl,rfl,wsp⟩:=open_int Tryz.underlying3 (hval 2 3 v2 rfl rfl) h2;obtain⟨x,rfl,rfl,rfl,wx⟩:=open_int Tryz.underlying5 (hval 3 5 v3 rfl rfl) h3;clear hA0;simp only[List.append_nil]at hW';have hlt:∀x∈p0,x.block<W.heap.size:=fun x hx=>by simpa using hW'.lt x hx
 obtain⟨l,hl⟩:=Qrb h0;obtain⟨aE,hE⟩:=errs hL;obtain⟨m,hm⟩:=Qn0 hS;have hxb:=bounds_u8 wx;obtain⟨x',rfl⟩:=Int.eq_ofNat_of_zero_le hxb.1;have hx':((UInt8.ofNat x').toNat:Int)=(x':Int):=by have:(UInt8.ofNat x').toNat=x' % 256:=UInt8.toNat_ofNat';omega
 have hwalk:=Qkb aE m _ l at0 spot (UInt8.ofNat x') W ⟨hE,table hL,hm⟩ hl;rw[hx']at hwalk;refine hwalk.mono fun e W' ⟨he,hg⟩ => ?_;subst he;refine⟨_,rfl,_,_,_,[],p0,[],hW',?_,?_,?_,hg.frame _,fun h=>by cases h⟩
 ·exact trodAll_cons_mk (shut_bool Tryz.underlying4 _) trodAll_mk0
 ·have h2:=trodAll_cons_mk (Below.trod Tryz.laidOut (by kernel_rfl) (of_decide_eq_true (by kernel_rfl)) h0 hg hlt) (trodAll_cons_mk (shut_int Tryz.underlying3 wat) (trodAll_cons_mk (shut_int Tryz.underlying3 wsp) (trodAll_cons_mk (shut_int Tryz.underlying5 wx) trodAll_mk0)));simp only[List.append_nil]at h2;exact h2
 ·rfl
def Jz:List (String×DataW Unit):=Rows.moveBackRow.laid.filter fun x=>x.2.handleName?.isNone
abbrev Qo2:Array Value := #[.slice none 0 0,.int .i64 0,.int .i64 0,.int .u8 0]
theorem laid_met (os:Os):laidMetH Tryz.prog Rows.moveBackRow.laid (((World.doorLaid Tryz.prog 269 os).layVars Tryz.prog Jz).forCall (fun _ _=>0) ⟨#[],Qo2,[]⟩).memory:=by
 have e1:(Jz.filter fun x=>(Jz.map (·.1)).contains x.1)=Jz:=List.filter_eq_self.2 fun x hx=>List.contains_iff_mem.2 (List.mem_map.2 ⟨x,hx,rfl⟩);have e2:(Jz.filter fun x => !(Jz.map (·.1)).contains x.1)=[]:=List.filter_eq_nil_iff.2 fun x hx=>by rw[List.contains_iff_mem.2 (List.mem_map.2 ⟨x,hx,rfl⟩)];simp
 have h:laidMet Tryz.prog Jz ((World.doorLaid Tryz.prog 269 os).layVars Tryz.prog Jz):=laidMet_layVars (w0:=World.doorLaid Tryz.prog 269 os) (Jz.map (·.1)) [] (by rw[e1]) (by rw[e1];kernel_rfl) (by rw[e1];kernel_rfl) (by rw[e2];exact LaidIn.none);exact laidMetH_of_parts3 (fuel:=8) (h.of_heap (by simp[World.memory,World.forCall,Input.heap])) (by kernel_rfl) (by kernel_rfl)
theorem reads (os:Os){H:Type}(enc:TypeId×Value→H):∃places,DataW.whole enc Tryz.prog (((World.doorLaid Tryz.prog 269 os).layVars Tryz.prog Jz).forCall (fun _ _=>0) ⟨#[],Qo2,[]⟩).memory Tryz.f6.params.toList Rows.moveBackSpec.vars false Qo2.toList 8=some ([.nil,.lit (.int .i64 0),.lit (.int .i64 0),.lit (.int .u8 0)],[],places):=
 ⟨[],by kernel_rfl⟩
theorem lifted (os:Os)(started:os.Started)(H:Type)(enc:TypeId×Value→H)(F:Stop.Interp) :
 ReturnsInHanded {} Tryz.checked os 6 .any ((OpenSpec.ofChange Rows.moveBackSpec).preRow enc Tryz.prog Tryz.f6 Rows.moveBackRow.domain false Rows.moveBackRow.laid) (((OpenSpec.ofChange Rows.moveBackSpec).at F).post enc Tryz.prog Tryz.f6 false true false false):=by
 obtain⟨places,hx⟩:=reads os enc;refine returnsInHanded_of_row (C:=Tryz.checked) (s:=OpenSpec.ofChange Rows.moveBackSpec) own started (by kernel_rfl) Tryz.func6
  (witness_row_atRef (enc:=enc) (C:=Tryz.checked) false ((World.doorLaid Tryz.prog 269 os).layVars Tryz.prog Jz) Qo2 (World.layVars_os _ _ _) (by kernel_rfl) (by kernel_rfl) (by kernel_rfl)
   (OpenSpec.preRow_of_cond 8 hx (by kernel_rfl) (fun k hk=>by cases hk) (by kernel_rfl) (laid_met os))) ?_
 intro W base args ds gs before hval hW _ _ _ hL hS _;exact contract H enc W base args ds gs before hval hW hL hS
end Go.Proofs.YtjngnnbondejaabGreatDoor.mbCard
