/- A part. -/
import Derived.Test.YtjngnnbondejaabGreatDoorM06
set_option maxHeartbeats 16000000
set_option maxRecDepth 1000000
namespace Go.Proofs.YtjngnnbondejaabGreatDoor
open Go.Shelf Go.RowKit Go.Lib Go.Sort
variable {P:Program} {ρ:Ren} {α:Type} [Inhabited α] {lt:α→α→Bool} {g:Nat} {lb:Array Value} {sf:Nat} {sb:Array Value} {blk n n0:Nat} {I:World→Array α→Prop}
theorem Qmp (L:LaysGg.n32 P ρ)(S:Srt P lt g lb sf sb blk n n0 I)(a b pivot:Nat)(d:Array α)(w:World)(hI:I w d)(hap:a≤pivot)(hpb:pivot<b)(hb:b≤n)(hsz:n<4611686018427387904) :
 Calls P (ρ.f 32) #[.agg #[.func (.func g) #[] lb,.func (.func sf) #[] sb],.int .i64 a,.int .i64 b,.int .i64 pivot] w fun e w'=>e=.returned (.int .i64 (partitionEqual lt d a b pivot).1)∧I w' (partitionEqual lt d a b pivot).2∧w.grownBy w' (some blk):=by
 have mixed:=L.mixed;have t0:=L.t0;have a0:=L.a0;have z0:=L.z0;have v0:=L.v0;have t3:=L.t3;have a3:=L.a3;have z3:=L.z3;have v3:=L.v3;have t4:=L.t4;have a4:=L.a4;have z4:=L.z4;have v4:=L.v4;have t26:=L.t26;have a26:=L.a26;have z26:=L.z26;have v26:=L.v26;have t37:=L.t37;have a37:=L.a37;have z37:=L.z37;have v37:=L.v37;have t44:=L.t44;have a44:=L.a44;have z44:=L.z44;have v44:=L.v44;have u44:=run_underlying L.t44;have eg:=S.eg;have hblk:=S.blt hI;have A0:Q5 I blk (w.alloc (.cells #[.func (.func g) #[] lb,.func (.func sf) #[] sb] (ρ.t 44))) (w.alloc (.cells #[.func (.func g) #[] lb,.func (.func sf) #[] sb] (ρ.t 44))) d:=.start (S.keep hI (World.grownBy_alloc w _ none));obtain⟨_,c1⟩:=A0.box hblk;obtain⟨w1,hs0,hI1,hg1⟩:=S.swap (a:Int) (pivot:Int) a pivot rfl rfl A0.inv (by omega) (by omega);have A1:=A0.turn hI1 hg1;go_enter L.f32,BodyGg.n32_ntmps ρ
 go_wp2
 clear hs0 c1 A0
 go_loopw [9,10] (fun vi vj wr=>∃(i j:Nat) (dk:Array α),vi=.int .i64 i∧vj=.int .i64 j∧a<i∧i≤j+1∧j<b∧Q5 I blk (w.alloc (.cells #[.func (.func g) #[] lb,.func (.func sf) #[] sb] (ρ.t 44))) wr dk∧Hid (partEqLoop lt a i j dk=partEqLoop lt a (a+1) (b - 1) (swp d a pivot))) (fun vi vj _=>(intOf vj).toNat+1 - (intOf vi).toNat)
 case atStart=>exact⟨a+1,b - 1,swp d a pivot,by go_num,by go_num,by omega,by omega,by omega,A1,rfl⟩
 case round=>
  clear A1 hI1 hg1;obtain⟨i,j,dk,rfl,rfl,hai,hij,hjb,hA0,AE⟩:=hrel
  go_wp2
  go_loopw [9] (fun vi w1=>∃(i':Nat),vi=.int .i64 i'∧i≤i'∧i'≤j+1∧Q5 I blk (w.alloc (.cells #[.func (.func g) #[] lb,.func (.func sf) #[] sb] (ρ.t 44))) w1 dk∧Hid (scanUp (fun x => !lt dk[a]! x) dk j i'=scanUp (fun x => !lt dk[a]! x) dk j i)) (fun vi _=>j+1 - (intOf vi).toNat)
  case atStart=>exact⟨i,rfl,wz,hij,hA0,rfl⟩
  case round=>
   clear hA0;obtain⟨i',rfl,hii,hij',hA,hsc⟩:=hrel;obtain⟨c0,_⟩:=hA.box hblk;by_cases hle:i'≤j
   ·have hl:=S.less (a:Int) (i':Int) a i' rfl rfl hA.inv (by omega) (by omega);cases hlv:lt dk[a]! dk[i']! with
    | false=>
     rw[hlv]at hl;go_wp2_with (go_at_fn g;refine hl.mono ?_;rintro e w2 ⟨rfl,hg2⟩;have hA1:=hA.grow S hg2);go_roundw
     case rel=>exact⟨i'+1,by go_num,by omega,by omega,hA1,(scanUp_go (fun x => !lt dk[a]! x) dk j i' hle (by simp[hlv])).symm.trans hsc.out⟩
     case measure=>simp[intOf];omega
    | true=>
     rw[hlv]at hl;have hi2:Hid (i'=scanUp (fun x => !lt dk[a]! x) dk j i):=(scanUp_end (fun x => !lt dk[a]! x) dk j i' (Or.inr (by simp[hlv]))).symm.trans hsc.out;go_wp2_with (go_at_fn g;refine hl.mono ?_;rintro e w2 ⟨rfl,hg2⟩;have hA1:=hA.grow S hg2);clear c0 hsc hl hA hg2
     go_loopw [10] (fun vj w2=>∃(j':Nat),vj=.int .i64 j'∧j'≤j∧i'≤j'+1∧Q5 I blk (w.alloc (.cells #[.func (.func g) #[] lb,.func (.func sf) #[] sb] (ρ.t 44))) w2 dk∧Hid (scanDown (fun x=>lt dk[a]! x) dk i' j'=scanDown (fun x=>lt dk[a]! x) dk i' j)) (fun vj _=>(intOf vj).toNat)
     case atStart=>exact⟨j,rfl,wz,hij',hA1,rfl⟩
     case round=>
      clear hA1;obtain⟨j',rfl,hjj,hij2,hB,hsd⟩:=hrel;obtain⟨c0,c1⟩:=hB.box hblk;by_cases hle2:i'≤j'
      ·have hl:=S.less (a:Int) (j':Int) a j' rfl rfl hB.inv (by omega) (by omega);cases hlv2:lt dk[a]! dk[j']! with
       | true=>
        rw[hlv2]at hl;go_wp2_with (go_at_fn g;refine hl.mono ?_;rintro e w3 ⟨rfl,hg3⟩;have hB1:=hB.grow S hg3);go_roundw
        case rel=>exact⟨j' - 1,by go_num,by omega,by omega,hB1,(scanDown_go (fun x=>lt dk[a]! x) dk i' j' hle2 (by omega) hlv2).symm.trans hsd.out⟩
        case measure=>simp[intOf];omega
       | false=>
        rw[hlv2]at hl;have hj2:Hid (j'=scanDown (fun x=>lt dk[a]! x) dk i' j):=(scanDown_end (fun x=>lt dk[a]! x) dk i' j' (Or.inr hlv2)).symm.trans hsd.out;have hlt3:=scans_lt lt a i j dk (by omega) hi2.out hj2.out hle2;go_wp2_with (go_at_fn g;refine hl.mono ?_;rintro e w3 ⟨rfl,hg3⟩;have hB1:=hB.grow S hg3;obtain⟨_,c13⟩:=hB1.box hblk;obtain⟨w4,hs4,hI4,hg4⟩:=S.swap (i':Int) (j':Int) i' j' rfl rfl hB1.inv (by omega) (by omega));go_roundw
        case rel=>exact⟨i'+1,j' - 1,swp dk i' j',by go_num,by go_num,by omega,by omega,by omega,hB1.turn hI4 hg4,(show Hid _ from by rw[←AE.out];exact(partEq_go lt a i j dk hi2.out hj2.out (by omega)).symm)⟩
        case measure=>simp[intOf];omega
      ·have hj2:Hid (j'=scanDown (fun x=>lt dk[a]! x) dk i' j):=(scanDown_end (fun x=>lt dk[a]! x) dk i' j' (Or.inl hle2)).symm.trans hsd.out
       go_wp2
       go_ret;have e:=partEq_break lt a i j dk hi2.out hj2.out (by omega);exact⟨by unfold partitionEqual;rw[←AE.out,e];rfl,by unfold partitionEqual;rw[←AE.out,e];exact hB.inv,hB.off⟩
   ·have hi2:Hid (i'=scanUp (fun x => !lt dk[a]! x) dk j i):=(scanUp_end (fun x => !lt dk[a]! x) dk j i' (Or.inl hle)).symm.trans hsc.out
    go_wp2
    clear c0 hsc
    go_loopw [10] (fun vj w2=>∃(j':Nat),vj=.int .i64 j'∧j'≤j∧i'≤j'+1∧Q5 I blk (w.alloc (.cells #[.func (.func g) #[] lb,.func (.func sf) #[] sb] (ρ.t 44))) w2 dk∧Hid (scanDown (fun x=>lt dk[a]! x) dk i' j'=scanDown (fun x=>lt dk[a]! x) dk i' j)) (fun vj _=>(intOf vj).toNat)
    case atStart=>exact⟨j,rfl,wz,hij',hA,rfl⟩
    case round=>
     clear hA;obtain⟨j',rfl,hjj,hij2,hB,hsd⟩:=hrel;obtain⟨c0,c1⟩:=hB.box hblk;by_cases hle2:i'≤j'
     ·exfalso;omega
     ·have hj2:Hid (j'=scanDown (fun x=>lt dk[a]! x) dk i' j):=(scanDown_end (fun x=>lt dk[a]! x) dk i' j' (Or.inl hle2)).symm.trans hsd.out
      go_wp2
      go_ret;have e:=partEq_break lt a i j dk hi2.out hj2.out (by omega);exact⟨by unfold partitionEqual;rw[←AE.out,e];rfl,by unfold partitionEqual;rw[←AE.out,e];exact hB.inv,hB.off⟩
theorem Qs4 (L:LaysGg.n33 P ρ)(S:Srt P lt g lb sf sb blk n n0 I)(a b pivot:Nat)(d:Array α)(w:World)(hI:I w d)(hap:a≤pivot)(hpb:pivot<b)(hb:b≤n)(hsz:n<4611686018427387904) :
 Calls P (ρ.f 33) #[.agg #[.func (.func g) #[] lb,.func (.func sf) #[] sb],.int .i64 a,.int .i64 b,.int .i64 pivot] w fun e w'=>e=.returned (.tuple #[.int .i64 (partition lt d a b pivot).1,.bool (partition lt d a b pivot).2.1])∧I w' (partition lt d a b pivot).2.2∧w.grownBy w' (some blk):=by
 have mixed:=L.mixed;have t0:=L.t0;have a0:=L.a0;have z0:=L.z0;have v0:=L.v0;have t3:=L.t3;have a3:=L.a3;have z3:=L.z3;have v3:=L.v3;have t4:=L.t4;have a4:=L.a4;have z4:=L.z4;have v4:=L.v4;have t26:=L.t26;have a26:=L.a26;have z26:=L.z26;have v26:=L.v26;have t37:=L.t37;have a37:=L.a37;have z37:=L.z37;have v37:=L.v37;have t44:=L.t44;have a44:=L.a44;have z44:=L.z44;have v44:=L.v44;have u44:=run_underlying L.t44;have eg:=S.eg;have hblk:=S.blt hI;have A0:Q5 I blk (w.alloc (.cells #[.func (.func g) #[] lb,.func (.func sf) #[] sb] (ρ.t 44))) (w.alloc (.cells #[.func (.func g) #[] lb,.func (.func sf) #[] sb] (ρ.t 44))) d:=.start (S.keep hI (World.grownBy_alloc w _ none));obtain⟨_,c1⟩:=A0.box hblk;obtain⟨w1,hs0,hI1,hg1⟩:=S.swap (a:Int) (pivot:Int) a pivot rfl rfl A0.inv (by omega) (by omega);have hA0:=A0.turn hI1 hg1;obtain⟨i,hi⟩:∃i:Nat,i=a+1:=⟨_,rfl⟩;obtain⟨j,hj⟩:∃j:Nat,j=b - 1:=⟨_,rfl⟩;obtain⟨dk,hdk⟩:∃dk:Array α,dk=swp d a pivot:=⟨_,rfl⟩;rw[←hdk]at hA0;have hai:a<i:=by omega
 have hij:i≤j+1:=by omega
 have hjb:j<b:=by omega
 have Hi:Hid (i=a+1):=hi;have Hj:Hid (j=b - 1):=hj;have Hdk:Hid (dk=swp d a pivot):=hdk;clear hi hj hdk hI1 hg1;go_enter L.f33,BodyGg.n33_ntmps ρ
 go_wp2
 rw[show((a:Int)+1)=(i:Int) by have:=Hi.out;omega,show((b:Int) - 1)=(j:Int) by have:=Hj.out;omega];clear hs0 c1 A0
 go_loopw [10] (fun vi w1=>∃(i':Nat),vi=.int .i64 i'∧i≤i'∧i'≤j+1∧Q5 I blk (w.alloc (.cells #[.func (.func g) #[] lb,.func (.func sf) #[] sb] (ρ.t 44))) w1 dk∧Hid (scanUp (fun x=>lt x dk[a]!) dk j i'=scanUp (fun x=>lt x dk[a]!) dk j i)) (fun vi _=>j+1 - (intOf vi).toNat)
 case atStart=>exact⟨i,rfl,wz,hij,hA0,rfl⟩
 case round=>
  clear hA0;obtain⟨i',rfl,hii,hij',hA,hsc⟩:=hrel;obtain⟨c0,_⟩:=hA.box hblk;by_cases hle:i'≤j
  ·have hl:=S.less (i':Int) (a:Int) i' a rfl rfl hA.inv (by omega) (by omega);cases hlv:lt dk[i']! dk[a]! with
   | true=>
    rw[hlv]at hl;go_wp2_with (go_at_fn g;refine hl.mono ?_;rintro e w2 ⟨rfl,hg2⟩;have hA1:=hA.grow S hg2);go_roundw
    case rel=>exact⟨i'+1,by go_num,by omega,by omega,hA1,(scanUp_go (fun x=>lt x dk[a]!) dk j i' hle hlv).symm.trans hsc.out⟩
    case measure=>simp[intOf];omega
   | false=>
    rw[hlv]at hl;have hi2:Hid (i'=scanUp (fun x=>lt x dk[a]!) dk j i):=(scanUp_end (fun x=>lt x dk[a]!) dk j i' (Or.inr hlv)).symm.trans hsc.out;go_wp2_with (go_at_fn g;refine hl.mono ?_;rintro e w2 ⟨rfl,hg2⟩;have hA1:=hA.grow S hg2);clear c0 hsc hl hA hg2
    go_loopw [11] (fun vj w2=>∃(j':Nat),vj=.int .i64 j'∧j'≤j∧i'≤j'+1∧Q5 I blk (w.alloc (.cells #[.func (.func g) #[] lb,.func (.func sf) #[] sb] (ρ.t 44))) w2 dk∧Hid (scanDown (fun x => !lt x dk[a]!) dk i' j'=scanDown (fun x => !lt x dk[a]!) dk i' j)) (fun vj _=>(intOf vj).toNat)
    case atStart=>exact⟨j,rfl,wz,hij',hA1,rfl⟩
    case round=>
     clear hA1;obtain⟨j',rfl,hjj,hij2,hB,hsd⟩:=hrel;obtain⟨c0,c1⟩:=hB.box hblk;by_cases hle2:i'≤j'
     ·have hl:=S.less (j':Int) (a:Int) j' a rfl rfl hB.inv (by omega) (by omega);cases hlv2:lt dk[j']! dk[a]! with
      | false=>
       rw[hlv2]at hl;go_wp2_with (go_at_fn g;refine hl.mono ?_;rintro e w3 ⟨rfl,hg3⟩;have hB1:=hB.grow S hg3);go_roundw
       case rel=>exact⟨j' - 1,by go_num,by omega,by omega,hB1,(scanDown_go (fun x => !lt x dk[a]!) dk i' j' hle2 (by omega) (by simp[hlv2])).symm.trans hsd.out⟩
       case measure=>simp[intOf];omega
      | true=>
       rw[hlv2]at hl;have hj2:Hid (j'=scanDown (fun x => !lt x dk[a]!) dk i' j):=(scanDown_end (fun x => !lt x dk[a]!) dk i' j' (Or.inr (by simp[hlv2]))).symm.trans hsd.out;have hlt3:=part_scans_lt lt a i j dk (by omega) hi2.out hj2.out hle2;go_wp2_with (go_at_fn g;refine hl.mono ?_;rintro e w3 ⟨rfl,hg3⟩;have hB1:=hB.grow S hg3;obtain⟨_,c13⟩:=hB1.box hblk;obtain⟨w4,hs4,hI4,hg4⟩:=S.swap (i':Int) (j':Int) i' j' rfl rfl hB1.inv (by omega) (by omega));rw[decide_eq_false (show ¬j'<i' by omega)];obtain⟨I0,hI0⟩:∃I0:Nat,I0=i'+1:=⟨_,rfl⟩;obtain⟨J0,hJ0⟩:∃J0:Nat,J0=j' - 1:=⟨_,rfl⟩;obtain⟨D0,hD0⟩:∃D0:Array α,D0=swp dk i' j':=⟨_,rfl⟩;have PF:Hid (partition lt d a b pivot=((partLoop lt a I0 J0 D0).1,false,swp (partLoop lt a I0 J0 D0).2 (partLoop lt a I0 J0 D0).1 a)):=by rw[hI0,hJ0,hD0];exact part_first_go lt d a b pivot Hi.out Hj.out Hdk.out hi2.out hj2.out (by omega)
       have hB4:=hB1.turn hI4 hg4
       go_loopw [10,11] (fun vi vj wr=>∃(i j:Nat) (dk:Array α),vi=.int .i64 i∧vj=.int .i64 j∧a<i∧i≤j+1∧j<b∧Q5 I blk (w.alloc (.cells #[.func (.func g) #[] lb,.func (.func sf) #[] sb] (ρ.t 44))) wr dk∧Hid (partLoop lt a i j dk=partLoop lt a I0 J0 D0)) (fun vi vj _=>(intOf vj).toNat+1 - (intOf vi).toNat)
       case atStart=>exact⟨i'+1,j' - 1,swp dk i' j',by go_num,by go_num,by omega,by omega,by omega,hB4,(show Hid _ from by rw[hI0,hJ0,hD0];exact rfl)⟩
       case round=>
        clear hI0 hJ0 hD0 hB4 hs4 hI4 hg4 hB1 hg3 hB hj2 hi2 hlt3 hl c0 c1 c13 Hi Hj Hdk hsd;obtain⟨i,j,dk,rfl,rfl,hai,hij,hjb,hA0,AE⟩:=hrel
        go_wp2
        go_loopw [10] (fun vi w1=>∃(i':Nat),vi=.int .i64 i'∧i≤i'∧i'≤j+1∧Q5 I blk (w.alloc (.cells #[.func (.func g) #[] lb,.func (.func sf) #[] sb] (ρ.t 44))) w1 dk∧Hid (scanUp (fun x=>lt x dk[a]!) dk j i'=scanUp (fun x=>lt x dk[a]!) dk j i)) (fun vi _=>j+1 - (intOf vi).toNat)
        case atStart=>exact⟨i,rfl,wz,hij,hA0,rfl⟩
        case round=>
         clear hA0;obtain⟨i',rfl,hii,hij',hA,hsc⟩:=hrel;obtain⟨c0,_⟩:=hA.box hblk;by_cases hle:i'≤j
         ·have hl:=S.less (i':Int) (a:Int) i' a rfl rfl hA.inv (by omega) (by omega);cases hlv:lt dk[i']! dk[a]! with
          | true=>
           rw[hlv]at hl;go_wp2_with (go_at_fn g;refine hl.mono ?_;rintro e w2 ⟨rfl,hg2⟩;have hA1:=hA.grow S hg2);go_roundw
           case rel=>exact⟨i'+1,by go_num,by omega,by omega,hA1,(scanUp_go (fun x=>lt x dk[a]!) dk j i' hle hlv).symm.trans hsc.out⟩
           case measure=>simp[intOf];omega
          | false=>
           rw[hlv]at hl;have hi2:Hid (i'=scanUp (fun x=>lt x dk[a]!) dk j i):=(scanUp_end (fun x=>lt x dk[a]!) dk j i' (Or.inr hlv)).symm.trans hsc.out;go_wp2_with (go_at_fn g;refine hl.mono ?_;rintro e w2 ⟨rfl,hg2⟩;have hA1:=hA.grow S hg2);clear c0 hsc hl hA hg2
           go_loopw [11] (fun vj w2=>∃(j':Nat),vj=.int .i64 j'∧j'≤j∧i'≤j'+1∧Q5 I blk (w.alloc (.cells #[.func (.func g) #[] lb,.func (.func sf) #[] sb] (ρ.t 44))) w2 dk∧Hid (scanDown (fun x => !lt x dk[a]!) dk i' j'=scanDown (fun x => !lt x dk[a]!) dk i' j)) (fun vj _=>(intOf vj).toNat)
           case atStart=>exact⟨j,rfl,wz,hij',hA1,rfl⟩
           case round=>
            clear hA1;obtain⟨j',rfl,hjj,hij2,hB,hsd⟩:=hrel;obtain⟨c0,c1⟩:=hB.box hblk;by_cases hle2:i'≤j'
            ·have hl:=S.less (j':Int) (a:Int) j' a rfl rfl hB.inv (by omega) (by omega);cases hlv2:lt dk[j']! dk[a]! with
             | false=>
              rw[hlv2]at hl;go_wp2_with (go_at_fn g;refine hl.mono ?_;rintro e w3 ⟨rfl,hg3⟩;have hB1:=hB.grow S hg3);go_roundw
              case rel=>exact⟨j' - 1,by go_num,by omega,by omega,hB1,(scanDown_go (fun x => !lt x dk[a]!) dk i' j' hle2 (by omega) (by simp[hlv2])).symm.trans hsd.out⟩
              case measure=>simp[intOf];omega
             | true=>
              rw[hlv2]at hl;have hj2:Hid (j'=scanDown (fun x => !lt x dk[a]!) dk i' j):=(scanDown_end (fun x => !lt x dk[a]!) dk i' j' (Or.inr (by simp[hlv2]))).symm.trans hsd.out;have hlt3:=part_scans_lt lt a i j dk (by omega) hi2.out hj2.out hle2;go_wp2_with (go_at_fn g;refine hl.mono ?_;rintro e w3 ⟨rfl,hg3⟩;have hB1:=hB.grow S hg3;obtain⟨_,c13⟩:=hB1.box hblk;obtain⟨w4,hs4,hI4,hg4⟩:=S.swap (i':Int) (j':Int) i' j' rfl rfl hB1.inv (by omega) (by omega));go_roundw
              case rel=>exact⟨i'+1,j' - 1,swp dk i' j',by go_num,by go_num,by omega,by omega,by omega,hB1.turn hI4 hg4,(show Hid _ from by rw[←AE.out];exact(part_go lt a i j dk hi2.out hj2.out (by omega)).symm)⟩
              case measure=>simp[intOf];omega
            ·have hj2:Hid (j'=scanDown (fun x => !lt x dk[a]!) dk i' j):=(scanDown_end (fun x => !lt x dk[a]!) dk i' j' (Or.inl hle2)).symm.trans hsd.out;obtain⟨w5,hs5,hI5,hg5⟩:=S.swap (j':Int) (a:Int) j' a rfl rfl hB.inv (by omega) (by omega);have hB5:=hB.turn hI5 hg5;clear hsd
             go_wp2
             go_ret2;have e:=part_break lt a i j dk hi2.out hj2.out (by omega);rw[PF.out,←AE.out,e];exact⟨rfl,hB5.inv,hB5.off⟩
         ·have hi2:Hid (i'=scanUp (fun x=>lt x dk[a]!) dk j i):=(scanUp_end (fun x=>lt x dk[a]!) dk j i' (Or.inl hle)).symm.trans hsc.out
          go_wp2
          clear c0 hsc
          go_loopw [11] (fun vj w2=>∃(j':Nat),vj=.int .i64 j'∧j'≤j∧i'≤j'+1∧Q5 I blk (w.alloc (.cells #[.func (.func g) #[] lb,.func (.func sf) #[] sb] (ρ.t 44))) w2 dk∧Hid (scanDown (fun x => !lt x dk[a]!) dk i' j'=scanDown (fun x => !lt x dk[a]!) dk i' j)) (fun vj _=>(intOf vj).toNat)
          case atStart=>exact⟨j,rfl,wz,hij',hA,rfl⟩
          case round=>
           clear hA;obtain⟨j',rfl,hjj,hij2,hB,hsd⟩:=hrel;obtain⟨c0,c1⟩:=hB.box hblk;by_cases hle2:i'≤j'
           ·exfalso;omega
           ·have hj2:Hid (j'=scanDown (fun x => !lt x dk[a]!) dk i' j):=(scanDown_end (fun x => !lt x dk[a]!) dk i' j' (Or.inl hle2)).symm.trans hsd.out;obtain⟨w5,hs5,hI5,hg5⟩:=S.swap (j':Int) (a:Int) j' a rfl rfl hB.inv (by omega) (by omega);have hB5:=hB.turn hI5 hg5;clear hsd
            go_wp2
            go_ret2;have e:=part_break lt a i j dk hi2.out hj2.out (by omega);rw[PF.out,←AE.out,e];exact⟨rfl,hB5.inv,hB5.off⟩
     ·have hj2:Hid (j'=scanDown (fun x => !lt x dk[a]!) dk i' j):=(scanDown_end (fun x => !lt x dk[a]!) dk i' j' (Or.inl hle2)).symm.trans hsd.out;obtain⟨w5,hs5,hI5,hg5⟩:=S.swap (j':Int) (a:Int) j' a rfl rfl hB.inv (by omega) (by omega);have hB5:=hB.turn hI5 hg5;clear hsd
      go_wp2
      go_ret2;have e:=part_first_break lt d a b pivot Hi.out Hj.out Hdk.out hi2.out hj2.out (by omega);rw[e];exact⟨rfl,hB5.inv,hB5.off⟩
  ·have hi2:Hid (i'=scanUp (fun x=>lt x dk[a]!) dk j i):=(scanUp_end (fun x=>lt x dk[a]!) dk j i' (Or.inl hle)).symm.trans hsc.out
   go_wp2
   clear c0 hsc
   go_loopw [11] (fun vj w2=>∃(j':Nat),vj=.int .i64 j'∧j'≤j∧i'≤j'+1∧Q5 I blk (w.alloc (.cells #[.func (.func g) #[] lb,.func (.func sf) #[] sb] (ρ.t 44))) w2 dk∧Hid (scanDown (fun x => !lt x dk[a]!) dk i' j'=scanDown (fun x => !lt x dk[a]!) dk i' j)) (fun vj _=>(intOf vj).toNat)
   case atStart=>exact⟨j,rfl,wz,hij',hA,rfl⟩
   case round=>
    clear hA;obtain⟨j',rfl,hjj,hij2,hB,hsd⟩:=hrel;obtain⟨c0,c1⟩:=hB.box hblk;by_cases hle2:i'≤j'
    ·exfalso;omega
    ·have hj2:Hid (j'=scanDown (fun x => !lt x dk[a]!) dk i' j):=(scanDown_end (fun x => !lt x dk[a]!) dk i' j' (Or.inl hle2)).symm.trans hsd.out;obtain⟨w5,hs5,hI5,hg5⟩:=S.swap (j':Int) (a:Int) j' a rfl rfl hB.inv (by omega) (by omega);have hB5:=hB.turn hI5 hg5;clear hsd
     go_wp2
     go_ret2;have e:=part_first_break lt d a b pivot Hi.out Hj.out Hdk.out hi2.out hj2.out (by omega);rw[e];exact⟨rfl,hB5.inv,hB5.off⟩
variable {P:Program} {ρ:Ren} {α:Type} [Inhabited α] {lt:α→α→Bool} {g:Nat} {lb:Array Value} {sf:Nat} {sb:Array Value} {blk n n0:Nat} {I:World→Array α→Prop}
theorem Qjw (L':LaysGg.n28 P ρ)(S:Srt P lt g lb sf sb blk n n0 I)(a L:Nat)(d:Array α)(w:World)(hI:I w d)(hb:a+L≤n)(hsz:n<4611686018427387904)(h8:8≤L) :
 Calls P (ρ.f 28) #[.agg #[.func (.func g) #[] lb,.func (.func sf) #[] sb],.int .i64 a,.int .i64 ((a+L:Nat):Int)] w fun e w'=>e=.returned (.tuple #[])∧I w' (breakPatterns d a (a+L))∧w.grownBy w' (some blk):=by
 have mixed:=L'.mixed;have t0:=L'.t0;have a0:=L'.a0;have z0:=L'.z0;have v0:=L'.v0;have t3:=L'.t3;have a3:=L'.a3;have z3:=L'.z3;have v3:=L'.v3;have t4:=L'.t4;have a4:=L'.a4;have z4:=L'.z4;have v4:=L'.v4;have t5:=L'.t5;have a5:=L'.a5;have z5:=L'.z5;have v5:=L'.v5;have t9:=L'.t9;have a9:=L'.a9;have z9:=L'.z9;have v9:=L'.v9;have t26:=L'.t26;have a26:=L'.a26;have z26:=L'.z26;have v26:=L'.v26;have t37:=L'.t37;have a37:=L'.a37;have z37:=L'.z37;have v37:=L'.v37;have t41:=L'.t41;have a41:=L'.a41;have z41:=L'.z41;have v41:=L'.v41;have t44:=L'.t44;have a44:=L'.a44;have z44:=L'.z44;have v44:=L'.v44;have t49:=L'.t49;have a49:=L'.a49;have z49:=L'.z49;have v49:=L'.v49;have t51:=L'.t51;have a51:=L'.a51;have z51:=L'.z51;have v51:=L'.v51;have t60:=L'.t60;have a60:=L'.a60;have z60:=L'.z60;have v60:=L'.v60;have t66:=L'.t66;have a66:=L'.a66;have z66:=L'.z66;have v66:=L'.v66;have u44:=run_underlying L'.t44;have e35:∀args w,(callFunc (ρ.f 35) args).run P w=.ok (.enter (ρ.f 35) args) w:=enters_of L'.f35 (by kernel_rfl) rfl;have e36:∀args w,(callFunc (ρ.f 36) args).run P w=.ok (.enter (ρ.f 36) args) w:=enters_of L'.f36 (by kernel_rfl) rfl;rw[breakPatterns_eq d a L h8];obtain⟨M,hM⟩:∃M:Nat,M=1 <<< bitsLen L:=⟨_,rfl⟩;have hM1:1≤M:=by rw[hM,Nat.one_shiftLeft];exact Nat.two_pow_pos _
 have hM2:M≤2*L:=by rw[hM,Nat.one_shiftLeft];exact two_pow_bitsLen_le (by omega)
 have hNP:∀w,Calls P (ρ.f 35) #[.int .i64 (L:Int)] w fun e w'=>e=.returned (.int .u64 (M:Int))∧w'=w:=by rw[hM];exact fun w=>Any.nextPowerOfTwo { L' with } L (by omega) w
 rw[←hM];clear hM;have hLz:((a:Int)+(L:Int) - (a:Int))=(L:Int):=by omega
 have h8z:(8:Int)≤(L:Int):=by omega
 have hblk:=S.blt hI;have hn0:=S.le hI;have hgB:∀o o',w.grownBy ((w.alloc o).alloc o') none:=fun o o'=>(World.grownBy_alloc w o none).andThen (World.grownBy_alloc _ o' none) (fun _ hj=>by cases hj);have hgB:Aside _:=hgB;go_enter L'.f28,BodyGg.n28_ntmps ρ;go_wp2_with (first|(go_at_fn (ρ.f 35);refine(hNP _).mono ?_;rintro e w' ⟨rfl,rfl⟩))
 go_loopg [9] 3 (fun g1 vi wr=>∃(t:Nat) (r:UInt64) (dk:Array α),vi=.int .i64 ((a:Int)+(L:Int) / 4*2 - 1+(t:Int))∧t≤3∧3 - t≤g1∧Aside (I wr dk∧w.grownBy wr (some blk))∧w.heap.size+1<wr.heap.size ∧
  wr.cell? ⟨w.heap.size,1,none⟩=some (.func (.func sf) #[] sb)∧wr.cell? ⟨w.heap.size+1,0,none⟩=some (.int .u64 (r.toNat:Int))∧wr.frozen? ⟨w.heap.size+1,0,none⟩=false ∧
  Hid (bpRest a L M (a+L / 4*2 - 1) (3 - t) t (r,dk)=bpRest a L M (a+L / 4*2 - 1) 3 0 (UInt64.ofNat L,d)))
 case atStart=>
  refine⟨0,UInt64.ofNat L,d,by simp,by omega,by omega,⟨S.keep hI (hgB.out _ _),(hgB.out _ _).but _⟩,by simp,by simp,?_,by simp,rfl⟩;rw[show(UInt64.ofNat L).toNat=L from by simp;omega];simp
 case round=>
  obtain⟨t,r,dk,rfl,ht,hg1,A,hsw,c1,cR,fR,HR⟩:=hrel;by_cases ht3:t<3
  ·have hle:(a:Int)+(L:Int) / 4*2 - 1+(t:Int)≤(a:Int)+(L:Int) / 4*2+1:=(by omega);obtain⟨R,hRr⟩:∃R:Nat,R=r.toNat:=⟨_,rfl⟩;have lR:R<18446744073709551616:=(by rw[hRr];exact r.toNat_lt);obtain⟨R',hR'⟩:∃R':Nat,R'=xorNextN R:=⟨_,rfl⟩;have lR':R'<18446744073709551616:=(by rw[hR'];exact xorNextN_lt R lR);obtain⟨O,hO⟩:∃O:Nat,O=R' &&& (M - 1):=⟨_,rfl⟩;have lO:O≤M - 1:=(by rw[hO];exact Nat.and_le_right);have eAnd:bits .and .u64 (R':Int) ((M:Int) - 1)=(O:Int):=(by rw[show((M:Int) - 1)=((M - 1:Nat):Int) by omega,bits_and_u64_nat _ _ lR' (by omega),hO]);rw[←hRr]at cR;have hNext:Calls P (ρ.f 36) #[.pointer (some ⟨w.heap.size+1,0,none⟩)] wr fun e w'=>e=.returned (.int .u64 (R':Int))∧w'=(wr.setCell ⟨w.heap.size+1,0,none⟩ (.int .u64 (R':Int))).drewN 3:=(by rw[hR'];exact Any.xorshift_Next { L' with } _ _ R lR wr cR fR);have HN:Hid (R'=(xorNext r).toNat∧O=(xorNext r).toNat &&& (M - 1)):=(by have e:R'=(xorNext r).toNat:=(by rw[hR',hRr,xorNext_toNat]);exact⟨e,by rw[hO,e]⟩);clear hRr hR' hO;have hgN:wr.grownBy ((wr.setCell ⟨w.heap.size+1,0,none⟩ (.int .u64 (R':Int))).drewN 3) (some (w.heap.size+1)):=Jm (grown_set (grown_refl wr _) 0 _) ((grown_drewN _ 3).but _);have cR':((wr.setCell ⟨w.heap.size+1,0,none⟩ (.int .u64 (R':Int))).drewN 3).cell? ⟨w.heap.size+1,0,none⟩=some (.int .u64 (R':Int)):=(by rw[World.cell?_drewN];exact World.cell?_setCell_same _ _ _ cR);have fR':((wr.setCell ⟨w.heap.size+1,0,none⟩ (.int .u64 (R':Int))).drewN 3).frozen? ⟨w.heap.size+1,0,none⟩=false:=(by rw[World.frozen?_drewN];simpa using fR);have c1':=cell_kept c1 hgN (Nat.lt_of_succ_lt hsw) (fun e=>by have:=Option.some.inj e;simp only at this;omega);have hI2:=S.keepAt A.out.1 (Nat.le_succ_of_le hn0) hgN;have hgw2:w.grownBy ((wr.setCell ⟨w.heap.size+1,0,none⟩ (.int .u64 (R':Int))).drewN 3) (some blk):=A.out.2.andThen hgN (fun j hj=>by cases hj;exact .inl (Nat.le_succ _));have hsw2:=Nat.lt_of_lt_of_le hsw hgN.size;generalize (wr.setCell ⟨w.heap.size+1,0,none⟩ (.int .u64 (R':Int))).drewN 3=w2 at hNext hgN cR' fR' c1' hI2 hgw2 hsw2;clear c1 cR fR;have KEEP:∀{w3:World},w2.grownBy w3 (some blk)→w.heap.size+1<w3.heap.size∧w3.cell? ⟨w.heap.size,1,none⟩=some (.func (.func sf) #[] sb)∧w3.cell? ⟨w.heap.size+1,0,none⟩=some (.int .u64 (R':Int))∧w3.frozen? ⟨w.heap.size+1,0,none⟩=false:=fun h=>
    ⟨Nat.lt_of_lt_of_le hsw2 h.size,cell_kept c1' h (Nat.lt_of_succ_lt hsw2) (fun e=>by have:=Option.some.inj e;simp only at this;omega),cell_kept cR' h hsw2 (fun e=>by have:=Option.some.inj e;simp only at this;omega),
     (World.frozen?_of_block (w:=w2) (h.block (w.heap.size+1) hsw2 (fun e=>by have:=Option.some.inj e;omega))).trans fR'⟩
   have KEEP:Aside _ := @KEEP;by_cases hLO:L≤O
   ·have hLOz:(L:Int)≤(O:Int):=(by omega);obtain⟨w3,hs,hI3,hg3⟩:=S.swap ((a:Int)+(L:Int) / 4*2 - 1+(t:Int)) ((a:Int)+((O:Int) - (L:Int))) (a+L / 4*2 - 1+t) (a+(O - L)) (by omega) (by omega) hI2 (by omega) (by omega);go_wp2_with (go_at_fn (ρ.f 36);refine hNext.mono ?_;rintro e w' ⟨rfl,rfl⟩)
    go_roundg (3 - (t+1))
    case measure=>omega
    case rel=>
     obtain⟨k0,k1,k2,k3⟩:=KEEP.out hg3;exact⟨t+1,xorNext r,swp dk (a+L / 4*2 - 1+t) (a+(O - L)),by congr 1;push_cast;omega,by omega,wz,⟨hI3,Jm hgw2 hg3⟩,k0,k1,by rw[←HN.out.1];exact k2,k3,
      (show Hid _ from by rw[←HR.out,bp_step a L M _ t r dk (O - L) ht3 (by rw[←HN.out.2,if_pos (by omega)])];exact rfl)⟩
   ·have hLOz:¬(L:Int)≤(O:Int):=(by omega);obtain⟨w3,hs,hI3,hg3⟩:=S.swap ((a:Int)+(L:Int) / 4*2 - 1+(t:Int)) ((a:Int)+(O:Int)) (a+L / 4*2 - 1+t) (a+O) (by omega) (by omega) hI2 (by omega) (by omega);go_wp2_with (go_at_fn (ρ.f 36);refine hNext.mono ?_;rintro e w' ⟨rfl,rfl⟩)
    go_roundg (3 - (t+1))
    case measure=>omega
    case rel=>
     obtain⟨k0,k1,k2,k3⟩:=KEEP.out hg3;exact⟨t+1,xorNext r,swp dk (a+L / 4*2 - 1+t) (a+O),by congr 1;push_cast;omega,by omega,wz,⟨hI3,Jm hgw2 hg3⟩,k0,k1,by rw[←HN.out.1];exact k2,k3,
      (show Hid _ from by rw[←HR.out,bp_step a L M _ t r dk O ht3 (by rw[←HN.out.2,if_neg (by omega)])];exact rfl)⟩
  ·obtain rfl:t=3:=(by omega);have hle:¬((a:Int)+(L:Int) / 4*2 - 1+((3:Nat):Int)≤(a:Int)+(L:Int) / 4*2+1):=by omega
   go_wp2
   go_end0
   rw[←HR.out];exact⟨rfl,A.out.1,A.out.2⟩
theorem Qqq (L':LaysGg.n28 P ρ)(S:Srt P lt g lb sf sb blk n n0 I)(a b:Nat)(d:Array α)(w:World)(hI:I w d)(hab:a≤b)(hb:b≤n)(hsz:n<4611686018427387904) :
 Calls P (ρ.f 28) #[.agg #[.func (.func g) #[] lb,.func (.func sf) #[] sb],.int .i64 a,.int .i64 b] w fun e w'=>e=.returned (.tuple #[])∧I w' (breakPatterns d a b)∧w.grownBy w' (some blk):=by
 obtain⟨L,rfl⟩:∃L,b=a+L:=⟨b - a,by omega⟩;by_cases h8:8≤L
 ·exact Qjw L' S a L d w hI hb hsz h8
 ·have hv:breakPatterns d a (a+L)=d:=by unfold breakPatterns;simp only[Nat.add_sub_cancel_left];rw[if_neg h8]
  rw[hv];have mixed:=L'.mixed;have t0:=L'.t0;have a0:=L'.a0;have z0:=L'.z0;have v0:=L'.v0;have t3:=L'.t3;have a3:=L'.a3;have z3:=L'.z3;have v3:=L'.v3;have t4:=L'.t4;have a4:=L'.a4;have z4:=L'.z4;have v4:=L'.v4;have t5:=L'.t5;have a5:=L'.a5;have z5:=L'.z5;have v5:=L'.v5;have t9:=L'.t9;have a9:=L'.a9;have z9:=L'.z9;have v9:=L'.v9;have t26:=L'.t26;have a26:=L'.a26;have z26:=L'.z26;have v26:=L'.v26;have t37:=L'.t37;have a37:=L'.a37;have z37:=L'.z37;have v37:=L'.v37;have t41:=L'.t41;have a41:=L'.a41;have z41:=L'.z41;have v41:=L'.v41;have t44:=L'.t44;have a44:=L'.a44;have z44:=L'.z44;have v44:=L'.v44;have t49:=L'.t49;have a49:=L'.a49;have z49:=L'.z49;have v49:=L'.v49;have t51:=L'.t51;have a51:=L'.a51;have z51:=L'.z51;have v51:=L'.v51;have t60:=L'.t60;have a60:=L'.a60;have z60:=L'.z60;have v60:=L'.v60;have t66:=L'.t66;have a66:=L'.a66;have z66:=L'.z66;have v66:=L'.v66;have u44:=run_underlying L'.t44;have hLz:((a:Int)+(L:Int) - (a:Int))=(L:Int):=by omega
  have h8z:¬(8:Int)≤(L:Int):=by omega
  have hg0:w.grownBy (w.alloc (.cells #[.func (.func g) #[] lb,.func (.func sf) #[] sb] (ρ.t 44))) none:=World.grownBy_alloc w _ none;go_enter L'.f28,BodyGg.n28_ntmps ρ
  go_wp2
  go_end0
  exact⟨rfl,S.keep hI hg0,hg0.but _⟩
variable {P:Program} {ρ:Ren} {α:Type} [Inhabited α] {lt:α→α→Bool} {g:Nat} {lb:Array Value} {sf:Nat} {sb:Array Value} {blk n n0:Nat} {I:World→Array α→Prop}
theorem Ql9 (L:LaysGg.n31 P ρ)(S:Srt P lt g lb sf sb blk n n0 I)(a b:Nat)(d:Array α)(w:World)(hI:I w d)(hab:a<b)(hb:b≤n)(hsz:n<4611686018427387904) :
 Calls P (ρ.f 31) #[.agg #[.func (.func g) #[] lb,.func (.func sf) #[] sb],.int .i64 a,.int .i64 b] w fun e w'=>e=.returned (.bool (Sort.partialInsertionSort lt d a b).2)∧I w' (Sort.partialInsertionSort lt d a b).1∧w.grownBy w' (some blk):=by
 have mixed:=L.mixed;have t0:=L.t0;have a0:=L.a0;have z0:=L.z0;have v0:=L.v0;have t3:=L.t3;have a3:=L.a3;have z3:=L.z3;have v3:=L.v3;have t4:=L.t4;have a4:=L.a4;have z4:=L.z4;have v4:=L.v4;have t26:=L.t26;have a26:=L.a26;have z26:=L.z26;have v26:=L.v26;have t37:=L.t37;have a37:=L.a37;have z37:=L.z37;have v37:=L.v37;have t44:=L.t44;have a44:=L.a44;have z44:=L.z44;have v44:=L.v44;have u44:=run_underlying L.t44;have eg:=S.eg;have hblk:=S.blt hI;have A0:Q5 I blk (w.alloc (.cells #[.func (.func g) #[] lb,.func (.func sf) #[] sb] (ρ.t 44))) (w.alloc (.cells #[.func (.func g) #[] lb,.func (.func sf) #[] sb] (ρ.t 44))) d:=.start (S.keep hI (World.grownBy_alloc w _ none));go_enter L.f31,BodyGg.n31_ntmps ρ
 go_wp2
 go_loopg [7,8] 5 (fun g1 vi vs wr=>∃(i s:Nat) (dk:Array α),vi=.int .i64 i∧vs=.int .i64 s∧s≤5∧5 - s≤g1∧a<i∧i≤b∧Q5 I blk (w.alloc (.cells #[.func (.func g) #[] lb,.func (.func sf) #[] sb] (ρ.t 44))) wr dk∧Hid (partialIns lt a b (5 - s) i dk=partialIns lt a b 5 (a+1) d))
 case atStart=>exact⟨a+1,0,d,by go_num,rfl,by omega,by omega,by omega,by omega,A0,rfl⟩
 case round=>
  clear A0;obtain⟨i,s,dk,rfl,rfl,hs5,hg1,hai,hib,hA0,HO⟩:=hrel;by_cases hs:s<5
  ·have hsz5:(s:Int)<5:=by omega
   go_wp2
   go_loopg [7] (b - i) (fun g2 vi wr2=>∃(kx:Nat),vi=.int .i64 kx∧i≤kx∧kx≤b∧b - kx≤g2∧Q5 I blk (w.alloc (.cells #[.func (.func g) #[] lb,.func (.func sf) #[] sb] (ρ.t 44))) wr2 dk∧Hid (scanSorted lt dk b kx=scanSorted lt dk b i))
   case atStart=>exact⟨i,rfl,wz,hib,wz,hA0,rfl⟩
   case round=>
    clear hA0;obtain⟨kx,rfl,hik,hkb,hg2,hA,HSc⟩:=hrel;obtain⟨c0,_⟩:=hA.box hblk;by_cases hkb':kx<b
    ·have hkz:(kx:Int)<(b:Int):=(by omega);have hl:=S.less (kx:Int) ((kx:Int) - 1) kx (kx - 1) rfl (by omega) hA.inv (by omega) (by omega);cases hlv:lt dk[kx]! dk[kx - 1]! with
     | false=>
      rw[hlv]at hl;go_wp2_with (go_at_fn g;refine hl.mono ?_;rintro e w1 ⟨rfl,hw1⟩;have hA1:=hA.grow S hw1)
      go_roundg (b - (kx+1))
      case measure=>omega
      case rel=>exact⟨kx+1,by go_num,by omega,by omega,wz,hA1,(show Hid _ from by rw[←HSc.out,scanSorted_go lt dk b kx hkb' hlv];exact rfl)⟩
     | true=>
      rw[hlv]at hl;have HK:Hid (scanSorted lt dk b i=kx):=(by show _=_;rw[←HSc.out,scanSorted_stop lt dk b kx (Or.inr hlv)]);have hkne:((kx:Int)==(b:Int))=false:=beq_eq_false_iff_ne.2 (by omega);by_cases h50:b - a<50
      ·have h50z:(b:Int) - (a:Int)<50:=(by omega);go_wp2_with (go_at_fn g;refine hl.mono ?_;rintro e w1 ⟨rfl,hw1⟩;have hA1:=hA.grow S hw1);have hv:Sort.partialInsertionSort lt d a b=(dk,false):=(by unfold Sort.partialInsertionSort;rw[←HO.out,pi_short lt a b s i dk hs (by rw[HK.out];omega) h50]);rw[hv];go_ret;exact⟨rfl,hA1.inv,hA1.off⟩
      ·have h50z:¬((b:Int) - (a:Int)<50):=(by omega);by_cases hka:kx - a≥2
       ·have hkaz:(2:Int)≤(kx:Int) - (a:Int):=(by omega);go_wp2_with (go_at_fn g;refine hl.mono ?_;rintro e w1 ⟨rfl,hw1⟩;have hA1:=hA.grow S hw1;obtain⟨_,c1⟩:=hA1.box hblk;obtain⟨w2,hs2,hI2,hg2w⟩:=S.swap (kx:Int) ((kx:Int) - 1) kx (kx - 1) rfl (by omega) hA1.inv (by omega) (by omega));have hA2:=hA1.turn hI2 hg2w;clear hA1 hI2 hg2w hs2 c1 c0 hw1 hA hl
        go_loopg [9] (kx - 1) (fun g3 vj wr3=>∃(j:Nat) (dj:Array α),vj=.int .i64 j∧j≤kx - 1∧j≤g3∧Q5 I blk (w.alloc (.cells #[.func (.func g) #[] lb,.func (.func sf) #[] sb] (ρ.t 44))) wr3 dj∧Hid (shiftDown lt j dj=shiftDown lt (kx - 1) (swp dk kx (kx - 1))))
        case atStart=>exact⟨kx - 1,(swp dk kx (kx - 1)),by congr 1;omega,wz,wz,hA2,rfl⟩
        case round=>
         clear hA2;obtain⟨j,dj,rfl,hjk,hg3,hB,HDn⟩:=hrel;obtain⟨d0,_⟩:=hB.box hblk;by_cases hj1:1≤j
         ·have hj1z:(1:Int)≤(j:Int):=(by omega);have hl2:=S.less (j:Int) ((j:Int) - 1) j (j - 1) rfl (by omega) hB.inv (by omega) (by omega);cases hlv2:lt dj[j]! dj[j - 1]! with
          | true=>
           rw[hlv2]at hl2;go_wp2_with (go_at_fn g;refine hl2.mono ?_;rintro e w3 ⟨rfl,hg3w⟩;have hB1:=hB.grow S hg3w;obtain⟨_,d1⟩:=hB1.box hblk;obtain⟨w4,hs4,hI4,hg4w⟩:=S.swap (j:Int) ((j:Int) - 1) j (j - 1) rfl (by omega) hB1.inv (by omega) (by omega))
           go_roundg (j - 1)
           case measure=>omega
           case rel=>exact⟨j - 1,swp dj j (j - 1),by congr 1;omega,by omega,wz,hB1.turn hI4 hg4w,(show Hid _ from by rw[←HDn.out,shiftDown_go lt j dj hj1 hlv2];exact rfl)⟩
          | false=>
           rw[hlv2]at hl2;have HD:Hid (fixDown lt a kx (swp dk kx (kx - 1))=dj):=(by show _=_;unfold fixDown;rw[if_pos hka,←HDn.out,shiftDown_stop lt j dj (Or.inr hlv2)]);by_cases hbk:b - kx≥2
           ·have hbkz:(2:Int)≤(b:Int) - (kx:Int):=(by omega);go_wp2_with (go_at_fn g;refine hl2.mono ?_;rintro e w3 ⟨rfl,hg3w⟩;have hB1:=hB.grow S hg3w);have hC0:=hB1
            go_loopg [10] (b - (kx+1)) (fun g4 vj wr4=>∃(ju:Nat) (du:Array α),vj=.int .i64 ju∧kx+1≤ju∧ju≤b∧b - ju≤g4∧Q5 I blk (w.alloc (.cells #[.func (.func g) #[] lb,.func (.func sf) #[] sb] (ρ.t 44))) wr4 du∧Hid (shiftUp lt b ju du=shiftUp lt b (kx+1) dj))
            case atStart=>exact⟨kx+1,dj,by go_num,wz,by omega,wz,hC0,rfl⟩
            case round=>
             clear hC0;obtain⟨ju,du,rfl,hkj,hjb,hg4,hC,HU⟩:=hrel;obtain⟨e0,_⟩:=hC.box hblk;by_cases hjb':ju<b
             ·have hjz:(ju:Int)<(b:Int):=(by omega);have hl3:=S.less (ju:Int) ((ju:Int) - 1) ju (ju - 1) rfl (by omega) hC.inv (by omega) (by omega);cases hlv3:lt du[ju]! du[ju - 1]! with
              | true=>
               rw[hlv3]at hl3;go_wp2_with (go_at_fn g;refine hl3.mono ?_;rintro e w7 ⟨rfl,hg7⟩;have hC1:=hC.grow S hg7;obtain⟨_,e1⟩:=hC1.box hblk;obtain⟨w8,hs8,hI8,hg8⟩:=S.swap (ju:Int) ((ju:Int) - 1) ju (ju - 1) rfl (by omega) hC1.inv (by omega) (by omega))
               go_roundg (b - (ju+1))
               case measure=>omega
               case rel=>exact⟨ju+1,swp du ju (ju - 1),by go_num,by omega,by omega,wz,hC1.turn hI8 hg8,(show Hid _ from by rw[←HU.out,shiftUp_go lt b ju du hjb' hlv3];exact rfl)⟩
              | false=>
               rw[hlv3]at hl3;go_wp2_with (go_at_fn g;refine hl3.mono ?_;rintro e w7 ⟨rfl,hg7⟩;have hC1:=hC.grow S hg7)
               go_roundg (5 - (s+1))
               case measure=>omega
               case rel=>exact⟨kx,s+1,du,rfl,by go_num,by omega,wz,by omega,by omega,hC1,(show Hid _ from by rw[←HO.out,pi_go lt a b s i kx dk hs HK.out (by omega) h50,HD.out,show fixUp lt b kx dj=du from by unfold fixUp;rw[if_pos hbk,←HU.out,shiftUp_stop lt b ju du (Or.inr hlv3)]];exact rfl)⟩
             ·have hjz:¬(ju:Int)<(b:Int):=by omega
              go_wp2
              go_roundg (5 - (s+1))
              case measure=>omega
              case rel=>exact⟨kx,s+1,du,rfl,by go_num,by omega,wz,by omega,by omega,hC,(show Hid _ from by rw[←HO.out,pi_go lt a b s i kx dk hs HK.out (by omega) h50,HD.out,show fixUp lt b kx dj=du from by unfold fixUp;rw[if_pos hbk,←HU.out,shiftUp_stop lt b ju du (Or.inl hjb')]];exact rfl)⟩
           ·have hbkz:¬(2:Int)≤(b:Int) - (kx:Int):=(by omega);go_wp2_with (go_at_fn g;refine hl2.mono ?_;rintro e w3 ⟨rfl,hg3w⟩;have hB1:=hB.grow S hg3w)
            go_roundg (5 - (s+1))
            case measure=>omega
            case rel=>exact⟨kx,s+1,dj,rfl,by go_num,by omega,wz,by omega,by omega,hB1,(show Hid _ from by rw[←HO.out,pi_go lt a b s i kx dk hs HK.out (by omega) h50,HD.out,show fixUp lt b kx dj=dj from by unfold fixUp;rw[if_neg hbk]];exact rfl)⟩
         ·have hj1z:¬(1:Int)≤(j:Int):=(by omega);have HD:Hid (fixDown lt a kx (swp dk kx (kx - 1))=dj):=(by show _=_;unfold fixDown;rw[if_pos hka,←HDn.out,shiftDown_stop lt j dj (Or.inl (by omega))]);by_cases hbk:b - kx≥2
          ·have hbkz:(2:Int)≤(b:Int) - (kx:Int):=by omega
           go_wp2
           have hC0:=hB
           go_loopg [10] (b - (kx+1)) (fun g4 vj wr4=>∃(ju:Nat) (du:Array α),vj=.int .i64 ju∧kx+1≤ju∧ju≤b∧b - ju≤g4∧Q5 I blk (w.alloc (.cells #[.func (.func g) #[] lb,.func (.func sf) #[] sb] (ρ.t 44))) wr4 du∧Hid (shiftUp lt b ju du=shiftUp lt b (kx+1) dj))
           case atStart=>exact⟨kx+1,dj,by go_num,wz,by omega,wz,hC0,rfl⟩
           case round=>
            clear hC0;obtain⟨ju,du,rfl,hkj,hjb,hg4,hC,HU⟩:=hrel;obtain⟨e0,_⟩:=hC.box hblk;by_cases hjb':ju<b
            ·have hjz:(ju:Int)<(b:Int):=(by omega);have hl3:=S.less (ju:Int) ((ju:Int) - 1) ju (ju - 1) rfl (by omega) hC.inv (by omega) (by omega);cases hlv3:lt du[ju]! du[ju - 1]! with
             | true=>
              rw[hlv3]at hl3;go_wp2_with (go_at_fn g;refine hl3.mono ?_;rintro e w7 ⟨rfl,hg7⟩;have hC1:=hC.grow S hg7;obtain⟨_,e1⟩:=hC1.box hblk;obtain⟨w8,hs8,hI8,hg8⟩:=S.swap (ju:Int) ((ju:Int) - 1) ju (ju - 1) rfl (by omega) hC1.inv (by omega) (by omega))
              go_roundg (b - (ju+1))
              case measure=>omega
              case rel=>exact⟨ju+1,swp du ju (ju - 1),by go_num,by omega,by omega,wz,hC1.turn hI8 hg8,(show Hid _ from by rw[←HU.out,shiftUp_go lt b ju du hjb' hlv3];exact rfl)⟩
             | false=>
              rw[hlv3]at hl3;go_wp2_with (go_at_fn g;refine hl3.mono ?_;rintro e w7 ⟨rfl,hg7⟩;have hC1:=hC.grow S hg7)
              go_roundg (5 - (s+1))
              case measure=>omega
              case rel=>exact⟨kx,s+1,du,rfl,by go_num,by omega,wz,by omega,by omega,hC1,(show Hid _ from by rw[←HO.out,pi_go lt a b s i kx dk hs HK.out (by omega) h50,HD.out,show fixUp lt b kx dj=du from by unfold fixUp;rw[if_pos hbk,←HU.out,shiftUp_stop lt b ju du (Or.inr hlv3)]];exact rfl)⟩
            ·have hjz:¬(ju:Int)<(b:Int):=by omega
             go_wp2
             go_roundg (5 - (s+1))
             case measure=>omega
             case rel=>exact⟨kx,s+1,du,rfl,by go_num,by omega,wz,by omega,by omega,hC,(show Hid _ from by rw[←HO.out,pi_go lt a b s i kx dk hs HK.out (by omega) h50,HD.out,show fixUp lt b kx dj=du from by unfold fixUp;rw[if_pos hbk,←HU.out,shiftUp_stop lt b ju du (Or.inl hjb')]];exact rfl)⟩
          ·have hbkz:¬(2:Int)≤(b:Int) - (kx:Int):=by omega
           go_wp2
           go_roundg (5 - (s+1))
           case measure=>omega
           case rel=>exact⟨kx,s+1,dj,rfl,by go_num,by omega,wz,by omega,by omega,hB,(show Hid _ from by rw[←HO.out,pi_go lt a b s i kx dk hs HK.out (by omega) h50,HD.out,show fixUp lt b kx dj=dj from by unfold fixUp;rw[if_neg hbk]];exact rfl)⟩
       ·have hkaz:¬(2:Int)≤(kx:Int) - (a:Int):=(by omega);have HD:Hid (fixDown lt a kx (swp dk kx (kx - 1))=(swp dk kx (kx - 1))):=(by show _=_;unfold fixDown;rw[if_neg hka]);by_cases hbk:b - kx≥2
        ·have hbkz:(2:Int)≤(b:Int) - (kx:Int):=(by omega);go_wp2_with (go_at_fn g;refine hl.mono ?_;rintro e w1 ⟨rfl,hw1⟩;have hA1:=hA.grow S hw1;obtain⟨_,c1⟩:=hA1.box hblk;obtain⟨w2,hs2,hI2,hg2w⟩:=S.swap (kx:Int) ((kx:Int) - 1) kx (kx - 1) rfl (by omega) hA1.inv (by omega) (by omega));have hC0:=(hA1.turn hI2 hg2w)
         go_loopg [10] (b - (kx+1)) (fun g4 vj wr4=>∃(ju:Nat) (du:Array α),vj=.int .i64 ju∧kx+1≤ju∧ju≤b∧b - ju≤g4∧Q5 I blk (w.alloc (.cells #[.func (.func g) #[] lb,.func (.func sf) #[] sb] (ρ.t 44))) wr4 du∧Hid (shiftUp lt b ju du=shiftUp lt b (kx+1) (swp dk kx (kx - 1))))
         case atStart=>exact⟨kx+1,(swp dk kx (kx - 1)),by go_num,wz,by omega,wz,hC0,rfl⟩
         case round=>
          clear hC0;obtain⟨ju,du,rfl,hkj,hjb,hg4,hC,HU⟩:=hrel;obtain⟨e0,_⟩:=hC.box hblk;by_cases hjb':ju<b
          ·have hjz:(ju:Int)<(b:Int):=(by omega);have hl3:=S.less (ju:Int) ((ju:Int) - 1) ju (ju - 1) rfl (by omega) hC.inv (by omega) (by omega);cases hlv3:lt du[ju]! du[ju - 1]! with
           | true=>
            rw[hlv3]at hl3;go_wp2_with (go_at_fn g;refine hl3.mono ?_;rintro e w7 ⟨rfl,hg7⟩;have hC1:=hC.grow S hg7;obtain⟨_,e1⟩:=hC1.box hblk;obtain⟨w8,hs8,hI8,hg8⟩:=S.swap (ju:Int) ((ju:Int) - 1) ju (ju - 1) rfl (by omega) hC1.inv (by omega) (by omega))
            go_roundg (b - (ju+1))
            case measure=>omega
            case rel=>exact⟨ju+1,swp du ju (ju - 1),by go_num,by omega,by omega,wz,hC1.turn hI8 hg8,(show Hid _ from by rw[←HU.out,shiftUp_go lt b ju du hjb' hlv3];exact rfl)⟩
           | false=>
            rw[hlv3]at hl3;go_wp2_with (go_at_fn g;refine hl3.mono ?_;rintro e w7 ⟨rfl,hg7⟩;have hC1:=hC.grow S hg7)
            go_roundg (5 - (s+1))
            case measure=>omega
            case rel=>exact⟨kx,s+1,du,rfl,by go_num,by omega,wz,by omega,by omega,hC1,(show Hid _ from by rw[←HO.out,pi_go lt a b s i kx dk hs HK.out (by omega) h50,HD.out,show fixUp lt b kx (swp dk kx (kx - 1))=du from by unfold fixUp;rw[if_pos hbk,←HU.out,shiftUp_stop lt b ju du (Or.inr hlv3)]];exact rfl)⟩
          ·have hjz:¬(ju:Int)<(b:Int):=by omega
           go_wp2
           go_roundg (5 - (s+1))
           case measure=>omega
           case rel=>exact⟨kx,s+1,du,rfl,by go_num,by omega,wz,by omega,by omega,hC,(show Hid _ from by rw[←HO.out,pi_go lt a b s i kx dk hs HK.out (by omega) h50,HD.out,show fixUp lt b kx (swp dk kx (kx - 1))=du from by unfold fixUp;rw[if_pos hbk,←HU.out,shiftUp_stop lt b ju du (Or.inl hjb')]];exact rfl)⟩
        ·exfalso;omega
    ·obtain rfl:kx=b:=(by omega);have hkz:¬(kx:Int)<(kx:Int):=by omega
     go_wp2
     have hv:Sort.partialInsertionSort lt d a kx=(dk,true):=(by unfold Sort.partialInsertionSort;rw[←HO.out,pi_true lt a kx s i dk hs (by rw[←HSc.out,scanSorted_stop lt dk kx kx (Or.inl (by omega))])]);rw[hv];go_ret;exact⟨rfl,hA.inv,hA.off⟩
  ·obtain rfl:s=5:=by omega
   go_wp2
   have hv:Sort.partialInsertionSort lt d a b=(dk,false):=(by unfold Sort.partialInsertionSort;rw[←HO.out,pi_end]);rw[hv];go_ret;exact⟨rfl,hA0.inv,hA0.off⟩
variable {P:Program} {ρ:Ren} {α:Type} [Inhabited α] {lt:α→α→Bool} {g:Nat} {lb:Array Value} {sf:Nat} {sb:Array Value} {blk n n0:Nat} {I:World→Array α→Prop}
theorem Qu8 (L:LaysGg.n14 P ρ)(S:Srt P lt g lb sf sb blk n n0 I)(hO:SWO lt)(hsz:n<4611686018427387904):∀(N a b limit:Nat) (d:Array α) (w:World),b - a<N→I w d→a≤b→b≤n→limit<4611686018427387904→Sort.Below lt a b d →
 Calls P (ρ.f 14) #[.agg #[.func (.func g) #[] lb,.func (.func sf) #[] sb],.int .i64 a,.int .i64 b,.int .i64 limit] w fun e w'=>e=.returned (.tuple #[])∧I w' (pdq lt d a b limit true true)∧w.grownBy w' (some blk):=by
 have mixed:=L.mixed;have t0:=L.t0;have a0:=L.a0;have z0:=L.z0;have v0:=L.v0;have t3:=L.t3;have a3:=L.a3;have z3:=L.z3;have v3:=L.v3;have t4:=L.t4;have a4:=L.a4;have z4:=L.z4;have v4:=L.v4;have t5:=L.t5;have a5:=L.a5;have z5:=L.z5;have v5:=L.v5;have t9:=L.t9;have a9:=L.a9;have z9:=L.z9;have v9:=L.v9;have t26:=L.t26;have a26:=L.a26;have z26:=L.z26;have v26:=L.v26;have t37:=L.t37;have a37:=L.a37;have z37:=L.z37;have v37:=L.v37;have t41:=L.t41;have a41:=L.a41;have z41:=L.z41;have v41:=L.v41;have t44:=L.t44;have a44:=L.a44;have z44:=L.z44;have v44:=L.v44;have t49:=L.t49;have a49:=L.a49;have z49:=L.z49;have v49:=L.v49;have t51:=L.t51;have a51:=L.a51;have z51:=L.z51;have v51:=L.v51;have t53:=L.t53;have a53:=L.a53;have z53:=L.z53;have v53:=L.v53;have t54:=L.t54;have a54:=L.a54;have z54:=L.z54;have v54:=L.v54;have t58:=L.t58;have a58:=L.a58;have z58:=L.z58;have v58:=L.v58;have t60:=L.t60;have a60:=L.a60;have z60:=L.z60;have v60:=L.v60;have t64:=L.t64;have a64:=L.a64;have z64:=L.z64;have v64:=L.v64;have t66:=L.t66;have a66:=L.a66;have z66:=L.z66;have v66:=L.v66;have t67:=L.t67;have a67:=L.a67;have z67:=L.z67;have v67:=L.v67;have u44:=run_underlying L.t44;have eg:=S.eg;have e26:∀args w,(callFunc (ρ.f 26) args).run P w=.ok (.enter (ρ.f 26) args) w:=enters_of L.f26 (by kernel_rfl) rfl;have e27:∀args w,(callFunc (ρ.f 27) args).run P w=.ok (.enter (ρ.f 27) args) w:=enters_of L.f27 (by kernel_rfl) rfl;have e28:∀args w,(callFunc (ρ.f 28) args).run P w=.ok (.enter (ρ.f 28) args) w:=enters_of L.f28 (by kernel_rfl) rfl;have e29:∀args w,(callFunc (ρ.f 29) args).run P w=.ok (.enter (ρ.f 29) args) w:=enters_of L.f29 (by kernel_rfl) rfl;have e30:∀args w,(callFunc (ρ.f 30) args).run P w=.ok (.enter (ρ.f 30) args) w:=enters_of L.f30 (by kernel_rfl) rfl;have e31:∀args w,(callFunc (ρ.f 31) args).run P w=.ok (.enter (ρ.f 31) args) w:=enters_of L.f31 (by kernel_rfl) rfl;have e32:∀args w,(callFunc (ρ.f 32) args).run P w=.ok (.enter (ρ.f 32) args) w:=enters_of L.f32 (by kernel_rfl) rfl;have e33:∀args w,(callFunc (ρ.f 33) args).run P w=.ok (.enter (ρ.f 33) args) w:=enters_of L.f33 (by kernel_rfl) rfl;have e14:∀args w,(callFunc (ρ.f 14) args).run P w=.ok (.enter (ρ.f 14) args) w:=enters_of L.f14 (by kernel_rfl) rfl;intro N
 induction N with
 | zero=>intro _ _ _ _ _ h;exact absurd h (Nat.not_lt_zero _)
 | succ N ih=>
  intro a b limit d w hN hI hab hb hlimit hBel0;have hblk:=S.blt hI;have A0:Q5 I blk (w.alloc (.cells #[.func (.func g) #[] lb,.func (.func sf) #[] sb] (ρ.t 44))) (w.alloc (.cells #[.func (.func g) #[] lb,.func (.func sf) #[] sb] (ρ.t 44))) d:=.start (S.keep hI (World.grownBy_alloc w _ none));go_enter L.f14,BodyGg.n14_ntmps ρ
  go_wp2
  go_loopg [1,2,3,8,9] (b - a) (fun kx s1 s2 s3 s8 s9 wr=>∃(a' b' lim:Nat) (wb wp:Bool) (dk:Array α),s1=.int .i64 a'∧s2=.int .i64 b'∧s3=.int .i64 lim∧s8=.bool wb∧s9=.bool wp ∧
   a'≤b'∧b'≤n∧b' - a'≤kx∧kx≤b - a∧lim≤limit∧Sort.Below lt a' b' dk∧Q5 I blk (w.alloc (.cells #[.func (.func g) #[] lb,.func (.func sf) #[] sb] (ρ.t 44))) wr dk∧pdq lt dk a' b' lim wb wp=pdq lt d a b limit true true)
  case atStart=>exact⟨a,b,limit,true,true,d,rfl,rfl,rfl,rfl,rfl,hab,hb,wz,wz,wz,hBel0,A0,rfl⟩
  case round=>
   clear A0;obtain⟨a',b',lim,wb,wp,dk,rfl,rfl,rfl,rfl,rfl,hab',hb',hkx,hkN,hlim,hBel,hA,heq⟩:=hrel;have hds:=S.size hA.inv;obtain⟨x0,x1⟩:=hA.box hblk;have A:Aside (pdq lt dk a' b' lim wb wp=pdq lt d a b limit true true):=heq;clear heq;by_cases h12:b' - a'≤12
   ·have h12z:(b':Int) - (a':Int)≤12:=(by omega);have hc:=Qhq (ρ:=ρ) { L with } S a' b' dk wr hA.inv hab' hb' hsz;go_wp2_with (go_at_fn (ρ.f 26);refine hc.mono ?_;rintro e w1 ⟨rfl,hI1,hg1⟩)
    (try simp only[Exit.inBlock,Exit.then]);refine bodyPost_ret (results_none rfl _ _ _) rfl ?_
    rw[←A.out,pdq_small h12];have hA1:=hA.turn hI1 hg1;exact⟨rfl,hA1.inv,hA1.off⟩
   ·have h12z:¬((b':Int) - (a':Int)≤12):=(by omega);by_cases hl0:lim=0
    ·subst hl0;have hc:=Qsg (ρ:=ρ) { L with } S a' b' dk wr hA.inv hab' hb' hsz;go_wp2_with (go_at_fn (ρ.f 27);refine hc.mono ?_;rintro e w1 ⟨rfl,hI1,hg1⟩)
     (try simp only[Exit.inBlock,Exit.then]);refine bodyPost_ret (results_none rfl _ _ _) rfl ?_
     rw[←A.out,pdq_heap h12 rfl];have hA1:=hA.turn hI1 hg1;exact⟨rfl,hA1.inv,hA1.off⟩
    ·have hl0z:¬((lim:Int)=0):=(by omega);obtain⟨s1,B1,hc1,s2,B2,hpv,s3,B3⟩:=rd_facts (lt:=lt) (limit:=lim) (wb:=wb) (wp:=wp) hO partialInsertionSort_holds reverseRange_holds (show a'<b' by omega) (show b'≤dk.size by omega) hBel
     go_upto_if 35 with fail
     go_cut [3] from 19 (fun s3 wc=>s3=.int .i64 (rd lt dk a' b' lim wb wp).lim∧Q5 I blk (w.alloc (.cells #[.func (.func g) #[] lb,.func (.func sf) #[] sb] (ρ.t 44))) wc (rd lt dk a' b' lim wb wp).d1)
     case first=>
      cases wb
      ·have hc:=Qqq (ρ:=ρ) { L with } S a' b' dk wr hA.inv hab' hb' hsz;go_wp2_with (go_at_fn (ρ.f 28);refine hc.mono ?_;rintro e w1 ⟨rfl,hI1,hg1⟩)
       go_meet
       case rel=>
        refine⟨?_,hA.turn hI1 hg1⟩;show Value.int .i64 ((lim:Int) - 1)=Value.int .i64 ((lim - 1:Nat):Int);congr 1;omega
      ·go_wp2_with fail
       go_meet
       case rel=>exact⟨rfl,hA⟩
     case rest=>
      obtain⟨rfl,hA1⟩:=hcut;clear x0 x1 hA;obtain⟨y0,y1⟩:=hA1.box hblk;have hc17:Calls P (ρ.f 29) #[.agg #[.func (.func g) #[] lb,.func (.func sf) #[] sb],.int .i64 a',.int .i64 b'] wc fun e w'=>e=.returned (.tuple #[.int .i64 (rd lt dk a' b' lim wb wp).c.1,.int .i64 (hintCode (rd lt dk a' b' lim wb wp).c.2)])∧wc.grownBy w' none:=Qqa (ρ:=ρ) { L with } S a' b' (rd lt dk a' b' lim wb wp).d1 wc hA1.inv (by omega) hb' hsz
      go_upto_if 50 with(go_at_fn (ρ.f 29);refine hc17.mono ?_;rintro e w2 ⟨rfl,hw2⟩)
      have hA2:=hA1.grow S hw2;clear y0 y1 hA1 hw2 hc17;obtain⟨z0,z1⟩:=hA2.box hblk
      go_cut [11,12] from 19 (fun s11 s12 wc=>s11=.int .i64 (rd lt dk a' b' lim wb wp).pivot∧s12=.int .i64 (hintCode (rd lt dk a' b' lim wb wp).hint)∧Q5 I blk (w.alloc (.cells #[.func (.func g) #[] lb,.func (.func sf) #[] sb] (ρ.t 44))) wc (rd lt dk a' b' lim wb wp).d2)
      case first=>
       by_cases hh:(rd lt dk a' b' lim wb wp).c.2=.decreasing
       ·have hcode:hintCode (rd lt dk a' b' lim wb wp).c.2=2:=(by rw[hh];rfl);obtain⟨e2,epv,eht⟩:=rd_dec hh;have hc18:=Qki (ρ:=ρ) { L with } S a' b' (rd lt dk a' b' lim wb wp).d1 w2 hA2.inv hab' hb' hsz;go_wp2_with (go_at_fn (ρ.f 30);refine hc18.mono ?_;rintro e w3 ⟨rfl,hI3,hg3⟩)
        go_meet
        case rel=>
         refine⟨?_,by rw[eht];rfl,by rw[e2];exact hA2.turn hI3 hg3⟩;rw[epv];congr 1;omega
       ·have hcode:¬(hintCode (rd lt dk a' b' lim wb wp).c.2=2):=fun h=>hh (hintCode_two h);obtain⟨e2,epv,eht⟩:=rd_not hh;go_wp2_with fail
        go_meet
        case rel=>exact⟨by rw[epv],by rw[eht],by rw[e2];exact hA2⟩
      case rest=>
       obtain⟨rfl,rfl,hA3⟩:=hcut;clear z0 z1 hA2;obtain⟨v0,v1⟩:=hA3.box hblk
       go_upto_region 16 with fail
       go_cut [12,68] from 19 (fun s12 s68 wx=>s12=.int .i64 (hintCode (rd lt dk a' b' lim wb wp).hint)∧s68=.bool (wb&&wp&&decide ((rd lt dk a' b' lim wb wp).hint=.increasing))∧wx=wc)
       case first=>
        cases wb<;>cases wp<;>cases hh3:(rd lt dk a' b' lim _ _).hint <;>
         (have hcode3:=congrArg hintCode hh3;simp only[hintCode]at hcode3;go_wp2_with fail;go_meet;exact⟨by simp[hh3,hintCode],by simp[hh3,hintCode],rfl⟩)
       case rest=>
        obtain⟨rfl,rfl,rfl⟩:=hcut
        go_upto_if 68 with fail
        go_cut [] from 19 (fun wx=>(rd lt dk a' b' lim wb wp).pi.2=false∧Q5 I blk (w.alloc (.cells #[.func (.func g) #[] lb,.func (.func sf) #[] sb] (ρ.t 44))) wx (rd lt dk a' b' lim wb wp).pi.1)
        case first=>
         cases h68:(wb&&wp&&decide ((rd lt dk a' b' lim wb wp).hint=.increasing))
         ·have epi:=rd_pi_no h68;go_wp2_with fail
          go_meet
          case rel=>exact⟨by rw[epi],by rw[epi];exact hA3⟩
         ·have epi:=rd_pi_yes h68;have hc19:=Ql9 (ρ:=ρ) { L with } S a' b' (rd lt dk a' b' lim wb wp).d2 wc hA3.inv (by omega) hb' hsz;rw[←epi]at hc19;go_wp2_with (go_at_fn (ρ.f 31);refine hc19.mono ?_;rintro e w4 ⟨rfl,hI4,hg4⟩)
          all_goals first
           | (have hp2:(rd lt dk a' b' lim wb wp).pi.2=false:=(by rw[epi];assumption);go_meet;exact⟨hp2,hA3.turn hI4 hg4⟩)
           | (have hp2:(rd lt dk a' b' lim wb wp).pi.2=true:=(by rw[epi];assumption);(try simp only[Exit.inBlock,Exit.then]);refine bodyPost_ret (results_none rfl _ _ _) rfl ?_;rw[←A.out,pdq_done h12 hl0 hp2];exact⟨rfl,hI4,(hA3.turn hI4 hg4).off⟩)
        case rest=>
         obtain⟨hp2,hA5⟩:=hcut;clear v0 v1 hA3;have h5s:=S.size hA5.inv;obtain⟨t0,t1⟩:=hA5.box hblk
         go_upto_region 18 with fail
         go_cut [83] from 19 (fun s83 wx=>s83=.bool (decide (a'>0) && !lt (rd lt dk a' b' lim wb wp).pi.1[a' - 1]! (rd lt dk a' b' lim wb wp).pi.1[(rd lt dk a' b' lim wb wp).pivot]!)∧Q5 I blk (w.alloc (.cells #[.func (.func g) #[] lb,.func (.func sf) #[] sb] (ρ.t 44))) wx (rd lt dk a' b' lim wb wp).pi.1)
         case first=>
          rcases Nat.eq_zero_or_pos a' with ha0|ha0
          ·have ha0z:decide ((a':Int)>0)=false:=decide_eq_false (by omega);go_wp2_with fail
           go_meet
           case rel=>exact⟨by simp[ha0],hA5⟩
          ·have ha0z:(a':Int)>0:=(by omega);have hl:=S.less ((a':Int) - 1) ((rd lt dk a' b' lim wb wp).pivot:Int) (a' - 1) (rd lt dk a' b' lim wb wp).pivot (by omega) rfl hA5.inv (by omega) (by omega);cases hlv:lt (rd lt dk a' b' lim wb wp).pi.1[a' - 1]! (rd lt dk a' b' lim wb wp).pi.1[(rd lt dk a' b' lim wb wp).pivot]! <;>
            (rw[hlv]at hl;go_wp2_with (go_at_fn g;refine hl.mono ?_;rintro e w6 ⟨rfl,hg6⟩);go_meet;exact⟨by simp[ha0,hlv],hA5.grow S hg6⟩)
         case rest=>
          obtain⟨rfl,hA6⟩:=hcut;clear t0 t1 hA5;obtain⟨q0,q1⟩:=hA6.box hblk;cases h87:(decide (a'>0) && !lt (rd lt dk a' b' lim wb wp).pi.1[a' - 1]! (rd lt dk a' b' lim wb wp).pi.1[(rd lt dk a' b' lim wb wp).pivot]!)
          ·obtain⟨mid,ap,d4,hx⟩:∃mid ap d4,partition lt (rd lt dk a' b' lim wb wp).pi.1 a' b' (rd lt dk a' b' lim wb wp).pivot=(mid,ap,d4):=⟨(partition lt (rd lt dk a' b' lim wb wp).pi.1 a' b' (rd lt dk a' b' lim wb wp).pivot).1,(partition lt (rd lt dk a' b' lim wb wp).pi.1 a' b' (rd lt dk a' b' lim wb wp).pivot).2.1,(partition lt (rd lt dk a' b' lim wb wp).pi.1 a' b' (rd lt dk a' b' lim wb wp).pivot).2.2,rfl⟩;obtain⟨r1,r2,r3,r4,r5,r6,r7⟩:=round_part hO (partition_holds lt) hpv.1 hpv.2 (show b'≤(rd lt dk a' b' lim wb wp).pi.1.size by omega) B3 hx;have hc22:=Qs4 (ρ:=ρ) { L with } S a' b' (rd lt dk a' b' lim wb wp).pivot (rd lt dk a' b' lim wb wp).pi.1 wc hA6.inv hpv.1 hpv.2 hb' hsz;rw[hx]at hc22;have X:Aside (partition lt (rd lt dk a' b' lim wb wp).pi.1 a' b' (rd lt dk a' b' lim wb wp).pivot=(mid,ap,d4)):=hx;clear hx
           go_upto_if 109 with(go_at_fn (ρ.f 33);refine hc22.mono ?_;rintro e w7 ⟨rfl,hI7,hg7⟩)
           have hx:=X.out;have hA7:=hA6.turn hI7 hg7;clear q0 q1 hA6;obtain⟨p0,p1⟩:=hA7.box hblk;by_cases h4:mid - a'<b' - mid
           ·have h4z:(mid:Int) - (a':Int)<(b':Int) - (mid:Int):=(by omega);have hih:=ih a' mid (rd lt dk a' b' lim wb wp).lim d4 w7 (by omega) hA7.inv (by omega) (by omega) (Nat.lt_of_le_of_lt (Nat.le_trans rd_lim_le hlim) hlimit) r4;obtain⟨pL,sL⟩:=pdq_sorts lt hO d4 a' mid (rd lt dk a' b' lim wb wp).lim true true (by omega) (by omega) r4;go_wp2_with (go_at_fn (ρ.f 14);refine hih.mono ?_;rintro e w8 ⟨rfl,hI8,hg8⟩)
            go_roundg (b' - (mid+1))
            case measure=>omega
            case rel=>
             refine⟨mid+1,b',(rd lt dk a' b' lim wb wp).lim,decide (mid - a'≥(b' - a') / 8),ap,pdq lt d4 a' mid (rd lt dk a' b' lim wb wp).lim true true,by simp,rfl,rfl,?_,rfl,by omega,by omega,wz,by omega,Nat.le_trans rd_lim_le hlim,(r6 _ pL sL).1,hA7.turn hI8 hg8,?_⟩
             ·exact congrArg Value.bool (eighth (by omega) (by omega))
             ·rw[←A.out,pdq_left h12 hl0 hp2 h87 (by rw[hx];exact⟨r1,r2⟩) (by rw[hx];exact h4),hx]
           ·have h4z:¬((mid:Int) - (a':Int)<(b':Int) - (mid:Int)):=(by omega);have hih:=ih (mid+1) b' (rd lt dk a' b' lim wb wp).lim d4 w7 (by omega) hA7.inv (by omega) (by omega) (Nat.lt_of_le_of_lt (Nat.le_trans rd_lim_le hlim) hlimit) r5;rw[show((mid+1:Nat):Int)=(mid:Int)+1 by omega]at hih;obtain⟨pL,sL⟩:=pdq_sorts lt hO d4 (mid+1) b' (rd lt dk a' b' lim wb wp).lim true true (by omega) (by omega) r5;go_wp2_with (go_at_fn (ρ.f 14);refine hih.mono ?_;rintro e w8 ⟨rfl,hI8,hg8⟩)
            go_roundg (mid - a')
            case measure=>omega
            case rel=>
             refine⟨a',mid,(rd lt dk a' b' lim wb wp).lim,decide (b' - mid≥(b' - a') / 8),ap,pdq lt d4 (mid+1) b' (rd lt dk a' b' lim wb wp).lim true true,rfl,rfl,rfl,?_,rfl,by omega,by omega,wz,by omega,Nat.le_trans rd_lim_le hlim,(r7 _ pL sL).1,hA7.turn hI8 hg8,?_⟩
             ·exact congrArg Value.bool (eighth (by omega) (by omega))
             ·rw[←A.out,pdq_right h12 hl0 hp2 h87 (by rw[hx];exact⟨r1,r2⟩) (by rw[hx];exact h4),hx]
          ·have h87':=h87;simp only[Bool.and_eq_true,decide_eq_true_eq,Bool.not_eq_true']at h87';obtain⟨mid,d4,hx⟩:∃mid d4,partitionEqual lt (rd lt dk a' b' lim wb wp).pi.1 a' b' (rd lt dk a' b' lim wb wp).pivot=(mid,d4):=⟨(partitionEqual lt (rd lt dk a' b' lim wb wp).pi.1 a' b' (rd lt dk a' b' lim wb wp).pivot).1,(partitionEqual lt (rd lt dk a' b' lim wb wp).pi.1 a' b' (rd lt dk a' b' lim wb wp).pivot).2,rfl⟩;obtain⟨r1,r2,r3,r4,_⟩:=round_eq hO (partitionEqual_holds lt) h87'.1 hpv.1 hpv.2 (show b'≤(rd lt dk a' b' lim wb wp).pi.1.size by omega) B3 h87'.2 hx;have hc21:=Qmp (ρ:=ρ) { L with } S a' b' (rd lt dk a' b' lim wb wp).pivot (rd lt dk a' b' lim wb wp).pi.1 wc hA6.inv hpv.1 hpv.2 hb' hsz;rw[hx]at hc21;have X:Aside (partitionEqual lt (rd lt dk a' b' lim wb wp).pi.1 a' b' (rd lt dk a' b' lim wb wp).pivot=(mid,d4)):=hx;clear hx;go_wp2_with (go_at_fn (ρ.f 32);refine hc21.mono ?_;rintro e w7 ⟨rfl,hI7,hg7⟩)
           go_roundg (b' - mid)
           case measure=>omega
           case rel=>
            have hx:=X.out;exact⟨mid,b',(rd lt dk a' b' lim wb wp).lim,wb,wp,d4,rfl,rfl,rfl,rfl,rfl,r2,hb',wz,by omega,Nat.le_trans rd_lim_le hlim,r4,hA6.turn hI7 hg7,by rw[←A.out,pdq_eq h12 hl0 hp2 h87 (by rw[hx];exact⟨r1,r2⟩),hx]⟩
variable {P:Program} {ρ:Ren} {α:Type} [Inhabited α]
theorem grown_setCells (b:Nat):∀(vs:List Value) (o:Nat) (w w':World),w.grownBy w' (some b)→w.grownBy (w'.setCells b o vs) (some b)
 | [],_,_,_,h=>h
 | v::r,o,w,w',h=>by rw[World.setCells];exact grown_setCells b r (o+1) w _ (grown_set h o v)
theorem Qas {enc:α→List Value}{k:Nat}{w w':World}{blk off:Nat}{d:Array α}(h:HoldsK enc k w blk off d){row:Option Nat}(hg:w.grownBy w' row)(hl:blk<w.heap.size)(hr:some blk≠row):HoldsK enc k w' blk off d:=fun j hj=>
 ⟨(World.cell?_of_block (w:=w) (hg.block blk hl hr)).trans (h j hj).1,(World.frozen?_of_block (w:=w) (hg.block blk hl hr)).trans (h j hj).2⟩
theorem Qiu (L:LaysGg.n6 P ρ)(t e:TypeId)(i ie:TypeInfo)(hi:P.info? t=some i)(hd:i.desc=.slice e)(hpk:P.packed t=false)(hie:P.info? e=some ie)(ke:Nat)(hke:∀w,(Extern.Rtype.kind e).run P w=.ok ke w)
 (enc:α→List Value)(k:Nat)(hk:∀x,(enc x).length=k)(hs1:ie.size=k)(hagg:∀w,(isAgg e).run P w=.ok true w)(h1:∀x,∀v∈enc x,v.oneCell'=true)(lt:α→α→Bool)(hO:SWO lt)(g:Nat)(lb:Array Value)
 (eg:∀args w,(callFunc g args).run P w=.ok (.enter g args) w)(blk off c:Nat)(d:Array α)(h2:2≤d.size)(hsz:d.size<4611686018427387904)
 (f:Nat)(hf:P.funcs.findIdx? (·.name == "internal/reflectlite" ++ ".Swapper$"++toString (swapperK d.size ie ke))=some f)
 (gS:Bool)(hx:∀args W,(callFunc f args).run P W=((Extern.ReflectliteSwapper.swap gS args).run P W).andThen fun v w'=>.ok (.value v) w')
 (w:World)(hblk:blk<w.heap.size)(hH:HoldsK enc k w blk off d)
 (hless:∀(W:World) (dk:Array α) (i j:Nat),w.grownBy W (some blk)→HoldsK enc k W blk off dk→dk.size=d.size→i<d.size→j<d.size→Calls P g (#[.int .i64 i,.int .i64 j]++lb) W fun e w'=>e=.returned (.bool (lt dk[i]! dk[j]!))∧W.grownBy w' none) :
 Calls P (ρ.f 6) #[.iface t (.slice (some ⟨blk,off,none⟩) d.size c),.func (.func g) #[] lb] w fun e w'=>e=.returned (.tuple #[])∧∃d',PermIn 0 d.size d d'∧SortedIn lt 0 d.size d'∧HoldsK enc k w' blk off d'∧w.grownBy w' (some blk):=by
 refine Any.sort_Slice_of_pdq L t e i ie hi hd hpk hie ke hke _ d.size c hsz f hf (.func g) #[] lb w _ ?_;have hB:sliceBound P e ie ke (some ⟨blk,off,none⟩) d.size c = #[.slice (some ⟨blk,off,none⟩) d.size c,typeHandle P e]:=by unfold sliceBound;rw[if_neg (swapperK_gt _ _ _ h2)]
 have hg0:w.grownBy (sliceWorld P ρ t (some ⟨blk,off,none⟩) d.size c w) none:=by unfold sliceWorld;exact(World.grownBy_alloc w _ none).andThen (World.grownBy_alloc _ _ none) (fun _ hj=>by cases hj)
 generalize sliceWorld P ρ t (some ⟨blk,off,none⟩) d.size c w=w0 at hg0;rw[hB];have hsw:=swapSwapsK_of_literal gS f hx e ie hie enc k hk hs1 hagg h1 blk off d.size c;have S:Srt P lt g lb f #[.slice (some ⟨blk,off,none⟩) d.size c,typeHandle P e] blk d.size w.heap.size (fun W dk=>w.grownBy W (some blk)∧HoldsK enc k W blk off dk∧dk.size=d.size):=
  { eg:=eg,blt:=fun h=>Nat.lt_of_lt_of_le hblk h.1.size,size:=fun h=>h.2.2,keep:=fun h hg=>⟨h.1.andThen hg (fun _ hj=>by cases hj),Qas h.2.1 hg (Nat.lt_of_lt_of_le hblk h.1.size) (by simp),h.2.2⟩,le:=fun h=>h.1.size,keepAt:=fun h hc hg=>⟨h.1.andThen hg (fun _ hj=>by cases hj;exact .inl hc),Qas h.2.1 hg (Nat.lt_of_lt_of_le hblk h.1.size) (fun e=>by have:=Option.some.inj e;omega),h.2.2⟩,less:=fun x y i j hx hy h hi hj=>by subst hx hy;exact hless _ _ i j h.1 h.2.1 h.2.2 hi hj,swap:=fun {W dk} x y i j hx hy h hi hj=>by subst hx hy;refine⟨_,hsw W dk h.2.1 h.2.2 i j hi hj,⟨h.1.andThen (grown_setCells blk _ _ _ _ (grown_setCells blk _ _ _ _ (grown_refl W _))) (fun _ hj=>.inr hj),?_,by rw[size_swp];exact h.2.2⟩,grown_setCells blk _ _ _ _ (grown_setCells blk _ _ _ _ (grown_refl W _))⟩;have e:=putRowK_swp enc k hk W blk off dk i j (by omega) (by omega);rw[putRowK_self _ _ _ blk off dk h.2.1]at e;rw[e];exact holdsK_putRowK _ _ _ _ _ dk _ h.2.1 (size_swp _ _ _) }
 have hlim:Lib.bitLen d.size<4611686018427387904:=Nat.lt_of_le_of_lt (Lib.bitLen_le d.size 62 (by omega) (by omega)) (by omega);refine(Qu8 (P:=P) (ρ:=ρ) { L with } S hO hsz (d.size+1) 0 d.size (Lib.bitLen d.size) d w0 (by omega) ⟨hg0.but _,Qas hH hg0 hblk (by simp),rfl⟩ (Nat.zero_le _) wz hlim (Or.inl rfl)).mono ?_;rintro e w' ⟨rfl,⟨hg,hh,_⟩,_⟩;have hp:=pdq_sorts lt hO d 0 d.size (Lib.bitLen d.size) true true (Nat.zero_le _) wz (Or.inl rfl);exact⟨rfl,_,hp.1,hp.2,hh,hg⟩
open Go.RowKit Go.Maps
theorem Qpe (x y:Nat×Int):(if ((x.1:Nat):Int)=((y.1:Nat):Int) then decide (x.2<y.2) else decide (((x.1:Nat):Int)<((y.1:Nat):Int)))=Qo x y:=by
 rw[Bool.eq_iff_iff,Kb];split<;>simp<;>omega
theorem Qs7 (Bs blk off n c i j:Nat)(x y:Nat×Int)(W:World)(hs:W.cell? ⟨Bs,0,none⟩=some (.slice (some ⟨blk,off,none⟩) n c))(hi:i<n)(hj:j<n)
 (i0:W.cell? ⟨blk,off+i*4,none⟩=some (.int .u32 (x.1:Nat)))(i1:W.cell? ⟨blk,off+i*4+1,none⟩=some (.int .i64 x.2))(j0:W.cell? ⟨blk,off+j*4,none⟩=some (.int .u32 (y.1:Nat)))(j1:W.cell? ⟨blk,off+j*4+1,none⟩=some (.int .i64 y.2)) :
 Calls Tryz.prog 111 #[.int .i64 i,.int .i64 j,.pointer (some ⟨Bs,0,none⟩)] W fun e w'=>e=.returned (.bool (Qo x y))∧Below W.heap.size W w':=by
 have hi':(i:Int)<(n:Int):=by omega
 have hj':(j:Int)<(n:Int):=by omega
 have HL:=Qpe x y;have HLb:Hid _:=HL;obtain⟨r,hr⟩:∃r,Qo x y=r:=⟨_,rfl⟩;rw[hr]at HLb ⊢;clear HL hr;obtain⟨xp,xl⟩:=x;obtain⟨yp,yl⟩:=y;simp only at i0 i1 j0 j1 HLb;have HC:Hid (∀w',Below W.heap.size W w'→w'.cell? ⟨Bs,0,none⟩=some (.slice (some ⟨blk,off,none⟩) n c)∧w'.cell? ⟨blk,off+i*4,none⟩=some (.int .u32 (xp:Nat))∧w'.cell? ⟨blk,off+i*4+1,none⟩=some (.int .i64 xl)∧w'.cell? ⟨blk,off+j*4,none⟩=some (.int .u32 (yp:Nat))∧w'.cell? ⟨blk,off+j*4+1,none⟩=some (.int .i64 yl)):=fun w' hb=>⟨(hb.cell (p:=⟨Bs,0,none⟩) (lt_of_cell hs)).trans hs,(hb.cell (p:=⟨blk,off+i*4,none⟩) (lt_of_cell i0)).trans i0,(hb.cell (p:=⟨blk,off+i*4+1,none⟩) (lt_of_cell i0)).trans i1,(hb.cell (p:=⟨blk,off+j*4,none⟩) (lt_of_cell i0)).trans j0,(hb.cell (p:=⟨blk,off+j*4+1,none⟩) (lt_of_cell i0)).trans j1⟩;go_enter Tryz.func111,Tryz.ntmps111;go_wp2_with fail
 go_region_held3 (fun w'=>w'.cell? ⟨Bs,0,none⟩=some (.slice (some ⟨blk,off,none⟩) n c)∧w'.cell? ⟨blk,off+i*4,none⟩=some (.int .u32 (xp:Nat))∧w'.cell? ⟨blk,off+i*4+1,none⟩=some (.int .i64 xl)∧w'.cell? ⟨blk,off+j*4,none⟩=some (.int .u32 (yp:Nat))∧w'.cell? ⟨blk,off+j*4+1,none⟩=some (.int .i64 yl)) (go_keep) (first
  | (go_at_call 110;refine(Kn _ _ _ _ _).mono ?_;rintro e w2 ⟨rfl,hb2⟩;rw[HLb.out];have hB2:Below W.heap.size W w2:=(Below.refl _ W).drew.trans hb2;have HB2:Hid (Below W.heap.size W w2):=hB2;obtain⟨z0,z1,z2,z3,z4⟩:=HC.out w2 hB2;clear hb2 hB2))
 go_wp2_with fail;go_ret;exact⟨rfl,HB2.out⟩
open Go.RowKit Go.Maps Go.Sort
def encHd (h:Hd):List Value:=[.int .u32 (h.1.1:Nat),.int .i64 h.1.2,.int .i64 h.2.1,.string ⟨h.2.2.toArray⟩]
def Qm2 (a b:Hd):Bool:=Qo a.1 b.1
theorem Qrt:SWO Qm2 where
 irrefl x:=Vd x.1
 trans x y z h1 h2:=K3 h1 h2
 ntrans x y z h1 h2:=by
  have n1:¬(Qm2 x y=true):=by rw[h1];decide
  have n2:¬(Qm2 y z=true):=by rw[h2];decide
  cases h3:Qm2 x z with
  | false=>rfl
  | true=>
   unfold Qm2 at *;rw[Kb]at *;omega
theorem Qh6:(Tryz.prog.info? 56).map (·.desc)=some (.slice 78):=by kernel_rfl
theorem Qic:(Tryz.prog.info? 78).map (fun i=>(i.size,i.hasPointers,i.bytes))=some (4,true,40):=by kernel_rfl
theorem Qgi (w:World):(Extern.Rtype.kind 78).run Tryz.prog w=.ok 25 w:=by kernel_rfl
theorem Qvh (w:World):(isAgg 78).run Tryz.prog w=.ok true w:=by kernel_rfl
theorem Qac:Tryz.prog.packed 56=false:=by kernel_rfl
theorem swap9:Tryz.prog.funcs.findIdx? (·.name == "internal/reflectlite" ++ ".Swapper$"++toString 9)=some 251:=by kernel_rfl
theorem Qvl:Tryz.prog.funcs.findIdx? (·.name == "internal/reflectlite" ++ ".Swapper$"++toString 1)=some 243:=by kernel_rfl
theorem Qvo:Tryz.prog.funcs.findIdx? (·.name == "internal/reflectlite" ++ ".Swapper$"++toString 2)=some 244:=by kernel_rfl
theorem Qqd (x:Hd):∀v∈encHd x,v.oneCell'=true:=by
 intro v hv;simp only[encHd,List.mem_cons,List.not_mem_nil,or_false]at hv;rcases hv with rfl|rfl|rfl|rfl<;>rfl
theorem Uu {w:World}{g off:Nat}{d:Array Hd}(h:HoldsK encHd 4 w g off d){i:Nat}(hi:i<d.size) :
 w.cell? ⟨g,off+i*4,none⟩=some (.int .u32 (d[i].1.1:Nat))∧w.cell? ⟨g,off+i*4+1,none⟩=some (.int .i64 d[i].1.2)∧w.cell? ⟨g,off+i*4+2,none⟩=some (.int .i64 d[i].2.1)∧w.cell? ⟨g,off+i*4+3,none⟩=some (.string ⟨d[i].2.2.toArray⟩):=by have e:d[i]! = d[i]:=getElem!_pos d i hi;have c0:=(h.cell (i:=i) (c:=0) hi (by decide)).1;have c1:=(h.cell (i:=i) (c:=1) hi (by decide)).1;have c2:=(h.cell (i:=i) (c:=2) hi (by decide)).1;have c3:=(h.cell (i:=i) (c:=3) hi (by decide)).1;rw[e]at c0 c1 c2 c3;exact⟨c0,c1,c2,c3⟩
theorem Qbq {w:World}{base g cap:Nat}{c:List Hd}(h:w.ownsRow base 78 4 (.slice (some ⟨g,0,none⟩) c.length cap) c.length (heldCells c)):HoldsK encHd 4 w g 0 c.toArray:=by
 obtain⟨hl,ho⟩:=h;rcases ho with⟨he,_⟩|⟨g',cap',cur,he,_,hb,h1,h2,h3,h4⟩
 ·cases he
 ·obtain⟨e1,e2⟩:g=g'∧cap=cap':=by simpa using he
  subst e1 e2;intro j hj;have hj':j<c.length*4:=by simpa using hj
  have hi:j / 4<c.length:=by omega
  have ef:(flatK encHd 4 c.toArray)[j]! = (encHd c[j / 4])[j % 4]! := by rw[get_flatK _ _ _ _ (by simpa using hj')];rw[getElem!_pos c.toArray (j / 4) (by simpa using hi)];simp
  obtain⟨a0,a1,a2,a3⟩:=J8 c (j / 4) hi;have hv:(heldCells c)[j]? = some ((encHd c[j / 4])[j % 4]!):=by
   have:j % 4=0∨j % 4=1∨j % 4=2∨j % 4=3:=(by omega);rcases this with hm|hm|hm|hm
   ·rw[show j / 4*4=j by omega]at a0;rw[a0,hm];rfl
   ·rw[show j / 4*4+1=j by omega]at a1;rw[a1,hm];rfl
   ·rw[show j / 4*4+2=j by omega]at a2;rw[a2,hm];rfl
   ·rw[show j / 4*4+3=j by omega]at a3;rw[a3,hm];rfl
  have hcur:cur.toList[j]? = some ((encHd c[j / 4])[j % 4]!):=by rw[←hv,←h4,List.getElem?_take,if_pos (by omega)]
  refine⟨?_,by simp[World.frozen?,hb]⟩;rw[Nat.zero_add,ef];simp only[World.cell?,hb];rw[←Array.getElem?_toList,hcur];rfl
theorem Qgz {d:Array Hd}(hap:d.toList.Pairwise (fun p q=>p.1≠q.1))(hs:SortedIn Qm2 0 d.size d):Y7 d.toList:=by
 unfold Y7;rw[List.pairwise_iff_getElem]at *;intro i j hi hj hij;have h1:=hs i j (Nat.zero_le _) hij (by simpa using hj);rw[getElem!_pos d j (by simpa using hj),getElem!_pos d i (by simpa using hi)]at h1;have h2:=hap i j hi hj hij;simp only[Array.getElem_toList]at h2 ⊢;exact Qck h1 (fun e=>h2 e.symm)
theorem Qrf (Bs g cap:Nat)(c:List Hd)(w:World)(hs:w.cell? ⟨Bs,0,none⟩=some (.slice (some ⟨g,0,none⟩) c.length cap))(hBs:Bs≠g)(hcap:c.length≤cap)(hg:g<w.heap.size)(hH:HoldsK encHd 4 w g 0 c.toArray)(h2:2≤c.length)(hsz:c.length≤1000)(hap:c.Pairwise (fun p q=>p.1≠q.1)) :
 Calls Tryz.prog 108 #[.iface 56 (.slice (some ⟨g,0,none⟩) c.length cap),.func (.func 111) #[] #[.pointer (some ⟨Bs,0,none⟩)]] w fun e w'=>e=.returned (.tuple #[])∧∃c',c'.Perm c∧Y7 c'∧Q4 w' (.slice (some ⟨g,0,none⟩) c.length cap) c'∧w.grownBy w' (some g)∧w'.frozen? ⟨g,2,none⟩=false:=by
 obtain⟨i,hi,hd⟩:=Option.map_eq_some_iff.1 Qh6;obtain⟨ie,hie,hm⟩:=Option.map_eq_some_iff.1 Qic;obtain⟨m1,m2,m3⟩:ie.size=4∧ie.hasPointers=true∧ie.bytes=40:=by simpa using hm
 have hk9:Lib.swapperK c.toArray.size ie 25=9:=by have e0:(c.toArray.size==0)=false:=beq_eq_false_iff_ne.2 (by rw[List.size_toArray];omega);have e1:(c.toArray.size==1)=false:=beq_eq_false_iff_ne.2 (by rw[List.size_toArray];omega);simp only[Lib.swapperK,e0,e1,m2,m3];rfl
 have hBl:=lt_of_cell hs;have hlen:c.length=c.toArray.size:=by simp
 have H:=Qiu (α:=Hd) Tryz.laysGg6 56 78 i ie hi hd Qac hie 25 Qgi encHd 4 (fun _=>rfl) m1 Qvh Qqd Qm2 Qrt 111 #[.pointer (some ⟨Bs,0,none⟩)]
  (enters_of Tryz.func111 (by kernel_rfl) rfl) g 0 cap c.toArray (by simpa using h2) (by simp;omega) 251 (by rw[hk9];exact swap9) false
  (fun args W=>run_callFunc_extern Tryz.func251 (by kernel_rfl) (by kernel_rfl) (by kernel_rfl) (e:=Extern.ReflectliteSwapper.swap false) (by kernel_rfl) args W) w hg hH
  (fun W dk i j hgW hHk hdk hi hj=>by have hsW:W.cell? ⟨Bs,0,none⟩=some (.slice (some ⟨g,0,none⟩) c.toArray.size cap):=(by rw[←hlen];exact cell_kept hs hgW hBl (fun e=>hBs (Option.some.inj e)));obtain⟨a0,a1,_⟩:=Uu hHk (i:=i) (by omega);obtain⟨b0,b1,_⟩:=Uu hHk (i:=j) (by omega);refine(Qs7 Bs g 0 c.toArray.size cap i j dk[i].1 dk[j].1 W hsW hi hj a0 a1 b0 b1).mono ?_;rintro e w' ⟨rfl,hb⟩;refine⟨?_,Qw hb⟩;rw[getElem!_pos dk i (by omega),getElem!_pos dk j (by omega)];rfl)
 rw[←hlen]at H;refine H.mono ?_;rintro e w' ⟨rfl,d',hp,hso,hh,hg'⟩;have hsz':d'.size=c.length:=by rw[hp.1];simp
 have hpm:d'.toList.Perm c:=by have h:=hp.2.2;rw[Array.extract_eq_self_of_le (by omega),Array.extract_eq_self_of_le (by simp)]at h;simpa using h
 refine⟨rfl,d'.toList,hpm,Qgz (((hpm.pairwise_iff (fun {_ _} hne=>Ne.symm hne))).2 hap) (by rw[hsz'];exact hso),⟨some ⟨g,0,none⟩,cap,by simp[hsz'],fun i hi => ?_⟩,hg',by have:=(hh 2 (by simp;omega)).2;rwa [Nat.zero_add]at this⟩;have hi':i<d'.size:=by simpa using hi
 obtain⟨a0,a1,a2,a3⟩:=Uu hh (i:=i) hi';exact⟨g,0,rfl,⟨Nat.lt_of_lt_of_le hg hg'.size,by simp[hsz'];omega⟩,a0,a1,a2,a3⟩
structure Qfc (w wr:World)(p:Option Addr)(cp:Nat)(c:List Hd):Prop where
 cell:wr.cell? ⟨w.heap.size,0,none⟩=some (.slice p c.length cp)
 free:wr.frozen? ⟨w.heap.size,0,none⟩=false
 row:wr.ownsRow (w.heap.size+2) 78 4 (.slice p c.length cp) c.length (heldCells c)
 below:Below w.heap.size w wr
 size:w.heap.size+2≤wr.heap.size
theorem Qfc.grow {w wr w':World}{p:Option Addr}{cp:Nat}{c:List Hd}{row:Option Nat}(h:Qfc w wr p cp c)(hg:wr.grownBy w' row)(hr:∀k,row=some k→k=w.heap.size+1):Qfc w w' p cp c:=by
 have hne:some w.heap.size≠row:=fun e=>by have:=hr _ e.symm;omega
 have hl:w.heap.size<wr.heap.size:=by have:=h.size;omega
 refine⟨cell_kept h.cell hg hl hne,(World.frozen?_of_block (w:=wr) (hg.block _ hl hne)).trans h.free,h.row.kept hg ?_,?_,Nat.le_trans h.size hg.size⟩
 ·cases hv:(Value.slice p c.length cp).ownBlock with
  | none=>exact .inl rfl
  | some k=>
   refine .inr (fun e => ?_);have h1:=(h.row.lt k hv).1;have h2:=hr k e.symm;omega
 ·exact h.below.trans ⟨hg.os,hg.tape,hg.output,hg.size,fun k hk=>hg.block k (by have:=h.below.size;omega) (fun e=>by have:=hr k e.symm;omega)⟩
def Jn (base:Nat)(w:World)(v:Value)(l:List Hd):Prop:=Q4 w v l∧(l≠[]→∃g c,v=.slice (some ⟨g,0,none⟩) l.length c∧base≤g∧w.frozen? ⟨g,2,none⟩=false)
theorem Qgp (w:World)(os:Array Obj):w.grownBy (grow w os) none:=⟨rfl,rfl,rfl,by simp[grow],fun k hk _=>by simp[grow,Array.getElem?_append_left hk]⟩
theorem Qk1 {U:Int}(p:Addr)(F:Nat→Prop)(l:List Hd)(w:World)(hok:Qd U l)(hP:Q0 w p F l) :
 Calls Tryz.prog 36 #[.pointer (some p)] w fun e w'=>∃v,e=.returned v∧Jn w.heap.size w' v l∧Below w.heap.size w w':=by
 obtain⟨B,b,rfl,hB,hM,hne,rfl⟩:=hP;have hap:=hM.apart;have hBl:=hB.lt;have hbl:=hM.lt;have hmany:=hok.many;have HR:Hid (Y7 l):=hok.rise;have hal:=(Below.refl _ w).alloc wz (.cells #[.slice none 0 0] 56);have hS:=Blk.new w #[.slice none 0 0] 56;have hB1:=hB.next hal;have hM1:=of_below hM hal;have q0:=hB1.cell (i:=0) rfl;have hs1:(w.alloc (.cells #[.slice none 0 0] 56)).heap.size=w.heap.size+1:=by simp
 obtain⟨ti,hi,hz0,hz1,hz2⟩:=info_parts Qc8;go_enter Tryz.func36,Tryz.ntmps36;go_wp2_with (first|(at_range;refine wp_range_kit idPieces _ rfl _ 168 rfl 172 Tryz.underlying168 b l rfl hM1 ?_;intro w0 hr0 hg0 hs0)|go_in);go_frame;rw[hs1]at hr0 hs0 ⊢;have A0:Qfc w w0 none 0 []:=⟨cell_kept (hS.cell (i:=0) rfl) hg0 hS.lt (by simp),(World.frozen?_of_block (hg0.block _ hS.lt (by simp))).trans (hS.frozen 0),World.ownsRow_nil _ _ _ _,hal.trans ((Qe hg0).mono hal.size),by omega⟩;have HB0:Hid (w0.cell? ⟨B,0,none⟩=some (.map (some b))):=cell_kept q0 hg0 hB1.lt (by simp);clear hB hM hB1 hM1 hok hS q0
 go_loopw [11] (fun _ wr=>∃(left:Nat×Int→Bool) (cnt cp:Nat) (c:List Hd) (p:Option Addr),idPieces.Rng wr b (w.heap.size+1) l left cnt∧c.Perm (l.filter (fun h => !left h.1))∧Qfc w wr p cp c) (fun _ wr=>wr.rangeLeft b (w.heap.size+1))
 case atStart=>
  refine⟨_,_,0,[],none,hr0,?_,A0⟩;rw[List.filter_eq_nil_iff.2 (fun h hm=>by simp only[Bool.not_eq_true',Bool.not_eq_false,decide_eq_true_eq];simp;exact⟨_,_,hm⟩)]
 case round=>
  clear hr0 A0 hg0;obtain⟨left,cnt,cp,c,p,hrg,hcp,hA⟩:=hrel;go_wp2_with (first|(at_next;refine wp_next_kit idPieces _ rfl _ rfl b (w.heap.size+1) l left cnt rfl hrg ?_ ?_)|go_in)
  ·intro h0;rw[List.filter_eq_self.2 (fun h hm=>by have:=h0 h.1.1 h.1.2 h.2.1 h.2.2 hm;simp[this])]at hcp;have c0:=hA.cell;have hsz:=hA.size;obtain⟨i,hi',hd⟩:=Option.map_eq_some_iff.1 Qh6;obtain⟨ie,hie,hmm⟩:=Option.map_eq_some_iff.1 Qic;have hlc:c.length≤250:=(by rw[hcp.length_eq];exact hmany);by_cases h2:2≤c.length
   ·obtain⟨g,cp',hv,h3,h4⟩:=Xq hA.row (by omega);obtain⟨rfl,rfl⟩:p=some ⟨g,0,none⟩∧cp=cp':=(by simpa using hv);obtain⟨hgl,hgs⟩:=hA.row.lt g rfl;clear hi' hd hie hmm;have hsrt:=Qrf w.heap.size g cp c wr c0 (by omega) h3 hgs (Qbq hA.row) h2 (by omega) ((hcp.pairwise_iff (fun {_ _} hne=>Ne.symm hne)).2 hap);go_wp2_with (go_at_call 108;refine hsrt.mono ?_;rintro e w5 ⟨rfl,c',hp',hr',hat',hg',hfz'⟩;have c5:=cell_kept c0 hg' (by simp only;omega) (fun e=>by have:=Option.some.inj e;simp only at this;omega));go_ret;have ec:c'=l:=Qks hr' HR.out (fun x=>by rw[hp'.mem_iff,hcp.mem_iff]);refine⟨_,rfl,⟨by rw[←ec];exact hat',fun _=>⟨g,cp,by rw[←ec,hp'.length_eq];rfl,by omega,hfz'⟩⟩,hA.below.trans ⟨hg'.os,hg'.tape,hg'.output,hg'.size,fun k hk=>hg'.block k (by omega) (fun e=>by have:=Option.some.inj e;omega)⟩⟩
   ·have ec:Hid (c=l):=by
     show _=_
     match c,l,hcp,h2 with
     | [],l,h,_=>exact(List.nil_perm.1 h).symm▸rfl
     | [x],l,h,_=>exact(List.perm_singleton.1 h.symm).symm
     | x::y::r,l,h,h2=>simp at h2
    have htiny:Calls Tryz.prog 108 #[.iface 56 (.slice p c.length cp),.func (.func 111) #[] #[.pointer (some ⟨w.heap.size,0,none⟩)]] wr fun e w'=>e=.returned (.tuple #[])∧∃os,w'=grow wr os:=by
     have h01:c.length=0∨c.length=1:=(by omega);rcases h01 with h01|h01
     ·exact Any.sort_Slice_tiny Tryz.laysGg6 56 78 i ie hi' hd Qac hie 25 Qgi p c.length cp (by omega) 243 (by rw[h01];exact Qvl) _ _ _ wr
     ·exact Any.sort_Slice_tiny Tryz.laysGg6 56 78 i ie hi' hd Qac hie 25 Qgi p c.length cp (by omega) 244 (by rw[h01];exact Qvo) _ _ _ wr
    clear hi' hd hie hmm;go_wp2_with (go_at_call 108;refine htiny.mono ?_;rintro e w5 ⟨rfl,os,rfl⟩;have hgr:wr.grownBy (grow wr os) none:=Qgp wr os;have c5:=cell_kept c0 hgr (by simp only;omega) (by simp));go_ret;exact⟨_,rfl,⟨by rw[←ec.out];exact(Q4.of_row hA.row).below (Qe hgr),fun hne=>by rw[←ec.out]at hne ⊢;have hpos:0<c.length:=List.length_pos_iff.2 hne;obtain⟨g,cp',hv,h3,h4⟩:=Xq hA.row (by omega);obtain⟨rfl,rfl⟩:p=some ⟨g,0,none⟩∧cp=cp':=(by simpa using hv);obtain⟨hgl,hgs⟩:=hA.row.lt g rfl;have hz:=(Qbq hA.row 2 (by simp;omega)).2;rw[Nat.zero_add]at hz;exact⟨g,cp,rfl,by omega,(frozen?_grow _ _ _ hgs).trans hz⟩⟩,hA.below.trans ((Qe hgr).mono hA.below.size)⟩
  ·intro xp xl u t w1 cnt1 hm hlx hrg1 hlt hg1 hs1' hen;change(Instr.entry (.pointer (some ⟨w.heap.size+1,0,none⟩))).run Tryz.prog w1=.ok (.tuple #[idV (xp:Nat) xl,Xz (u,t)]) w1 at hen;have hfl:=Yo hap (p:=left) hm hlx;have HCP:Hid ((c++[((xp,xl),u,t)]).Perm (l.filter (fun y => !(left y.1 && !decide (y.1=(xp,xl)))))):=List.perm_append_comm.trans ((hcp.cons _).trans hfl.symm);have hlen:c.length≤250:=(by rw[hcp.length_eq];exact Nat.le_trans (List.length_filter_le _ _) hmany);have hA1:=hA.grow hg1 (fun k hk=>by cases hk;rfl);have hg2:=(World.grownBy_alloc w1 (.cells #[.int .u32 (xp:Nat),.int .i64 xl] 25) none).andThen (World.grownBy_alloc _ (.cells #[.string ⟨t.toArray⟩,.int .i64 u] 172) none) (fun _ hj=>by cases hj);have hI:=(Blk.new w1 #[.int .u32 (xp:Nat),.int .i64 xl] 25).next (Qe (World.grownBy_alloc _ (.cells #[.string ⟨t.toArray⟩,.int .i64 u] 172) none));have hPc:=Blk.new (w1.alloc (.cells #[.int .u32 (xp:Nat),.int .i64 xl] 25)) #[.string ⟨t.toArray⟩,.int .i64 u] 172;have hA2:=hA1.grow hg2 (fun k hk=>by cases hk);have hrg2:=hrg1.kept hg2 (by simp) (by simp);rw[hs1']at hI;have hs2:(w1.alloc (.cells #[.int .u32 (xp:Nat),.int .i64 xl] 25)).heap.size=wr.heap.size+1:=(by simp[hs1']);rw[hs2]at hPc;have i0:=hI.cell (i:=0) rfl;have i1:=hI.cell (i:=1) rfl;have p0:=hPc.cell (i:=0) rfl;have p1:=hPc.cell (i:=1) rfl;have b0:=hA2.cell;have HS3:Hid (wr.heap.size+1+1=((w1.alloc (.cells #[.int .u32 (xp:Nat),.int .i64 xl] 25)).alloc (.cells #[.string ⟨t.toArray⟩,.int .i64 u] 172)).heap.size):=(by show _=_;simp[hs1']);have HA2:Hid (Qfc w ((w1.alloc (.cells #[.int .u32 (xp:Nat),.int .i64 xl] 25)).alloc (.cells #[.string ⟨t.toArray⟩,.int .i64 u] 172)) p cp c):=hA2;clear hA2 hA1 hA hrg1 hfl hI hPc;go_wp2_with (at_builtin;(refine wpList_append_own _ rfl (.tmp 16) (.tmp 23) 56 rfl (w.heap.size+2) 78 ti (heldV ((0,0),0,[])) 4 40 Tryz.underlying56 hi hz0 hz1 hz2 rfl (by decide) (.slice p c.length cp) c.length (heldCells c) rfl (HA2.out.row.alloc _) ⟨wr.heap.size+1+1,0,none⟩ 1 1 (heldCells [((xp,xl),u,t)]) rfl rfl (Qag _ ((xp,xl),u,t) _ _ HS3.out) (Zm _) (by unfold maxLen;omega) (by omega) (by have:=HA2.out.size;simp at this ⊢;omega) ?_;have hown:=HA2.out.row.lt;have hsz2:=HA2.out.size;intro v4 w4 ho4 hg4 _;have hgA:((w1.alloc (.cells #[.int .u32 (xp:Nat),.int .i64 xl] 25)).alloc (.cells #[.string ⟨t.toArray⟩,.int .i64 u] 172)).grownBy w4 (Value.slice p c.length cp).ownBlock:=((World.grownBy_alloc _ _ none).but _).andThen hg4 (fun _ hj=>.inr hj);obtain⟨p4,cp4,hv4,_⟩:=Q4.of_row (l:=c++[((xp,xl),u,t)]) (by rw[List.length_append,Z4];exact ho4);subst hv4;have hnS:some w.heap.size≠(Value.slice p c.length cp).ownBlock:=(fun e=>by have:=(hown _ e.symm).1;omega);have c4:=cell_kept HA2.out.cell hgA (Nat.lt_of_lt_of_le (Nat.lt_add_of_pos_right (by decide)) hsz2) hnS;have f4:w4.frozen? ⟨w.heap.size,0,none⟩=false:=(World.frozen?_of_block (hgA.block _ (Nat.lt_of_lt_of_le (Nat.lt_add_of_pos_right (by decide)) hsz2) hnS)).trans HA2.out.free));have hL1:(c++[((xp,xl),u,t)]).length=c.length+1:=(by simp);rw[hL1]at ho4;have hnR:some (w.heap.size+1)≠(Value.slice p c.length cp).ownBlock:=(fun e=>by have:=(hown _ e.symm).1;omega);have hnb:some b≠(Value.slice p c.length cp).ownBlock:=(fun e=>by have:=(hown _ e.symm).1;omega);have hrg4:=hrg2.kept hgA hnb hnR;have hgS:=grown_set (grown_refl w4 (some w.heap.size)) 0 (.slice p4 (c.length+1) cp4);have hrg5:=hrg4.kept hgS (fun e=>by have:=Option.some.inj e;omega) (fun e=>by have:=Option.some.inj e;omega);have hl4:w.heap.size<w4.heap.size:=Nat.lt_of_lt_of_le (Nat.lt_of_lt_of_le (Nat.lt_add_of_pos_right (by decide)) hsz2) hgA.size;have HA5:Hid (Qfc w (w4.setCell ⟨w.heap.size,0,none⟩ (.slice p4 (c.length+1) cp4)) p4 cp4 (c++[((xp,xl),u,t)])):=by
    have hb4:Below w.heap.size w w4:=HA2.out.below.trans ⟨hgA.os,hgA.tape,hgA.output,hgA.size,fun k hk=>hgA.block k (Nat.lt_of_lt_of_le hk (Nat.le_trans (Nat.le_add_right _ 2) hsz2)) (fun e=>by have:=(hown _ e.symm).1;omega)⟩;refine⟨by rw[hL1];exact World.cell?_setCell_same _ _ _ c4,by simpa using f4,World.ownsRow.kept (w:=w4) ?_ hgS ?_,hb4.setCell (p:=⟨w.heap.size,0,none⟩) wz _,by simpa[World.setCell]using Nat.le_trans hsz2 hgA.size⟩
    ·rw[hL1,Z4];exact ho4
    ·rw[hL1];cases hv:(Value.slice p4 (c.length+1) cp4).ownBlock with
     | none=>exact .inl rfl
     | some k=>exact .inr (fun e=>by have:=(ho4.lt k hv).1;have:=Option.some.inj e;omega)
   go_roundw
   case rel=>exact⟨fun y=>left y && !decide (y=(xp,xl)),cnt1,cp4,c++[((xp,xl),u,t)],p4,hrg5,HCP.out,HA5.out⟩
   case measure=>rw[hrg5.left_eq,hrg.left_eq];exact hlt
theorem Qrz {U:Int}(p:Addr)(F:Nat→Prop)(l:List Hd)(w:World)(hok:Qd U l)(hP:Q0 w p F l) :
 Calls Tryz.prog 36 #[.pointer (some p)] w fun e w'=>∃v,e=.returned v∧Q4 w' v l∧Below w.heap.size w w':=
 (Qk1 p F l w hok hP).mono fun _ _ ⟨v,h1,h2,h3⟩=>⟨v,h1,h2.1,h3⟩
theorem Qrs {a:Nat→Addr}(s:ByteArray)(p:Addr)(F:Nat→Prop)(l:List Hd)(w:World)(hs:s.size≤50000)(hok:Qd 1000000 l)(hE:Je [1,6,9] w a)(hP:Q0 w p F l) :
 Calls Tryz.prog 176 #[.pointer (some p),.string s] w (Qff a w p F (Zu l s.data.toList)):=by
 by_cases hn:1≤s.size∧s.size≤64
 ·cases hf:Z8 l (Qc s.data.toList)with
  | none=>
   by_cases hfull:250≤l.length
   ·exact Qqo s p F l w hs hE hP hn.1 hn.2 hf hfull
   ·exact Qr9 s p F l w hs hE hP hn.1 hn.2 hf (by omega)
  | some k=>
   obtain⟨hk,_⟩:=Jg hf;obtain⟨hu0,hu1⟩:=hok.uses (Int.le_refl _) _ (List.getElem_mem hk);by_cases ht:l[k].2.2=s.data.toList
   ·exact Qrq s p F l w hs hE hP hn.1 hn.2 hok.many k l[k].2.1 l[k].2.2 hf hk rfl ht hu0 hu1
   ·exact Qnc s p F l w hs hE hP hn.1 hn.2 k l[k].2.1 l[k].2.2 hf hk rfl ht
 ·exact Qnn s p F l w hs hE hP hn
end Go.Proofs.YtjngnnbondejaabGreatDoor
