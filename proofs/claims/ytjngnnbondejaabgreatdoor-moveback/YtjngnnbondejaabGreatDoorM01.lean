/- A part. -/
import Derived.Stop.Asserts
import Derived.Test.YtjngnnbondejaabGreatDoorRows
import Derived.LaidSub
import Derived.Stop.LaidErr
import Derived.Stop.Joined
import Derived.RangeFuncRecord
import Derived.Maps.Ext
import Derived.Lib.ItoaNum
import Derived.WalkSpells
import Derived.WalkLawsBesides
import Derived.BigQuiet
set_option maxHeartbeats 4000000
namespace Go.Proofs.YtjngnnbondejaabGreatDoor
theorem wz{n:Nat}:n≤n:=Nat.le_refl n
open Go.RowKit Go.Extern.Stop Go.Stop Go.Extern
theorem Qr6 (t:Value)(w:World) :
 Calls Tryz.prog 164 #[.nilIface,t] w fun e w'=>e=.returned (.bool false)∧w'=w:=by
 go_enter Tryz.func164,Tryz.ntmps164
 go_wp2
 go_ret;exact⟨rfl,rfl⟩
theorem Qf0 (t:Addr)(w:World):(ReflectliteValue.unpack (.iface 225 (.pointer (some t)))).run Tryz.prog w
 = .ok (.agg #[.pointer (some ⟨19,225,none⟩),.pointer (some ⟨w.heap.size,0,none⟩),.int .u64 150]) (w.alloc (.cells #[.pointer (some t)] 225)):=by kernel_rfl
theorem Qow (a:Addr)(w:World):(ReflectliteValue.methodAny (ReflectliteValue.valueError "reflectlite.Value.Type" 0) (fun t _ _ _=>ReflectliteType.toType t) #[.agg #[.pointer (some ⟨19,225,none⟩),.pointer (some a),.int .u64 150]]).run Tryz.prog w
 = .ok (.iface 313 (.agg #[.pointer (some ⟨19,225,none⟩)])) w:=by kernel_rfl
theorem Qd2 (h:Value)(w:World):(Go.method 554 313 (.agg #[h]) "Kind").run Tryz.prog w=.ok (383,h) w:=by kernel_rfl
theorem Qot (w:World):((ReflectliteType.abiMethod fun t=>(fun a:Nat=>Value.int IntKind.u8 (a:Int)) <$> Rtype.kind t) #[.pointer (some ⟨19,225,none⟩)]).run Tryz.prog w=.ok (.int .u8 22) w:=by kernel_rfl
theorem Qtn (w:World):((ReflectliteType.abiMethod fun t=>(fun a:Nat=>Value.int IntKind.u8 (a:Int)) <$> Rtype.kind t) #[.pointer (some ⟨19,223,none⟩)]).run Tryz.prog w=.ok (.int .u8 22) w:=by kernel_rfl
theorem Qom (v:Value)(f:Value→Sem Value)(g:Array Value→Sem Value):ReflectliteValue.method.match_2 (fun _=>Sem Value) #[v] f g=f v:=rfl
theorem Qkk (a:Addr)(w:World):(ReflectliteValue.parts (.agg #[.pointer (some ⟨19,225,none⟩),.pointer (some a),.int .u64 150])).run Tryz.prog w=.ok (some (225,a,150)) w:=by kernel_rfl
theorem Qlr (a p:Addr)(W:World)(ha:W.cell? a=some (.pointer (some p))) :
 (ReflectliteValue.method (ReflectliteValue.valueError "reflectlite.Value.IsNil" 0) ReflectliteValue.isNil #[.agg #[.pointer (some ⟨19,225,none⟩),.pointer (some a),.int .u64 150]]).run Tryz.prog W=.ok (.bool false) W:=by unfold ReflectliteValue.method;rw[Qom];simp only[Sem.run_bind,Qkk,Result.andThen];simp[ReflectliteValue.isNil,loadVar,isAgg,underlying,Tryz.underlying225,ha,Result.andThen]
theorem Qek (h:Value)(w:World):(Go.method 554 313 (.agg #[h]) "Elem").run Tryz.prog w=.ok (395,.agg #[h]) w:=by kernel_rfl
theorem Gj (h:Value)(w:World):(Go.method 554 313 (.agg #[h]) "Implements").run Tryz.prog w=.ok (396,.agg #[h]) w:=by kernel_rfl
theorem K7 (h:Value)(w:World):(Go.method 554 313 (.agg #[h]) "AssignableTo").run Tryz.prog w=.ok (393,.agg #[h]) w:=by kernel_rfl
theorem Qo8 (w:World):(ReflectliteType.method ReflectliteType.elem #[.agg #[.pointer (some ⟨19,225,none⟩)]]).run Tryz.prog w=.ok (.iface 313 (.agg #[.pointer (some ⟨19,223,none⟩)])) w:=by kernel_rfl
theorem Qc9 (w:World):(ReflectliteType.relation "Implements" ReflectliteType.implements_ #[.agg #[.pointer (some ⟨19,223,none⟩)],.iface 313 (.agg #[.pointer (some ⟨19,42,none⟩)])]).run Tryz.prog w=.ok (.bool true) w:=by kernel_rfl
theorem Qtv (v:Value)(w:World):(ReflectliteType.typeOf #[.iface 223 v]).run Tryz.prog w=.ok (.iface 313 (.agg #[.pointer (some ⟨19,223,none⟩)])) w:=by kernel_rfl
theorem Qi8 (w:World):(ReflectliteType.relation "AssignableTo" ReflectliteType.assignableTo #[.agg #[.pointer (some ⟨19,223,none⟩)],.iface 313 (.agg #[.pointer (some ⟨19,223,none⟩)])]).run Tryz.prog w=.ok (.bool true) w:=by kernel_rfl
theorem Qax (v:Value)(w:World):(ReflectliteType.typeOf #[.iface 425 v]).run Tryz.prog w=.ok (.iface 313 (.agg #[.pointer (some ⟨19,425,none⟩)])) w:=by kernel_rfl
theorem Qjv (w:World):(ReflectliteType.relation "AssignableTo" ReflectliteType.assignableTo #[.agg #[.pointer (some ⟨19,425,none⟩)],.iface 313 (.agg #[.pointer (some ⟨19,223,none⟩)])]).run Tryz.prog w=.ok (.bool false) w:=by kernel_rfl
theorem Qp8 (e:Addr)(w:World):(ReflectliteValue.unpack (.iface 223 (.pointer (some e)))).run Tryz.prog w
 = .ok (.agg #[.pointer (some ⟨19,223,none⟩),.pointer (some ⟨w.heap.size,0,none⟩),.int .u64 150]) (w.alloc (.cells #[.pointer (some e)] 223)):=by kernel_rfl
theorem Qrn (w:World):(Rtype.elem? 225).run Tryz.prog w=.ok (some 223) w:=by kernel_rfl
theorem Qw9 (p:Addr)(w:World):(ReflectliteValue.mk 223 p ReflectliteValue.flagAddr).run Tryz.prog w=.ok (.agg #[.pointer (some ⟨19,223,none⟩),.pointer (some p),.int .u64 406]) w:=by kernel_rfl
theorem Qt9 (a p:Addr)(W:World)(ha:W.cell? a=some (.pointer (some p))) :
 (ReflectliteValue.method (ReflectliteValue.valueError "reflectlite.Value.Elem" 0) ReflectliteValue.elem #[.agg #[.pointer (some ⟨19,225,none⟩),.pointer (some a),.int .u64 150]]).run Tryz.prog W
  = .ok (.agg #[.pointer (some ⟨19,223,none⟩),.pointer (some p),.int .u64 406]) W:=by
 unfold ReflectliteValue.method;rw[Qom];simp only[Sem.run_bind,Qkk,Result.andThen];simp[ReflectliteValue.elem,loadVar,isAgg,underlying,Tryz.underlying225,ha,Result.andThen,Qrn,Qw9]
theorem Qsv (v x:Value)(f:Value→Value→Sem Value)(g:Array Value→Sem Value):ReflectliteValue.set.match_3 (fun _=>Sem Value) #[v,x] f g=f v x:=rfl
theorem Qte (a:Addr)(w:World):(ReflectliteValue.parts (.agg #[.pointer (some ⟨19,223,none⟩),.pointer (some a),.int .u64 406])).run Tryz.prog w=.ok (some (223,a,406)) w:=by kernel_rfl
theorem Qu7 (a:Addr)(w:World):(ReflectliteValue.parts (.agg #[.pointer (some ⟨19,223,none⟩),.pointer (some a),.int .u64 150])).run Tryz.prog w=.ok (some (223,a,150)) w:=by kernel_rfl
theorem Qsu (w:World):(Rtype.directlyAssignable 223 223).run Tryz.prog w=.ok true w:=by kernel_rfl
theorem Qwm (ta b e:Addr)(old:Value)(W:World)(hb:W.cell? b=some (.pointer (some e)))(ht:W.cell? ta=some old)(hf:W.frozen? ta=false) :
 (ReflectliteValue.set #[.agg #[.pointer (some ⟨19,223,none⟩),.pointer (some ta),.int .u64 406],.agg #[.pointer (some ⟨19,223,none⟩),.pointer (some b),.int .u64 150]]).run Tryz.prog W
  = .ok (.tuple #[]) (W.setCell ta (.pointer (some e))):=by
 unfold ReflectliteValue.set;rw[Qsv];dsimp only;simp only[Sem.run_bind,Qte,Qu7,Result.andThen];simp[ReflectliteValue.flagAddr,loadVar,isAgg,underlying,Tryz.underlying223,hb,Result.andThen,Qsu,storeVar,Value.cells,storeCells,Addr.add];rw[run_store Tryz.prog W ta _ _ (by rfl)];simp[ht,hf]
theorem Qv3 (v:Value)(xT:TypeId)(w:World):(Instr.typeAssert (.iface 425 v) xT 355 true).run Tryz.prog w=.ok (.tuple #[.nilIface,.bool false]) w:=run_typeAssert_lacksB Tryz.underlying355 (by kernel_rfl) (by kernel_rfl) v xT w
theorem Qua (v:Value)(xT:TypeId)(w:World):(Instr.typeAssert (.iface 425 v) xT 362 true).run Tryz.prog w=.ok (.tuple #[.nilIface,.bool false]) w:=run_typeAssert_lacksB Tryz.underlying362 (by kernel_rfl) (by kernel_rfl) v xT w
theorem Qcj (v:Value)(xT:TypeId)(w:World):(Instr.typeAssert (.iface 425 v) xT 358 true).run Tryz.prog w=.ok (.tuple #[.nilIface,.bool false]) w:=run_typeAssert_lacksB Tryz.underlying358 (by kernel_rfl) (by kernel_rfl) v xT w
theorem Qah (v:Value)(xT:TypeId)(w:World):(Instr.typeAssert (.iface 425 v) xT 360 true).run Tryz.prog w=.ok (.tuple #[.nilIface,.bool false]) w:=run_typeAssert_lacksB Tryz.underlying360 (by kernel_rfl) (by kernel_rfl) v xT w
theorem Que (v:Value)(xT:TypeId)(w:World):(Instr.typeAssert (.iface 223 v) xT 362 true).run Tryz.prog w=.ok (.tuple #[.nilIface,.bool false]) w:=run_typeAssert_lacksB Tryz.underlying362 (by kernel_rfl) (by kernel_rfl) v xT w
theorem Qeo (v:Value)(xT:TypeId)(w:World):(Instr.typeAssert (.iface 223 v) xT 358 true).run Tryz.prog w=.ok (.tuple #[.iface 223 v,.bool true]) w:=run_typeAssert_hasB Tryz.underlying358 (by kernel_rfl) v xT w
theorem Qbo (v:Value)(w:World):(Go.method 554 223 v "Unwrap").run Tryz.prog w=.ok (387,v) w:=by kernel_rfl
theorem Qur (v:Value)(t:Addr)(w:World)(hg:w.cell? ⟨12,0,none⟩=some (.iface 313 (.agg #[.pointer (some ⟨19,42,none⟩)]))) :
 Calls Tryz.prog 164 #[.iface 425 v,.iface 225 (.pointer (some t))] w fun ev w'=>ev=.returned (.bool false)∧w'=(((w.alloc (.cells #[.pointer (some t)] 225)).alloc (.cells #[.pointer (some ⟨19,225,none⟩),.pointer (some ⟨w.heap.size,0,none⟩),.int .u64 150] 251)).alloc (.cells #[.pointer (some ⟨19,225,none⟩),.pointer (some ⟨w.heap.size,0,none⟩),.int .u64 150] 251)):=by
 have h6 := @run_callFunc_extern Tryz.prog 185 _ (fun args=>ReflectliteValue.unpack (args.getD 0 (.tuple #[]))) Tryz.func185 (by kernel_rfl) (by kernel_rfl) (by kernel_rfl) (by kernel_rfl);have h7 := @run_callFunc_extern Tryz.prog 229 _ (ReflectliteValue.methodAny (ReflectliteValue.valueError "reflectlite.Value.Type" 0) (fun t _ _ _=>ReflectliteType.toType t)) Tryz.func229 (by kernel_rfl) (by kernel_rfl) (by kernel_rfl) (by kernel_rfl);have h8 := @run_callFunc_extern Tryz.prog 230 _ (ReflectliteValue.method (ReflectliteValue.valueError "reflectlite.Value.IsNil" 0) ReflectliteValue.isNil) Tryz.func230 (by kernel_rfl) (by kernel_rfl) (by kernel_rfl) (by kernel_rfl);have h27 := @run_callFunc_extern Tryz.prog 383 _ (ReflectliteType.abiMethod fun t=>do pure (.int .u8 (←Rtype.kind t))) Tryz.func383 (by kernel_rfl) (by kernel_rfl) (by kernel_rfl) (by kernel_rfl);have h37 := @run_callFunc_extern Tryz.prog 395 _ (ReflectliteType.method ReflectliteType.elem) Tryz.func395 (by kernel_rfl) (by kernel_rfl) (by kernel_rfl) (by kernel_rfl);have h38 := @run_callFunc_extern Tryz.prog 396 _ (ReflectliteType.relation "Implements" ReflectliteType.implements_) Tryz.func396 (by kernel_rfl) (by kernel_rfl) (by kernel_rfl) (by kernel_rfl);have h10 := @run_callFunc_extern Tryz.prog 232 _ ReflectliteType.typeOf Tryz.func232 (by kernel_rfl) (by kernel_rfl) (by kernel_rfl) (by kernel_rfl);have h35 := @run_callFunc_extern Tryz.prog 393 _ (ReflectliteType.relation "AssignableTo" ReflectliteType.assignableTo) Tryz.func393 (by kernel_rfl) (by kernel_rfl) (by kernel_rfl) (by kernel_rfl);have tO:=Qax;have mA:=K7;have a25:=Qjv;have f6:=Qf0;have f7:=Qow;have mK:=Qd2;have mE:=Qek;have mI:=Gj;have k27:=Qot;have k25:=Qtn;have e27:=Qo8;have i25:=Qc9;have nE:=Qv3;have uE:=Qcj;have vE:=Qah;have n8:=Qlr ⟨w.heap.size,0,none⟩ t ((w.alloc (.cells #[.pointer (some t)] 225)).alloc (.cells #[.pointer (some ⟨19,225,none⟩),.pointer (some ⟨w.heap.size,0,none⟩),.int .u64 150] 251)) (by simp);have hlt:12<w.heap.size:=by
  rcases Nat.lt_or_ge 12 w.heap.size with h|h
  ·exact h
  ·simp[World.cell?,Array.getElem?_eq_none h]at hg
 have hg2:((w.alloc (.cells #[.pointer (some t)] 225)).alloc (.cells #[.pointer (some ⟨19,225,none⟩),.pointer (some ⟨w.heap.size,0,none⟩),.int .u64 150] 251)).cell? ⟨12,0,none⟩=some (.iface 313 (.agg #[.pointer (some ⟨19,42,none⟩)])):=by rw[World.cell?_alloc_lt _ _ ⟨12,0,none⟩ (by simp;omega),World.cell?_alloc_lt _ _ ⟨12,0,none⟩ hlt];exact hg
 go_enter Tryz.func164,Tryz.ntmps164
 go_wp2
 refine wp_loop_rounds 1 ?_;rw[rounds_succ]
 go_wp2
 go_ret;exact⟨rfl,rfl⟩
theorem Qv7 (e t:Addr)(old:Value)(w:World)(hg:w.cell? ⟨12,0,none⟩=some (.iface 313 (.agg #[.pointer (some ⟨19,42,none⟩)])))(ht0:w.cell? t=some old)(hf0:w.frozen? t=false) :
 Calls Tryz.prog 164 #[.iface 223 (.pointer (some e)),.iface 225 (.pointer (some t))] w fun ev w'=>ev=.returned (.bool true)∧w'=((((w.alloc (.cells #[.pointer (some t)] 225)).alloc (.cells #[.pointer (some ⟨19,225,none⟩),.pointer (some ⟨w.heap.size,0,none⟩),.int .u64 150] 251)).alloc (.cells #[.pointer (some ⟨19,225,none⟩),.pointer (some ⟨w.heap.size,0,none⟩),.int .u64 150] 251)).alloc (.cells #[.pointer (some e)] 223)).setCell t (.pointer (some e)):=by
 have h6 := @run_callFunc_extern Tryz.prog 185 _ (fun args=>ReflectliteValue.unpack (args.getD 0 (.tuple #[]))) Tryz.func185 (by kernel_rfl) (by kernel_rfl) (by kernel_rfl) (by kernel_rfl);have h7 := @run_callFunc_extern Tryz.prog 229 _ (ReflectliteValue.methodAny (ReflectliteValue.valueError "reflectlite.Value.Type" 0) (fun t _ _ _=>ReflectliteType.toType t)) Tryz.func229 (by kernel_rfl) (by kernel_rfl) (by kernel_rfl) (by kernel_rfl);have h8 := @run_callFunc_extern Tryz.prog 230 _ (ReflectliteValue.method (ReflectliteValue.valueError "reflectlite.Value.IsNil" 0) ReflectliteValue.isNil) Tryz.func230 (by kernel_rfl) (by kernel_rfl) (by kernel_rfl) (by kernel_rfl);have h27 := @run_callFunc_extern Tryz.prog 383 _ (ReflectliteType.abiMethod fun t=>do pure (.int .u8 (←Rtype.kind t))) Tryz.func383 (by kernel_rfl) (by kernel_rfl) (by kernel_rfl) (by kernel_rfl);have h37 := @run_callFunc_extern Tryz.prog 395 _ (ReflectliteType.method ReflectliteType.elem) Tryz.func395 (by kernel_rfl) (by kernel_rfl) (by kernel_rfl) (by kernel_rfl);have h38 := @run_callFunc_extern Tryz.prog 396 _ (ReflectliteType.relation "Implements" ReflectliteType.implements_) Tryz.func396 (by kernel_rfl) (by kernel_rfl) (by kernel_rfl) (by kernel_rfl);have h10 := @run_callFunc_extern Tryz.prog 232 _ ReflectliteType.typeOf Tryz.func232 (by kernel_rfl) (by kernel_rfl) (by kernel_rfl) (by kernel_rfl);have h35 := @run_callFunc_extern Tryz.prog 393 _ (ReflectliteType.relation "AssignableTo" ReflectliteType.assignableTo) Tryz.func393 (by kernel_rfl) (by kernel_rfl) (by kernel_rfl) (by kernel_rfl);have h11 := @run_callFunc_extern Tryz.prog 296 _ (ReflectliteValue.method (ReflectliteValue.valueError "reflectlite.Value.Elem" 0) ReflectliteValue.elem) Tryz.func296 (by kernel_rfl) (by kernel_rfl) (by kernel_rfl) (by kernel_rfl);have h12 := @run_callFunc_extern Tryz.prog 297 _ ReflectliteValue.set Tryz.func297 (by kernel_rfl) (by kernel_rfl) (by kernel_rfl) (by kernel_rfl);have tO:=Qtv;have mA:=K7;have a25:=Qi8;have v25:=Qp8;have f6:=Qf0;have f7:=Qow;have mK:=Qd2;have mE:=Qek;have mI:=Gj;have k27:=Qot;have k25:=Qtn;have e27:=Qo8;have i25:=Qc9;have n8:=Qlr ⟨w.heap.size,0,none⟩ t ((w.alloc (.cells #[.pointer (some t)] 225)).alloc (.cells #[.pointer (some ⟨19,225,none⟩),.pointer (some ⟨w.heap.size,0,none⟩),.int .u64 150] 251)) (by simp);have hlt:12<w.heap.size:=by
  rcases Nat.lt_or_ge 12 w.heap.size with h|h
  ·exact h
  ·simp[World.cell?,Array.getElem?_eq_none h]at hg
 have hg2:((w.alloc (.cells #[.pointer (some t)] 225)).alloc (.cells #[.pointer (some ⟨19,225,none⟩),.pointer (some ⟨w.heap.size,0,none⟩),.int .u64 150] 251)).cell? ⟨12,0,none⟩=some (.iface 313 (.agg #[.pointer (some ⟨19,42,none⟩)])):=by rw[World.cell?_alloc_lt _ _ ⟨12,0,none⟩ (by simp;omega),World.cell?_alloc_lt _ _ ⟨12,0,none⟩ hlt];exact hg
 have htl:t.block<w.heap.size:=by
  rcases Nat.lt_or_ge t.block w.heap.size with h|h
  ·exact h
  ·simp[World.cell?,Array.getElem?_eq_none h]at ht0
 have el:=Qt9 ⟨w.heap.size,0,none⟩ t (((w.alloc (.cells #[.pointer (some t)] 225)).alloc (.cells #[.pointer (some ⟨19,225,none⟩),.pointer (some ⟨w.heap.size,0,none⟩),.int .u64 150] 251)).alloc (.cells #[.pointer (some ⟨19,225,none⟩),.pointer (some ⟨w.heap.size,0,none⟩),.int .u64 150] 251)) (by rw[World.cell?_alloc_lt _ _ ⟨w.heap.size,0,none⟩ (by simp;omega)];simp);have st:=Qwm t ⟨w.heap.size+1+1+1,0,none⟩ e old ((((w.alloc (.cells #[.pointer (some t)] 225)).alloc (.cells #[.pointer (some ⟨19,225,none⟩),.pointer (some ⟨w.heap.size,0,none⟩),.int .u64 150] 251)).alloc (.cells #[.pointer (some ⟨19,225,none⟩),.pointer (some ⟨w.heap.size,0,none⟩),.int .u64 150] 251)).alloc (.cells #[.pointer (some e)] 223))
  (by rw[World.cell?_alloc_at _ _ _ _ (by simp)];rfl)
  (by rw[World.cell?_alloc_lt _ _ t (by simp;omega),World.cell?_alloc_lt _ _ t (by simp;omega),World.cell?_alloc_lt _ _ t (by simp;omega),World.cell?_alloc_lt _ _ t htl];exact ht0)
  (by rw[World.frozen?_alloc_old _ _ t (by simp;omega),World.frozen?_alloc_old _ _ t (by simp;omega),World.frozen?_alloc_old _ _ t (by simp;omega),World.frozen?_alloc_old _ _ t (Nat.ne_of_lt htl)];exact hf0)
 go_enter Tryz.func164,Tryz.ntmps164
 go_wp2
 refine wp_loop_rounds 1 ?_;rw[rounds_succ]
 go_wp2
 go_ret;exact⟨rfl,rfl⟩
theorem Gh (w:World):((Extern.ReflectliteType.method fun t=>do Extern.Rtype.noPackHeld "Comparable" t;(fun a=>Value.bool a.comparable) <$> typeInfo t) #[.agg #[.pointer (some ⟨19,425,none⟩)]]).run Tryz.prog w=.ok (.bool true) w:=by kernel_rfl
theorem Xi (v:Value)(w:World):(Go.method 554 313 v "Comparable").run Tryz.prog w=.ok (394,v) w:=by kernel_rfl
theorem Qo1:(Tryz.prog.info? 425).map (·.comparable)=some true:=by kernel_rfl
theorem Qpl:(Tryz.prog.info? 443).map (·.size)=some 1:=by kernel_rfl
theorem Qvg (a:Addr)(w:World) :
 Calls Tryz.prog 165 #[.iface 425 (.pointer (some a)),.iface 425 (.pointer (some a))] w fun e w'=>e=.returned (.bool true)∧w'=w:=by
 obtain⟨i,hi,hcmp⟩:=Option.map_eq_some_iff.1 Qo1;obtain⟨j,hj,hjs⟩:=Option.map_eq_some_iff.1 Qpl;have h8 := @run_callFunc_extern Tryz.prog 232 _ Extern.ReflectliteType.typeOf Tryz.func232 (by kernel_rfl) (by kernel_rfl) (by kernel_rfl) (by kernel_rfl);have h32 := @run_callFunc_extern Tryz.prog 394 _ (Extern.ReflectliteType.method fun t=>do Extern.Rtype.noPackHeld "Comparable" t;pure (.bool (←typeInfo t).comparable)) Tryz.func394 (by kernel_rfl) (by kernel_rfl) (by kernel_rfl) (by kernel_rfl);have tT:=Qax;have cT:=Gh;have mR:=Xi;have heq:=run_eql_iface_ptr_same (P:=Tryz.prog) w a Tryz.underlying42 Tryz.underlying425 hi hcmp hj;go_enter Tryz.func165,Tryz.ntmps165
 go_wp2
 refine wp_loop_rounds 1 ?_;rw[rounds_succ]
 go_wp2
 go_ret;exact⟨rfl,rfl⟩
theorem Qr2 (a b:Addr)(ca cb:Array Value)(ta tb:TypeId)(w:World)(hne:a≠b)(ha:w.heap[a.block]? = some (.cells ca ta (0,0)))(hb:w.heap[b.block]? = some (.cells cb tb (0,0))) :
 Calls Tryz.prog 165 #[.iface 425 (.pointer (some a)),.iface 425 (.pointer (some b))] w fun e w'=>e=.returned (.bool false)∧w'=w:=by
 obtain⟨i,hi,hcmp⟩:=Option.map_eq_some_iff.1 Qo1;obtain⟨j,hj,hjs⟩:=Option.map_eq_some_iff.1 Qpl;have h8 := @run_callFunc_extern Tryz.prog 232 _ Extern.ReflectliteType.typeOf Tryz.func232 (by kernel_rfl) (by kernel_rfl) (by kernel_rfl) (by kernel_rfl);have h32 := @run_callFunc_extern Tryz.prog 394 _ (Extern.ReflectliteType.method fun t=>do Extern.Rtype.noPackHeld "Comparable" t;pure (.bool (←typeInfo t).comparable)) Tryz.func394 (by kernel_rfl) (by kernel_rfl) (by kernel_rfl) (by kernel_rfl);have tT:=Qax;have cT:=Gh;have mR:=Xi;have nE:=Qua;have uE:=Qcj;have vE:=Qah;have heq:=run_eql_iface_ptr_other (P:=Tryz.prog) w Tryz.underlying42 Tryz.underlying425 hi hcmp hj (by rw[hjs];decide) hne ha hb;go_enter Tryz.func165,Tryz.ntmps165
 go_wp2
 refine wp_loop_rounds 1 ?_;rw[rounds_succ]
 go_wp2
 go_ret;exact⟨rfl,rfl⟩
theorem Qhi (pb po:Nat)(b:Addr)(w:World)(h1:w.cell? ⟨pb,po+1,none⟩=some (.iface 425 (.pointer (some b)))) :
 Calls Tryz.prog 165 #[.iface 223 (.pointer (some ⟨pb,po,none⟩)),.iface 425 (.pointer (some b))] w fun e w'=>e=.returned (.bool true)∧w'=w:=by
 obtain⟨i,hi,hcmp⟩:=Option.map_eq_some_iff.1 Qo1;obtain⟨j,hj,hjs⟩:=Option.map_eq_some_iff.1 Qpl;have h8 := @run_callFunc_extern Tryz.prog 232 _ Extern.ReflectliteType.typeOf Tryz.func232 (by kernel_rfl) (by kernel_rfl) (by kernel_rfl) (by kernel_rfl);have h32 := @run_callFunc_extern Tryz.prog 394 _ (Extern.ReflectliteType.method fun t=>do Extern.Rtype.noPackHeld "Comparable" t;pure (.bool (←typeInfo t).comparable)) Tryz.func394 (by kernel_rfl) (by kernel_rfl) (by kernel_rfl) (by kernel_rfl);have tT:=Qax;have cT:=Gh;have mR:=Xi;have nW:=Que;have uW:=Qeo;have mU:=Qbo;have heq:=run_eql_iface_ptr_same (P:=Tryz.prog) w b Tryz.underlying42 Tryz.underlying425 hi hcmp hj;have hty:=run_eql_iface_types (P:=Tryz.prog) 223 425 (.pointer (some ⟨pb,po,none⟩)) (.pointer (some b)) Tryz.underlying42 (by decide) w;go_enter Tryz.func165,Tryz.ntmps165
 go_wp2
 refine wp_loop_rounds 2 ?_;rw[rounds_succ]
 go_wp2
 rw[rounds_succ]
 go_wp2
 go_ret;exact⟨rfl,rfl⟩
theorem Qg6 (pb po:Nat)(b a:Addr)(ca cb:Array Value)(ta tb:TypeId)(w:World)(h1:w.cell? ⟨pb,po+1,none⟩=some (.iface 425 (.pointer (some a))))(hne:a≠b)(ha:w.heap[a.block]? = some (.cells ca ta (0,0)))(hb:w.heap[b.block]? = some (.cells cb tb (0,0))) :
 Calls Tryz.prog 165 #[.iface 223 (.pointer (some ⟨pb,po,none⟩)),.iface 425 (.pointer (some b))] w fun e w'=>e=.returned (.bool false)∧w'=w:=by
 obtain⟨i,hi,hcmp⟩:=Option.map_eq_some_iff.1 Qo1;obtain⟨j,hj,hjs⟩:=Option.map_eq_some_iff.1 Qpl;have h8 := @run_callFunc_extern Tryz.prog 232 _ Extern.ReflectliteType.typeOf Tryz.func232 (by kernel_rfl) (by kernel_rfl) (by kernel_rfl) (by kernel_rfl);have h32 := @run_callFunc_extern Tryz.prog 394 _ (Extern.ReflectliteType.method fun t=>do Extern.Rtype.noPackHeld "Comparable" t;pure (.bool (←typeInfo t).comparable)) Tryz.func394 (by kernel_rfl) (by kernel_rfl) (by kernel_rfl) (by kernel_rfl);have tT:=Qax;have cT:=Gh;have mR:=Xi;have nE:=Qua;have uE:=Qcj;have vE:=Qah;have nW:=Que;have uW:=Qeo;have mU:=Qbo;have heq:=run_eql_iface_ptr_other (P:=Tryz.prog) w Tryz.underlying42 Tryz.underlying425 hi hcmp hj (by rw[hjs];decide) hne ha hb;have hty:=run_eql_iface_types (P:=Tryz.prog) 223 425 (.pointer (some ⟨pb,po,none⟩)) (.pointer (some b)) Tryz.underlying42 (by decide) w;go_enter Tryz.func165,Tryz.ntmps165
 go_wp2
 refine wp_loop_rounds 2 ?_;rw[rounds_succ]
 go_wp2
 rw[rounds_succ]
 go_wp2
 go_ret;exact⟨rfl,rfl⟩
def Xn:Nat→Nat
 | 0=>4|1=>5|2=>2|3=>6|4=>0|5=>3
 | 6=>1|7=>7|8=>8|9=>9|10=>10|_=>11
abbrev sentV (a:Nat→Addr)(i:Nat):Value:=.iface 425 (.pointer (some (a i)))
structure J6 (w:World)(a:Nat→Addr):Prop where
 glob:∀i,i<12→w.cell? ⟨Xn i,0,none⟩=some (sentV a i)
 row:∀i,i<12→∃c t,w.heap[(a i).block]? = some (.cells c t (0,0))
 ne:∀i j,i<12→j<12→a i=a j→i=j
 et:w.cell? ⟨12,0,none⟩=some (.iface 313 (.agg #[.pointer (some ⟨19,42,none⟩)]))
theorem lt_of_cell {w:World}{b o:Nat}{v:Value}(h:w.cell? ⟨b,o,none⟩=some v):b<w.heap.size:=by
 rcases Nat.lt_or_ge b w.heap.size with h'|h'
 ·exact h'
 ·simp[World.cell?,Array.getElem?_eq_none h']at h
theorem lt_of_block {w:World}{b:Nat}{o:Obj}(h:w.heap[b]? = some o):b<w.heap.size:=by
 rcases Nat.lt_or_ge b w.heap.size with h'|h'
 ·exact h'
 ·simp[Array.getElem?_eq_none h']at h
theorem J6.below {w0 w w':World}{a:Nat→Addr}(h:J6 w a)(hb:Below w0.heap.size w w')(hle:w.heap.size≤w0.heap.size):J6 w' a where
 glob i hi:=by rw[hb.cell (p:=⟨Xn i,0,none⟩) (Nat.lt_of_lt_of_le (lt_of_cell (h.glob i hi)) hle)];exact h.glob i hi
 row i hi:=by obtain⟨c,t,hc⟩:=h.row i hi;exact⟨c,t,by rw[hb.block _ (Nat.lt_of_lt_of_le (lt_of_block hc) hle)];exact hc⟩
 ne:=h.ne
 et:=by rw[hb.cell (p:=⟨12,0,none⟩) (Nat.lt_of_lt_of_le (lt_of_cell h.et) hle)];exact h.et
structure Qvt (w:World)(a:Nat→Addr)(B:Nat)(wr:World):Prop where
 below:Below w.heap.size w wr
 cell:∀j,j<12→wr.cell? ⟨B,j,none⟩=some (sentV a j)
theorem Qs6 (w:World):Calls Tryz.prog 81 #[.nilIface] w fun e w'=>e=.returned (.tuple #[.int .i64 0,.int .i64 (-1)])∧w'=w:=by
 go_enter Tryz.func81,Tryz.ntmps81
 go_wp2
 go_ret2;exact⟨rfl,rfl⟩
theorem Qil (v:Value)(t:Addr)(w:World)(hg:w.cell? ⟨12,0,none⟩=some (.iface 313 (.agg #[.pointer (some ⟨19,42,none⟩)]))) :
 Calls Tryz.prog 164 #[.iface 425 v,.iface 225 (.pointer (some t))] w fun ev w'=>ev=.returned (.bool false)∧Below w.heap.size w w':=by refine(Qur v t w hg).mono ?_;rintro e w' ⟨rfl,rfl⟩;exact⟨rfl,(((Below.refl _ _).alloc wz _).alloc (by simp) _).alloc (by simp;omega) _⟩
theorem Qk8 (e t:Addr)(old:Value)(w:World)(hg:w.cell? ⟨12,0,none⟩=some (.iface 313 (.agg #[.pointer (some ⟨19,42,none⟩)])))(ht0:w.cell? t=some old)(hf0:w.frozen? t=false) :
 Calls Tryz.prog 164 #[.iface 223 (.pointer (some e)),.iface 225 (.pointer (some t))] w fun ev w'=>ev=.returned (.bool true)∧Below t.block w w'∧w'.cell? t=some (.pointer (some e)):=by
 have htl:t.block<w.heap.size:=by
  rcases Nat.lt_or_ge t.block w.heap.size with h|h
  ·exact h
  ·simp[World.cell?,Array.getElem?_eq_none h]at ht0
 refine(Qv7 e t old w hg ht0 hf0).mono ?_;rintro ev w' ⟨rfl,rfl⟩;refine⟨rfl,(((((Below.refl _ _).alloc (by omega) _).alloc (by simp;omega) _).alloc (by simp;omega) _).alloc (by simp;omega) _).setCell wz _,?_⟩;refine World.cell?_setCell_same _ _ _ (u:=old) ?_;rw[World.cell?_alloc_lt _ _ t (by simp;omega),World.cell?_alloc_lt _ _ t (by simp;omega),World.cell?_alloc_lt _ _ t (by simp;omega),World.cell?_alloc_lt _ _ t htl];exact ht0
theorem Qqf (a:Nat→Addr)(k:Nat)(hk:k<12)(w:World)(hE:J6 w a) :
 Calls Tryz.prog 81 #[sentV a k] w fun e w'=>e=.returned (.tuple #[.int .i64 ((k:Int)+1),.int .i64 (-1)])∧Below w.heap.size w w':=by
 have hET:=hE.et;have let':=lt_of_cell hET;go_enter Tryz.func81,Tryz.ntmps81;go_wp2_with fail;refine(Qil _ _ _ ?_).mono ?_
 ·rw[World.cell?_alloc_lt _ _ ⟨12,0,none⟩ let'];exact hET
 rintro e w1 ⟨rfl,hb1⟩;have hb:Below w.heap.size w w1:=((Below.refl _ _).alloc wz _).trans (hb1.mono (by simp));have hE1:=hE.below hb wz;clear hb1 hET let';have g0:=hE1.glob 0 (by omega);have g1:=hE1.glob 1 (by omega);have g2:=hE1.glob 2 (by omega);have g3:=hE1.glob 3 (by omega);have g4:=hE1.glob 4 (by omega);have g5:=hE1.glob 5 (by omega);have g6:=hE1.glob 6 (by omega);have g7:=hE1.glob 7 (by omega);have g8:=hE1.glob 8 (by omega);have g9:=hE1.glob 9 (by omega);have g10:=hE1.glob 10 (by omega);have g11:=hE1.glob 11 (by omega);simp only[Xn]at g0 g1 g2 g3 g4 g5 g6 g7 g8 g9 g10 g11;go_wp2_with fail;clear g0 g1 g2 g3 g4 g5 g6 g7 g8 g9 g10 g11
 go_loopw [3,30] (fun q i wr=>∃j:Nat,j≤k∧q=.int .i64 (-1)∧i=.int .i64 j∧Qvt w a w1.heap.size wr) (fun _ i _=>12 - (intOf i).toNat)
 case atStart=>
  refine⟨0,Nat.zero_le _,rfl,rfl,hb.alloc hb.size _,?_⟩;intro j hj;have:j=0∨j=1∨j=2∨j=3∨j=4∨j=5∨j=6∨j=7∨j=8∨j=9∨j=10∨j=11:=by omega
  rcases this with rfl|rfl|rfl|rfl|rfl|rfl|rfl|rfl|rfl|rfl|rfl|rfl<;>simp
 case round=>
  obtain⟨j,hj,rfl,rfl,hC⟩:=hrel;have hEr:=hE.below hC.below wz;have hcj:=hC.cell j (by omega);have hlt:(j:Int)<12:=by omega
  by_cases hjk:j=k
  ·subst hjk;go_wp2_with fail;refine(Qvg _ _).mono ?_;rintro e w' ⟨rfl,rfl⟩;go_wp2_with fail;go_ret2;exact⟨rfl,hC.below⟩
  ·obtain⟨ca,ta,ha⟩:=hEr.row k (by omega);obtain⟨cb,tb,hbb⟩:=hEr.row j (by omega);have hne:a k≠a j:=fun h=>hjk ((hEr.ne k j (by omega) (by omega) h).symm);go_wp2_with fail;refine(Qr2 _ _ ca cb ta tb _ hne ha hbb).mono ?_;rintro e w' ⟨rfl,rfl⟩;go_wp2_with fail;go_roundw
   case rel=>exact⟨j+1,by omega,rfl,by go_num,hC⟩
   case measure=>simp[intOf];omega
theorem Qm9 (a:Nat→Addr)(k:Nat)(hk:k<12)(pb po:Nat)(at0:Int)(w:World)(hE:J6 w a)(h0:w.cell? ⟨pb,po,none⟩=some (.int .i64 at0))(h1:w.cell? ⟨pb,po+1,none⟩=some (sentV a k)) :
 Calls Tryz.prog 81 #[.iface 223 (.pointer (some ⟨pb,po,none⟩))] w fun e w'=>e=.returned (.tuple #[.int .i64 ((k:Int)+1),.int .i64 at0])∧Below w.heap.size w w':=by
 have hET:=hE.et;have let':=lt_of_cell hET;go_enter Tryz.func81,Tryz.ntmps81;go_wp2_with fail;refine(Qk8 _ _ (.pointer none) _ ?_ (by simp) (by simp)).mono ?_
 ·rw[World.cell?_alloc_lt _ _ ⟨12,0,none⟩ let'];exact hET
 rintro e w1 ⟨rfl,hb1,hf1⟩;have hb:Below w.heap.size w w1:=((Below.refl _ _).alloc wz _).trans (hb1.mono (by simp));have h01:w1.cell? ⟨pb,po,none⟩=some (.int .i64 at0):=by rw[hb.cell (p:=⟨pb,po,none⟩) (lt_of_cell h0)];exact h0
 have hE1:=hE.below hb wz;clear hb1 hET let' h0;have g0:=hE1.glob 0 (by omega);have g1:=hE1.glob 1 (by omega);have g2:=hE1.glob 2 (by omega);have g3:=hE1.glob 3 (by omega);have g4:=hE1.glob 4 (by omega);have g5:=hE1.glob 5 (by omega);have g6:=hE1.glob 6 (by omega);have g7:=hE1.glob 7 (by omega);have g8:=hE1.glob 8 (by omega);have g9:=hE1.glob 9 (by omega);have g10:=hE1.glob 10 (by omega);have g11:=hE1.glob 11 (by omega);simp only[Xn]at g0 g1 g2 g3 g4 g5 g6 g7 g8 g9 g10 g11;go_wp2_with fail;clear h01 hf1 g0 g1 g2 g3 g4 g5 g6 g7 g8 g9 g10 g11
 go_loopw [3,30] (fun q i wr=>∃j:Nat,j≤k∧q=.int .i64 at0∧i=.int .i64 j∧Qvt w a w1.heap.size wr) (fun _ i _=>12 - (intOf i).toNat)
 case atStart=>
  refine⟨0,Nat.zero_le _,rfl,rfl,hb.alloc hb.size _,?_⟩;intro j hj;have:j=0∨j=1∨j=2∨j=3∨j=4∨j=5∨j=6∨j=7∨j=8∨j=9∨j=10∨j=11:=by omega
  rcases this with rfl|rfl|rfl|rfl|rfl|rfl|rfl|rfl|rfl|rfl|rfl|rfl<;>simp
 case round=>
  obtain⟨j,hj,rfl,rfl,hC⟩:=hrel;have hEr:=hE.below hC.below wz;have h1r:wr.cell? ⟨pb,po+1,none⟩=some (sentV a k):=by rw[hC.below.cell (p:=⟨pb,po+1,none⟩) (lt_of_cell h1)];exact h1
  have hcj:=hC.cell j (by omega);have hlt:(j:Int)<12:=by omega
  by_cases hjk:j=k
  ·subst hjk;go_wp2_with fail;refine(Qhi _ _ _ _ h1r).mono ?_;rintro e w' ⟨rfl,rfl⟩;go_wp2_with fail;go_ret2;exact⟨rfl,hC.below⟩
  ·obtain⟨ca,ta,ha⟩:=hEr.row k (by omega);obtain⟨cb,tb,hbb⟩:=hEr.row j (by omega);have hne:a k≠a j:=fun h=>hjk ((hEr.ne k j (by omega) (by omega) h).symm);go_wp2_with fail;refine(Qg6 _ _ _ _ ca cb ta tb _ h1r hne ha hbb).mono ?_;rintro e w' ⟨rfl,rfl⟩;go_wp2_with fail;go_roundw
   case rel=>exact⟨j+1,by omega,rfl,by go_num,hC⟩
   case measure=>simp[intOf];omega
open Go.RowKit Go.ChangeShapes
abbrev Qtb (x:String×Nat×List UInt8):String×DataW Unit:=(x.1,.iface "*errors.errorString" (.ptr (.agg [.lit (.string x.2.2)])))
theorem Qbp {P:Program}{W:World}{ti tp te ts:TypeId}{ms:Array (String×TypeId)}{f:Field}
 (hi:P.underlying ti=some (.interface ms))(hrow:∀u,P.typeName? 3 u=some "*errors.errorString"→u=tp)
 (hp:P.underlying tp=some (.pointer te))(he:P.underlying te=some (.struct #[f]))(hft:f.type=ts)(hfo:f.offset=0)(hs:P.underlying ts=some .string)(hc:P.cellsOf te=1)(hcs:P.cellsOf ts=1) :
 ∀(l:List (String×Nat×List UInt8)) (ps:List MemPlace),(∀x∈l,P.globalNamed x.1=some x.2.1∧(P.globals[x.2.1]?).map (·.type)=some ti) →
  DataW.LaidVars P W (l.map Qtb) ps→ps.Nodup →
  (∀b off,MemPlace.cell b off∈ps→(∃c t,W.heap[b]? = some (.cells c t (0,0)))∧∀u v,W.cell? ⟨b,off,none⟩=some (.iface u v)→Value.okWide P W .any 0 u v) →
  ∃a:Nat→Addr,(∀i (h:i<l.length),W.cell? ⟨l[i].2.1,0,none⟩=some (.iface tp (.pointer (some (a i))))∧MemPlace.cell (a i).block (a i).off∈ps∧∃c t,W.heap[(a i).block]? = some (.cells c t (0,0))) ∧
   ∀i j,i<l.length→j<l.length→a i=a j→i=j
 | [],_,_,_,_,_=>⟨fun _=>⟨0,0,none⟩,fun i h=>absurd h (by simp),fun i j h=>absurd h (by simp)⟩
 | x::l,ps,hall,hv,hnd,hrows=>by
  obtain⟨g0,t0,cs0,f0,p0,q0,hg0,ht0,hv0,hd0,hq,rfl⟩:=hv;obtain⟨hgx,htx⟩:=hall x (List.mem_cons_self ..);obtain rfl:=Option.some.inj (hgx.symm.trans hg0);obtain rfl:=Option.some.inj (htx.symm.trans ht0);obtain⟨l0⟩:=cs0;have ok0:∀u v,l0=[.iface u v]→Value.okWide P W .any 0 u v:=fun u v e=>by subst e;exact(hrows x.2.1 0 (by simp[MemPlace.row])).2 u v (by simpa using World.var?_cell hg0 hv0 0)
  obtain⟨a0,s0,rfl,hc0,hs0,hz0,rfl⟩:=errorString_of_trod hi hrow hp he hft hfo hs hc hcs hd0 ok0;have hmem0:MemPlace.cell a0.block a0.off∈MemPlace.row a0 1:=by simp[MemPlace.row]
  obtain⟨hnd1,hnd2,hdis⟩:=List.nodup_append.1 hnd;obtain⟨a,ha,hne⟩:=Qbp hi hrow hp he hft hfo hs hc hcs l q0 (fun y hy=>hall y (List.mem_cons_of_mem _ hy)) hq hnd2 (fun b off hm=>hrows b off (List.mem_append_right _ hm));refine⟨fun i=>match i with|0=>a0|i+1=>a i,?_,?_⟩
  ·intro i h;cases i with
   | zero=>exact⟨by simpa using World.var?_cell hg0 hv0 0,List.mem_append_left _ (List.mem_append_right _ hmem0),(hrows a0.block a0.off (List.mem_append_left _ (List.mem_append_right _ hmem0))).1⟩
   | succ i=>
    obtain⟨h1,h2,h3⟩:=ha i (by simpa using h);exact⟨h1,List.mem_append_right _ h2,h3⟩
  ·intro i j hi' hj' e;cases i with
   | zero=>
    cases j with
    | zero=>rfl
    | succ j=>
     exfalso;simp only at e;have h2:=(ha j (by simpa using hj')).2.1;rw[←e]at h2;exact hdis _ (List.mem_append_right _ hmem0) _ h2 rfl
   | succ i=>
    cases j with
    | zero=>
     exfalso;simp only at e;have h2:=(ha i (by simpa using hi')).2.1;rw[e]at h2;exact hdis _ (List.mem_append_right _ hmem0) _ h2 rfl
    | succ j=>rw[hne i j (by simpa using hi') (by simpa using hj') e]
def Qaj:List (String×Nat×List UInt8):=[("cornbin/api.ErrText",4,[99,111,114,110,98,105,110,58,32,116,101,120,116]),("cornbin/api.ErrBound",5,[99,111,114,110,98,105,110,58,32,98,111,117,110,100]),
 ("cornbin/api.ErrShape",2,[99,111,114,110,98,105,110,58,32,115,104,97,112,101]),("cornbin/api.ErrName",6,[99,111,114,110,98,105,110,58,32,110,97,109,101]),
 ("cornbin/api.ErrNone",0,[99,111,114,110,98,105,110,58,32,110,111,110,101]),("cornbin/api.ErrExist",3,[99,111,114,110,98,105,110,58,32,101,120,105,115,116]),
 ("cornbin/api.ErrFull",1,[99,111,114,110,98,105,110,58,32,102,117,108,108]),("cornbin/api.ErrOrder",7,[99,111,114,110,98,105,110,58,32,111,114,100,101,114]),
 ("cornbin/api.ErrSum",8,[99,111,114,110,98,105,110,58,32,115,117,109]),("cornbin/api.ErrClash",9,[99,111,114,110,98,105,110,58,32,99,108,97,115,104]),
 ("cornbin/api.ErrUsed",10,[99,111,114,110,98,105,110,58,32,117,115,101,100]),("cornbin/api.ErrOff",11,[99,111,114,110,98,105,110,58,32,111,102,102])]
def Qov:List (String×DataW Unit):=("errors.errorType",.iface "internal/reflectlite.rtype" (.agg [.ptr (.lit (.string [101,114,114,111,114]))]))::Qaj.map Qtb
theorem lEt:Tryz.prog.globalNamed "errors.errorType"=some 12:=by kernel_rfl
theorem lRt:(Tryz.prog.cutTypes.find? (·.1 == "internal/reflectlite.rtype")).map (·.2)=some 313:=by kernel_rfl
theorem Qvd:((List.range 454).filter fun t=>Tryz.prog.rowNamed t [101,114,114,111,114])=[ 42 ]:=by kernel_rfl
theorem Qwk:Tryz.prog.types.size=454:=by kernel_rfl
theorem Qwn:∀u,Tryz.prog.typeName? 3 u=some "*errors.errorString"→u=425:=typeName_ptr_named (nm:= "errors.errorString") (by kernel_rfl) (by kernel_rfl) (by decide)
theorem Quk:Tryz.prog.cellsOf 443=1:=by kernel_rfl
theorem Qu9:Tryz.prog.cellsOf 9=1:=by kernel_rfl
theorem Qw7:(Qaj.all fun x=>Tryz.prog.globalNamed x.1==some x.2.1&&(Tryz.prog.globals[x.2.1]?).map (·.type)==some 42)=true:=by kernel_rfl
theorem Qjo {W:World}(h:laidMetH Tryz.prog Qov W):∃a,J6 W a:=by
 have h':laidMet Tryz.prog (Qaj.map Qtb) W∧handlesMet Tryz.prog [("errors.errorType",.iface "internal/reflectlite.rtype" (.agg [.ptr (.lit (.string [101,114,114,111,114]))]))] W:=h;obtain⟨⟨ps,hv,hnd,hrows⟩,hh⟩:=h';obtain⟨a,ha,hne⟩:=Qbp (P:=Tryz.prog) Tryz.underlying42 Qwn Tryz.underlying425 Tryz.underlying443 rfl rfl Tryz.underlying9 Quk Qu9 Qaj ps
  (fun x hx=>by have:=List.all_eq_true.1 Qw7 x hx;simpa using this) hv hnd hrows
 refine⟨a,⟨?_,fun i hi=>(ha i hi).2.2,hne,?_⟩⟩
 ·intro i hi;have:i=0∨i=1∨i=2∨i=3∨i=4∨i=5∨i=6∨i=7∨i=8∨i=9∨i=10∨i=11:=by omega
  rcases this with rfl|rfl|rfl|rfl|rfl|rfl|rfl|rfl|rfl|rfl|rfl|rfl<;>exact(ha _ hi).1
 ·obtain⟨name,u,ty,e1,e2,e3,e4,e5⟩:=hh _ (List.mem_singleton.2 rfl);have en:name=[101,114,114,111,114]:=(Option.some.inj e1).symm;subst en;obtain rfl:=Option.some.inj (lRt.symm.trans e2);have hm:ty∈(List.range 454).filter fun t=>Tryz.prog.rowNamed t [101,114,114,111,114]:=List.mem_filter.2 ⟨List.mem_range.2 (by rw[←Qwk];exact e3),e4⟩;rw[Qvd]at hm;obtain rfl:=List.mem_singleton.1 hm;have hth:typeHandle Tryz.prog 42=.pointer (some ⟨19,42,none⟩):=by kernel_rfl
  rw[hth]at e5;simpa using World.var?_cell lEt e5 0
open Go.RowKit
theorem Qa {q:Prop}(h:q):Hid q:=h
theorem X3 (w:World)(o:Obj){b i:Nat}(h:b<w.heap.size):(w.alloc o).frozen? ⟨b,i,none⟩=w.frozen? ⟨b,i,none⟩:=World.frozen?_of_block (w:=w) (Below.heap_alloc w o b h)
theorem Zh (W:World)(cs:Array Value)(t:TypeId){i B:Nat}{v:Value}(h:cs[i]? = some v)(hB:B=W.heap.size):(W.alloc (.cells cs t)).cell? ⟨B,i,none⟩=some v:=by
 subst hB;have h2:=World.alloc_heap_new W (.cells cs t);simp only[World.cell?,h2,h];rfl
theorem Yh (W:World)(cs:Array Value)(t:TypeId){i B:Nat}(hB:B=W.heap.size):(W.alloc (.cells cs t)).frozen? ⟨B,i,none⟩=false:=by
 subst hB;have h2:=World.alloc_heap_new W (.cells cs t);simp only[World.frozen?,h2];simp
theorem Qw {w w':World}(h:Below w.heap.size w w'):w.grownBy w' none:=⟨h.os,h.tape,h.output,h.size,fun k hk _=>h.block k hk⟩
theorem Qe {w w':World}(h:w.grownBy w' none):Below w.heap.size w w':=⟨h.os,h.tape,h.output,h.size,fun k hk=>h.block k hk (by simp)⟩
theorem Qi {w w':World}{base:Nat}{e:TypeId}{size:Nat}{v:Value}{n:Nat}{xs:List Value}(h:w.ownsRow base e size v n xs)(hb:Below w.heap.size w w'):w'.ownsRow base e size v n xs:=by
 refine h.kept (Qw hb) ?_;cases hv:v.ownBlock with
 | none=>exact .inl rfl
 | some j=>exact .inr (by simp)
def Blk (W:World)(B:Nat)(cs:Array Value)(t:TypeId):Prop:=W.heap[B]? = some (.cells cs t (0,0))
theorem Blk.lt {W:World}{B:Nat}{cs:Array Value}{t:TypeId}(h:Blk W B cs t):B<W.heap.size:=(Array.getElem?_eq_some_iff.1 h).1
theorem Blk.cell {W:World}{B:Nat}{cs:Array Value}{t:TypeId}(h:Blk W B cs t){i:Nat}{u:Value}(hi:cs[i]? = some u):W.cell? ⟨B,i,none⟩=some u:=by
 simp only[World.cell?,show W.heap[B]? = _ from h,hi];rfl
theorem Blk.frozen {W:World}{B:Nat}{cs:Array Value}{t:TypeId}(h:Blk W B cs t)(i:Nat):W.frozen? ⟨B,i,none⟩=false:=by
 simp only[World.frozen?,show W.heap[B]? = _ from h];simp
theorem Blk.next {W W':World}{B:Nat}{cs:Array Value}{t:TypeId}(h:Blk W B cs t)(hb:Below W.heap.size W W'):Blk W' B cs t:=(hb.block B h.lt).trans h
theorem Blk.new (W:World)(cs:Array Value)(t:TypeId):Blk (W.alloc (.cells cs t)) W.heap.size cs t:=World.alloc_heap_new W _
theorem Blk.set {W:World}{B:Nat}{cs:Array Value}{t:TypeId}(h:Blk W B cs t)(i:Nat)(u:Value):Blk (W.setCell ⟨B,i,none⟩ u) B (cs.setIfInBounds i u) t:=by
 obtain⟨hlt,hk⟩:=Array.getElem?_eq_some_iff.1 h;show(W.heap.modify B _)[B]? = _;rw[Array.getElem?_eq_getElem (by rw[Array.size_modify];exact hlt),Array.getElem_modify_self,hk];simp
theorem Blk.other {W:World}{B:Nat}{cs:Array Value}{t:TypeId}(h:Blk W B cs t){a:Addr}(ha:B≠a.block)(u:Value):Blk (W.setCell a u) B cs t:=(Below.heap_setCell W a u B ha).trans h
def X0 (lo hi:Nat)(W W':World):Prop:=∀b,lo≤b→b<hi→W'.heap[b]? = W.heap[b]?
theorem X0.refl (lo hi:Nat)(W:World):X0 lo hi W W:=fun _ _ _=>rfl
theorem X0.next {lo hi:Nat}{W W' W'':World}(h:X0 lo hi W W')(hs:hi≤W'.heap.size)(hb:Below W'.heap.size W' W''):X0 lo hi W W'':=fun b h1 h2=>(hb.block b (by omega)).trans (h b h1 h2)
theorem X0.setCell {lo hi:Nat}{W W':World}(h:X0 lo hi W W'){a:Addr}(ha:a.block<lo∨hi≤a.block)(u:Value):X0 lo hi W (W'.setCell a u):=fun b h1 h2=>(Below.heap_setCell W' a u b (by omega)).trans (h b h1 h2)
theorem Blk.below {W W':World}{B n:Nat}{cs:Array Value}{t:TypeId}(h:Blk W B cs t)(hb:Below n W W')(hn:B<n):Blk W' B cs t:=(hb.block B hn).trans h
theorem X0.below {lo hi n:Nat}{W W' W'':World}(h:X0 lo hi W W')(hn:hi≤n)(hb:Below n W' W''):X0 lo hi W W'':=fun b h1 h2=>(hb.block b (by omega)).trans (h b h1 h2)
theorem X0.cell {lo hi:Nat}{W W':World}(h:X0 lo hi W W'){b:Nat}(h1:lo≤b)(h2:b<hi)(o:Nat):W'.cell? ⟨b,o,none⟩=W.cell? ⟨b,o,none⟩:=World.cell?_of_block (w:=W) (h b h1 h2)
theorem Jc {w:World}{base base':Nat}{e:TypeId}{size:Nat}{v:Value}{n:Nat}{xs:List Value}(h:w.ownsRow base e size v n xs)(hb:base'≤base):w.ownsRow base' e size v n xs:=by
 obtain⟨hl,ho⟩:=h;refine⟨hl,?_⟩;rcases ho with ho|⟨g,cap,cur,hv,hg,r⟩
 ·exact .inl ho
 ·exact .inr ⟨g,cap,cur,hv,Nat.le_trans hb hg,r⟩
theorem Xq {w:World}{base:Nat}{e:TypeId}{size:Nat}{v:Value}{n:Nat}{xs:List Value}(h:w.ownsRow base e size v n xs)(hn:1≤n):∃g cap,v=.slice (some ⟨g,0,none⟩) n cap∧n≤cap∧cap≤maxLen:=by
 obtain⟨_,ho⟩:=h;rcases ho with⟨_,h0⟩|⟨g,cap,_,hv,_,_,h1,h2,_⟩
 ·omega
 ·exact⟨g,cap,hv,h1,h2⟩
theorem add_plain (g j:Nat):(⟨g,0,none⟩:Addr).add j=⟨g,j,none⟩:=by
 by_cases h:j=0
 ·subst h;rfl
 ·simp[Addr.add,h]
theorem Qub:(Tryz.prog.info? 9).map (fun i=>(i.zero,i.size,i.bytes))=some (some (.string ⟨#[]⟩),1,16):=by kernel_rfl
theorem Qa7 (t:ByteArray):(⟨t.data.toList.toArray⟩:ByteArray)=t:=by
 apply ByteArray.ext;simp
theorem Qj0 {W:World}{B:Nat}{x:Value}{t:TypeId}(hB:B=W.heap.size):∀j u,[x][j]? = some u→(W.alloc (.cells #[x] t)).cell? ((⟨B,0,none⟩:Addr).add j)=some u:=by
 subst hB;intro j u hj;rw[add_plain];exact Zh W #[x] t (by rw[←hj];simp) rfl
theorem Quv {s t:ByteArray}(h:s≠t):(s.toList==t.toList)=false:=by
 rw[ByteArray.toList_eq,ByteArray.toList_eq,beq_eq_false_iff_ne];exact fun e=>h (WideShapes.bytes_inj e)
theorem Jh {W:World}{base:Nat}{e:TypeId}{size:Nat}{v:Value}{n:Nat}{xs:List Value}(h:W.ownsRow base e size v n xs):∃p c,v=.slice p n c:=by
 rcases h.2 with⟨rfl,rfl⟩|⟨g,cap,cur,rfl,_⟩
 ·exact⟨_,_,rfl⟩
 ·exact⟨_,_,rfl⟩
theorem Uc {w:World}{base:Nat}{e:TypeId}{sz:Nat}{v:Value}{n:Nat}{A B:List Value}(h:w.ownsRow base e sz v n (A++B)){g:Nat}(hg:v.ownBlock=some g):∀j u,A[j]? = some u→w.cell? ((⟨g,0,none⟩:Addr).add j)=some u:=fun j u hj=>by
 have hl:=(List.getElem?_eq_some_iff.1 hj).1;exact h.cells (g:=g) hg j u (by rw[List.getElem?_append_left hl];exact hj)
theorem Ul {w:World}{base:Nat}{e:TypeId}{sz:Nat}{v:Value}{n:Nat}{A B:List Value}(h:w.ownsRow base e sz v n (A++B)){g:Nat}(hg:v.ownBlock=some g):∀j u,B[j]? = some u→w.cell? ((⟨g,A.length,none⟩:Addr).add j)=some u:=fun j u hj=>by
 have:=h.cells (g:=g) hg (A.length+j) u (by rw[List.getElem?_append_right (by omega),Nat.add_sub_cancel_left];exact hj);have ha:∀o j,(⟨g,o,none⟩:Addr).add j=⟨g,o+j,none⟩:=fun o j=>by unfold Addr.add;split<;>simp_all
 rw[ha]at this ⊢;rwa [Nat.zero_add]at this
theorem Gt {α β:Type}(f:α→β)(l:List α)(j:Nat)(h:j<l.length):(l.take (j+1)).map f=(l.take j).map f++[f l[j]]:=by
 rw[List.take_succ_eq_append_getElem h,List.map_append];rfl
open Go.RowKit Go.Maps
structure Qf (P:Program)(k:TypeId)(κ β:Type) where
 mkK:κ→Value
 wf:κ→Prop
 mkV:β→Value
 unV:Value→Option β
 K:Keyed P k
 key:∀x,wf x→∃kl,keyOf P k (mkK x)=some kl
 inv:∀v kl,keyOf P k v=some kl→∃x,wf x∧v=mkK x
 inj:∀x y,mkK x=mkK y→x=y
 un:∀c,unV (mkV c)=some c
 back:∀v c,unV v=some c→v=mkV c
variable {P:Program} {k:TypeId} {κ β:Type} (M:Qf P k κ β)
def Qf.kl (x:κ):Lit:=(keyOf P k (M.mkK x)).getD (.bool false)
def Qf.R (v:Value):Option (DataW Value×List MemPlace):=(M.unV v).map (fun _=>(.held v,[]))
def Qf.ent (h:κ×β):Lit×DataW Value:=(M.kl h.1,.held (M.mkV h.2))
theorem Qf.key_kl {x:κ}(h:M.wf x):keyOf P k (M.mkK x)=some (M.kl x):=by
 obtain⟨kl,e⟩:=M.key x h;unfold Qf.kl;rw[e];rfl
theorem Qf.kl_inj {x y:κ}(hx:M.wf x)(hy:M.wf y)(e:M.kl x=M.kl y):x=y:=M.inj _ _ (M.K.inj (M.key_kl hx) (e▸M.key_kl hy))
theorem Qf.isKey {x:κ}(h:M.wf x):WideAt.IsKeyLit (M.kl x):=M.K.key (M.key_kl h)
theorem Qf.same [DecidableEq κ]{x y:κ}(hx:M.wf x)(hy:M.wf y):(M.kl x).sameKey (M.kl y)=decide (x=y):=by
 by_cases e:x=y
 ·subst e;rw[WideAt.sameKey_self (M.isKey hx)];simp
 ·rw[Maps.sameKey_ne (fun h=>e (M.kl_inj hx hy h))];simp[e]
theorem Qf.R_mk (c:β):M.R (M.mkV c)=some (.held (M.mkV c),[]):=by
 unfold Qf.R;rw[M.un];rfl
theorem Qf.R_inv {v:Value}{y:DataW Value×List MemPlace}(h:M.R v=some y):∃c,v=M.mkV c∧y=(.held v,[]):=by
 unfold Qf.R at h;cases hu:M.unV v with
 | none=>rw[hu]at h;cases h
 | some c=>rw[hu]at h;cases h;exact⟨c,M.back v c hu,rfl⟩
structure Qf.Of (w:World)(b:Nat)(l:List (κ×β)):Prop where
 own:∃ds,w.ownsMap P k M.R b ds.length (.map ds)∧ds.Perm (l.map M.ent)
 wf:∀h∈l,M.wf h.1
theorem G6 {w:World}{b n:Nat}{R:Value→Option (DataW Value×List MemPlace)}{ds:List (Lit×DataW Value)}(h:w.ownsMap P k R b n (.map ds)):w.ownsMap P k R b ds.length (.map ds):=by
 obtain⟨es,clock,hb,F,_,hD⟩:=h;have e:ds=(es.toList.map (WideElems.rg P k R)).foldr DataW.insert []:=DataW.map.inj hD;exact⟨es,clock,hb,F,by rw[e,length_sorted];simp,hD⟩
variable {M} {w w':World} {b r:Nat} {l l':List (κ×β)}
theorem Qf.Of.lt (h:M.Of w b l):b<w.heap.size:=by
 obtain⟨ds,ho,_⟩:=h.own;exact ho.lt
theorem Qf.Of.made (M:Qf P k κ β)(w:World):M.Of (w.alloc (.map #[] 0)) w.heap.size []:=⟨⟨[],World.ownsMap_made w P k M.R,List.Perm.refl _⟩,fun h hm=>by simp at hm⟩
theorem Qf.Of.kept {row:Option Nat}(h:M.Of w b l)(hg:w.grownBy w' row)(hr:some b≠row):M.Of w' b l:=by
 obtain⟨ds,ho,hp⟩:=h.own;exact⟨⟨ds,ho.kept hg hr,hp⟩,h.wf⟩
theorem Qf.Of.perm (h:M.Of w b l)(hp:l.Perm l'):M.Of w b l':=by
 obtain⟨ds,ho,hd⟩:=h.own;exact⟨⟨ds,ho,hd.trans (hp.map _)⟩,fun x hx=>h.wf x (hp.mem_iff.2 hx)⟩
theorem Qf.Of.moved {b':Nat}(h:M.Of w b l)(e:w'.heap[b']? = w.heap[b]?):M.Of w' b' l:=by
 obtain⟨ds,⟨es,clock,hb,F,hs,hD⟩,hp⟩:=h.own;exact⟨⟨ds,⟨es,clock,e.trans hb,F,hs,hD⟩,hp⟩,h.wf⟩
theorem Qf.Of.isMap (h:M.Of w b l):∃es clock,w.heap[b]? = some (.map es clock):=by
 obtain⟨ds,⟨es,clock,hb,_⟩,_⟩:=h.own;exact⟨es,clock,hb⟩
theorem Qob {ds:List (Lit×DataW Value)}(hap:ds.Pairwise (fun p q=>p.1≠q.1))(hp:ds.Perm (l.map M.ent)):l.Pairwise (fun p q=>p.1≠q.1):=by
 have h1:(l.map M.ent).Pairwise (fun p q=>p.1≠q.1):=(hp.pairwise_iff (fun {_ _} hne=>Ne.symm hne)).1 hap;rw[List.pairwise_map]at h1;exact h1.imp (fun hne e=>hne (by unfold Qf.ent;simp only;rw[e]))
theorem Qf.Of.apart (h:M.Of w b l):l.Pairwise (fun p q=>p.1≠q.1):=by
 obtain⟨ds,ho,hp⟩:=h.own;obtain⟨es,e,hap,_⟩:=ho.entries M.K;cases e;exact Qob hap hp
theorem Qf.Of.len {t e:TypeId}(h:M.Of w b l)(ht:P.underlying t=some (.map k e))(ty:TypeId):(Builtin.len_ #[t] ty #[.map (some b)]).run P w=.ok (.int .i64 l.length) w:=by
 obtain⟨ds,ho,hp⟩:=h.own;have:=ho.len ht ty;rw[this];show Result.ok (Value.int .i64 (ds.length:Nat)) w=_;rw[hp.length_eq,List.length_map]
theorem Qf.Of.look_none {t e:TypeId}{c0:β}(h:M.Of w b l)(ht:P.underlying t=some (.map k e))(hz:(zeroValue e).run P w=.ok (M.mkV c0) w){x:κ}(hx:M.wf x)(hn:∀h∈l,h.1≠x) :
 (Instr.lookup t (.map (some b)) (M.mkK x) true).run P w=.ok (.tuple #[M.mkV c0,.bool false]) w:=by
 obtain⟨ds,ho,hp⟩:=h.own;have hno:∀p∈ds,p.1≠M.kl x:=fun p hm e=>by obtain⟨y,hy,rfl⟩:=List.mem_map.1 (hp.mem_iff.1 hm);exact hn y hy (M.kl_inj (h.wf y hy) hx e)
 obtain⟨v,ps,hrun,hv⟩:=ho.look_ok M.K ht hz (M.R_mk c0) (M.key_kl hx);rw[WideAt.atKey_none _ hno]at hv;obtain⟨c,rfl,e⟩:=M.R_inv hv;have ev:M.mkV c0=M.mkV c:=DataW.held.inj (Prod.mk.inj e).1;rw[hrun,Maps.has_false_of_atKey (fun z=>WideAt.atKey_none z hno),ev]
theorem Qf.Of.look_some {t e:TypeId}{c0:β}(h:M.Of w b l)(ht:P.underlying t=some (.map k e))(hz:(zeroValue e).run P w=.ok (M.mkV c0) w){x:κ}{c:β}(hm:(x,c)∈l) :
 (Instr.lookup t (.map (some b)) (M.mkK x) true).run P w=.ok (.tuple #[M.mkV c,.bool true]) w:=by have hx:M.wf x:=h.wf _ hm;obtain⟨ds,ho,hp⟩:=h.own;obtain⟨es,e,hap,_⟩:=ho.entries M.K;cases e;have hd:(M.kl x,DataW.held (M.mkV c))∈ds:=hp.mem_iff.2 (List.mem_map.2 ⟨_,hm,rfl⟩);have hat:∀z,(DataW.map ds).atKey (M.kl x) z=.held (M.mkV c):=fun z=>WideAt.atKey_mem z (M.isKey hx) hap hd;obtain⟨v,ps,hrun,hv⟩:=ho.look_ok M.K ht hz (M.R_mk c0) (M.key_kl hx);rw[hat]at hv;obtain⟨c',rfl,e⟩:=M.R_inv hv;have ev:M.mkV c=M.mkV c':=DataW.held.inj (Prod.mk.inj e).1;rw[hrun,Maps.has_true_of_atKey hat,ev]
theorem Gf [DecidableEq κ]{x:κ}(hx:M.wf x):∀(l:List (κ×β)),(∀h∈l,M.wf h.1)→(l.map M.ent).filter (ChangeMaps.notKey (M.kl x))=(l.filter (fun h => !decide (h.1=x))).map M.ent
 | [],_=>rfl
 | y::r,hw=>by
  have ih:=Gf hx r (fun h hm=>hw h (List.mem_cons_of_mem _ hm));have e:ChangeMaps.notKey (M.kl x) (M.ent y) = !decide (y.1=x):=by unfold ChangeMaps.notKey Qf.ent;simp only;rw[M.same (hw y (List.mem_cons_self ..)) hx]
  rw[List.map_cons,List.filter_cons,List.filter_cons,e,ih];by_cases h:y.1=x<;>simp[h]
theorem insert_perm (x:Lit×DataW Value):∀(l:List (Lit×DataW Value)),(DataW.insert x l).Perm (x::l)
 | []=>List.Perm.refl _
 | y::r=>by
  unfold DataW.insert;split
  ·exact List.Perm.refl _
  ·exact((insert_perm x r).cons y).trans (List.Perm.swap x y r)
theorem Qf.Of.store [DecidableEq κ]{t e:TypeId}(h:M.Of w b l)(ht:P.underlying t=some (.map k e)){x:κ}(hx:M.wf x)(c:β)(hl:l.length<maxLen) :
 ∃w',(Instr.mapUpdate t (.map (some b)) (M.mkK x) (M.mkV c)).run P w=.ok () w'∧(∀l',((x,c)::l.filter (fun h => !decide (h.1=x))).Perm l'→M.Of w' b l')∧w.grownBy w' (some b):=by
 obtain⟨ds,ho,hp⟩:=h.own;have hlen:ds.length=l.length:=by rw[hp.length_eq,List.length_map]
 obtain⟨w',hrun,ho',hg⟩:=ho.update M.K ht (by omega) (M.key_kl hx) (M.R_mk c);refine⟨w',hrun,fun l' hl'=>⟨⟨_,G6 ho',?_⟩,fun y hy => ?_⟩,hg⟩
 ·refine(insert_perm _ _).trans ?_;refine List.Perm.trans ?_ (hl'.map M.ent);rw[List.map_cons,←Gf hx l h.wf];exact(hp.filter _).cons _
 ·rcases List.mem_cons.1 (hl'.mem_iff.2 hy)with rfl|hy
  ·exact hx
  ·exact h.wf y (List.mem_filter.1 hy).1
structure Qf.Rng (M:Qf P k κ β)(w:World)(b r:Nat)(l:List (κ×β))(left:κ→Bool)(cnt:Nat):Prop where
 at':∃ds n lf,w.ranges P k M.R b r n (.map ds) lf cnt∧ds.Perm (l.map M.ent)∧∀x,M.wf x→lf (M.kl x)=left x
 wf:∀h∈l,M.wf h.1
theorem Qf.Rng.of {left:κ→Bool}{cnt:Nat}(h:M.Rng w b r l left cnt):M.Of w b l:=by
 obtain⟨ds,n,lf,hr,hp,_⟩:=h.at';exact⟨⟨ds,G6 hr.owns,hp⟩,h.wf⟩
theorem Qf.Rng.kept {left:κ→Bool}{cnt:Nat}{row:Option Nat}(h:M.Rng w b r l left cnt)(hg:w.grownBy w' row)(hb:some b≠row)(hr:some r≠row):M.Rng w' b r l left cnt:=by
 obtain⟨ds,n,lf,h1,hp,hl⟩:=h.at';exact⟨⟨ds,n,lf,h1.kept hg hb hr,hp,hl⟩,h.wf⟩
theorem Qf.Rng.lt {left:κ→Bool}{cnt:Nat}(h:M.Rng w b r l left cnt):r<w.heap.size:=by
 obtain⟨ds,n,lf,h1,_⟩:=h.at';exact h1.lt
theorem Qf.Rng.ne {left:κ→Bool}{cnt:Nat}(h:M.Rng w b r l left cnt):r≠b:=by
 obtain⟨ds,n,lf,h1,_⟩:=h.at';exact h1.ne
theorem Qf.Rng.left_eq {left:κ→Bool}{cnt:Nat}(h:M.Rng w b r l left cnt):w.rangeLeft b r=cnt:=by
 obtain⟨ds,n,lf,h1,_⟩:=h.at';exact h1.left_eq
theorem Qf.Rng.perm {left:κ→Bool}{cnt:Nat}(h:M.Rng w b r l left cnt)(hp:l.Perm l'):M.Rng w b r l' left cnt:=by
 obtain⟨ds,n,lf,h1,hd,hl⟩:=h.at';exact⟨⟨ds,n,lf,h1,hd.trans (hp.map _),hl⟩,fun x hx=>h.wf x (hp.mem_iff.2 hx)⟩
section
variable {ops:Array Oper} {rest:List Oper} {o:Oper} {a:Act} {Q:Exit→Act→World→Prop}
theorem wp_range_kit [DecidableEq κ](M:Qf P k κ β)(w:World)(hg:o.guard=none)(m:Operand)(t:TypeId)(hop:o.op=Op.range t m)(e:TypeId)(ht:P.underlying t=some (.map k e))(b:Nat)(l:List (κ×β))(hm:a.eval m=.map (some b))(h:M.Of w b l)
 (hK:∀w',M.Rng w' b w.heap.size l (fun x=>decide (x∈l.map (·.1))) l.length→w.grownBy w' none→w'.heap.size=w.heap.size+1→wpList P ops Q rest (a.put o.dst (.pointer (some ⟨w.heap.size,0,none⟩))) w') :
 wpList P ops Q (o::rest) a w:=by
 obtain⟨ds,ho,hp⟩:=h.own;refine wpList_range_own w hg m t hop k e M.K ht M.R b ds.length (.map ds) hm ho fun w' hr hgr hs=>hK w' ⟨⟨ds,ds.length,Maps.has (DataW.map ds),?_,hp,fun x hx => ?_⟩,h.wf⟩ hgr hs
 ·have e:Maps.size (DataW.map ds)=l.length:=by show ds.length=_;rw[hp.length_eq,List.length_map]
  rw[←e];exact hr
 ·rw[Bool.eq_iff_iff,Maps.has_eq,List.any_eq_true,decide_eq_true_eq];constructor
  ·rintro⟨p,hm,hs⟩;obtain⟨y,hy,rfl⟩:=List.mem_map.1 (hp.mem_iff.1 hm);have hxy:y.1=x:=M.kl_inj (h.wf y hy) hx (WideAt.sameKey_eq hs);exact List.mem_map.2 ⟨y,hy,hxy⟩
  ·intro hm;obtain⟨y,hy,rfl⟩:=List.mem_map.1 hm;exact⟨M.ent y,hp.mem_iff.2 (List.mem_map.2 ⟨y,hy,rfl⟩),WideAt.sameKey_self (M.isKey hx)⟩
theorem wp_next_kit [DecidableEq κ](M:Qf P k κ β)(w:World)(hg:o.guard=none)(it:Operand)(hop:o.op=Op.next it false)(b r:Nat)(l:List (κ×β))(left:κ→Bool)(cnt:Nat)(hit:a.eval it=.pointer (some ⟨r,0,none⟩))(h:M.Rng w b r l left cnt)
 (hDone:(∀h∈l,left h.1=false)→wpList P ops Q rest (a.put o.dst (.tuple #[.bool false])) w)
 (hMore:∀(x:κ) (c:β) (w':World) (cnt':Nat),(x,c)∈l→left x=true→M.Rng w' b r l (fun y=>left y && !decide (y=x)) cnt'→cnt'<cnt→w.grownBy w' (some r)→w'.heap.size=w.heap.size →
  (Instr.entry (.pointer (some ⟨r,0,none⟩))).run P w'=.ok (.tuple #[M.mkK x,M.mkV c]) w'→wpList P ops Q rest (a.put o.dst (.tuple #[.bool true,M.mkK x,M.mkV c])) w') :
 wpList P ops Q (o::rest) a w:=by
 obtain⟨ds,n,lf,hr,hp,hl⟩:=h.at';refine wpList_next_ranges w hg it hop k M.K M.R M.mkK M.mkV (fun key kl hk => ?_) (fun v y hv => ?_) b r n (.map ds) lf cnt hit hr (fun _ h0=>hDone (fun y hy=>by rw[←hl _ (h.wf y hy)];exact h0 _)) ?_
 ·obtain⟨x,_,rfl⟩:=M.inv key kl hk;exact⟨x,rfl⟩
 ·obtain⟨c,rfl,_⟩:=M.R_inv hv;exact⟨c,rfl⟩
 ·intro x c kl y w' cnt' hkey hlk hv hat hrg hlt hgr hsz hen;obtain⟨x',hx',e⟩:=M.inv _ _ hkey;obtain rfl:=M.inj _ _ e;have ekl:kl=M.kl x:=Option.some.inj (hkey.symm.trans (M.key_kl hx'));subst ekl;have ey:y=(.held (M.mkV c),[]):=by rw[M.R_mk]at hv;exact(Option.some.inj hv).symm
  have hm:(x,c)∈l:=by have hh:=Maps.has_true_of_atKey (fun z=>hat z);rw[Maps.has_eq,List.any_eq_true]at hh;obtain⟨p,hpm,hs⟩:=hh;obtain⟨q,hq,rfl⟩:=List.mem_map.1 (hp.mem_iff.1 hpm);have hqx:q.1=x:=M.kl_inj (h.wf q hq) hx' (WideAt.sameKey_eq hs);obtain⟨es,e,hap,_⟩:=hr.owns.entries M.K;cases e;have h2:=WideAt.atKey_mem (DataW.nil) (M.isKey (h.wf q hq)) hap hpm;have h3:=hat DataW.nil;rw[←hqx,h2,ey]at h3;have h4:M.mkV q.2=M.mkV c:=DataW.held.inj h3;have h5:q.2=c:=(by have:=M.un q.2;rw[h4,M.un]at this;exact(Option.some.inj this).symm);rw[←hqx,←h5];exact hq
  refine hMore x c w' cnt' hm (by rw[←hl x hx'];exact hlk) ⟨⟨ds,n,_,hrg,hp,fun z hz => ?_⟩,h.wf⟩ hlt hgr hsz hen;rw[hl z hz,M.same hz hx']
theorem wp_delete_kit [DecidableEq κ](M:Qf P k κ β)(w:World)(hg:o.guard=none)(m x:Operand)(t:TypeId)(hop:o.op=Op.call { callee:=Callee.builtin Builtin.delete,args := #[m,x],argTypes := #[t,k] })
 (e:TypeId)(ht:P.underlying t=some (.map k e))(b r:Nat)(l:List (κ×β))(left:κ→Bool)(cnt:Nat)(hm:a.eval m=.map (some b))(h:M.Rng w b r l left cnt)(y:κ)(hy:M.wf y)(hx:a.eval x=M.mkK y)
 (hK:∀w' cnt',M.Rng w' b r (l.filter (fun h => !decide (h.1=y))) (fun z=>left z && !decide (z=y)) cnt'→cnt'≤cnt→w.mapTurned w' b→wpList P ops Q rest (a.put o.dst (.tuple #[])) w') :
 wpList P ops Q (o::rest) a w:=by
 obtain⟨ds,n,lf,hr,hp,hl⟩:=h.at';refine wpList_delete_ranges w hg m x t k hop e M.K ht M.R b r n (.map ds) lf cnt hm hr _ _ hx (M.key_kl hy) fun w' cnt' hrg hle hturn=>hK w' cnt' ⟨⟨_,n,_,hrg,?_,fun z hz => ?_⟩,fun z hz=>h.wf z (List.mem_filter.1 hz).1⟩ hle hturn
 ·rw[←Gf hy l h.wf];exact hp.filter _
 ·rw[hl z hz,M.same hz hy]
theorem wp_len_kit (M:Qf P k κ β)(w:World)(hg:o.guard=none)(m:Operand)(t:TypeId)(hop:o.op=Op.call { callee:=Callee.builtin Builtin.len,args := #[m],argTypes := #[t] })(e:TypeId)(ht:P.underlying t=some (.map k e))(b:Nat)(l:List (κ×β))(hm:a.eval m=.map (some b))(h:M.Of w b l)
 (hK:wpList P ops Q rest (a.put o.dst (.int .i64 l.length)) w):wpList P ops Q (o::rest) a w:=by
 obtain⟨ds,ho,hp⟩:=h.own;have e':Maps.size (DataW.map ds)=l.length:=by show ds.length=_;rw[hp.length_eq,List.length_map]
 exact wpList_len_own w hg m t hop k e ht M.R b ds.length (.map ds) hm ho (by rw[e'];exact hK)
end
theorem Yo {κ β:Type}[DecidableEq κ]{l:List (κ×β)}(hap:l.Pairwise (fun p q=>p.1≠q.1)){p:κ→Bool}{h:κ×β}(hm:h∈l)(hp:p h.1=true) :
 (l.filter (fun y => !(p y.1 && !decide (y.1=h.1)))).Perm (h::l.filter (fun y => !p y.1)):=by
 induction l with
 | nil=>cases hm
 | cons z s ih=>
  obtain⟨hz,hs⟩:=List.pairwise_cons.1 hap;rcases List.mem_cons.1 hm with rfl|hm'
  ·have e:s.filter (fun y => !(p y.1 && !decide (y.1=h.1)))=s.filter (fun y => !p y.1):=List.filter_congr (fun y hy=>by simp[Ne.symm (hz y hy)]);rw[List.filter_cons,if_pos (by simp),e,List.filter_cons,if_neg (by simp[hp])]
  ·have hne:z.1≠h.1:=hz h hm';have ih':=ih hs hm';rw[List.filter_cons,List.filter_cons];cases hpz:p z.1 with
   | true=>rw[if_neg (by simp[hne]),if_neg (by simp)];exact ih'
   | false=>
    rw[if_pos (by simp),if_pos (by simp)];exact(ih'.cons z).trans (List.Perm.swap h z _)
def pstep (n:Nat)(c:UInt8):Nat:=((n ^^^ c.toNat)*16777619) % 4294967296
def pmore (n:Nat)(l:List UInt8):Nat:=l.foldl pstep n
theorem Qat (n:Nat)(c:UInt8):pstep n c<4294967296:=Nat.mod_lt _ (by decide)
theorem Zr (n:Nat)(hn:n<4294967296)(l:List UInt8):pmore n l<4294967296:=by
 unfold pmore
 induction l generalizing n with
 | nil=>exact hn
 | cons c l ih=>rw[List.foldl_cons];exact ih _ (Qat n c)
theorem U3 (n:Nat)(a b:List UInt8):pmore n (a++b)=pmore (pmore n a) b:=List.foldl_append
theorem V4 (n:Nat)(c:UInt8)(l:List UInt8):pmore n (c::l)=pmore (pstep n c) l:=by simp only[pmore,List.foldl_cons]
theorem Ue (n:Nat):pmore n []=n:=rfl
theorem Qgh (n:Nat)(l:List UInt8)(c:UInt8):pmore n (l++[c])=pstep (pmore n l) c:=(U3 n l [c]).trans ((V4 (pmore n l) c []).trans (Ue _))
theorem Qn1 (M m v a b:Nat)(hv:m*v % M=1)(ha:a<M)(hb:b<M)(h:a*m % M=b*m % M):a=b:=by
 have h1:a*m*v % M=b*m*v % M:=by rw[Nat.mul_mod,h,←Nat.mul_mod]
 rw[Nat.mul_assoc,Nat.mul_assoc,Nat.mul_mod a,Nat.mul_mod b,hv]at h1;simpa[Nat.mod_eq_of_lt ha,Nat.mod_eq_of_lt hb]using h1
theorem Qv0:16777619*899433627 % 4294967296=1:=by decide
theorem Qoz {a b:Nat}(ha:a<4294967296)(hb:b<4294967296)(h:a*16777619 % 4294967296=b*16777619 % 4294967296):a=b:=
 Qn1 4294967296 16777619 899433627 a b Qv0 ha hb h
theorem two32:(2:Nat) ^ 32=4294967296:=by decide
theorem Um {a b:Nat}(ha:a<4294967296)(hb:b<4294967296):a ^^^ b<4294967296:=by
 rw[←two32]at *;exact Nat.xor_lt_two_pow ha hb
theorem Vo (c:UInt8):c.toNat<4294967296:=by have:=c.toNat_lt;omega
theorem Qko {n m:Nat}{c:UInt8}(hn:n<4294967296)(hm:m<4294967296)(h:pstep n c=pstep m c):n=m:=by
 have:=Qoz (Um hn (Vo c)) (Um hm (Vo c)) h;have h2:(n ^^^ c.toNat) ^^^ c.toNat=(m ^^^ c.toNat) ^^^ c.toNat:=by rw[this]
 simpa[Nat.xor_assoc]using h2
theorem Qkx {n:Nat}{c d:UInt8}(hn:n<4294967296)(h:pstep n c=pstep n d):c=d:=by
 have:=Qoz (Um hn (Vo c)) (Um hn (Vo d)) h;have h2:n ^^^ (n ^^^ c.toNat)=n ^^^ (n ^^^ d.toNat):=by rw[this]
 rw[←Nat.xor_assoc,←Nat.xor_assoc]at h2;simp at h2;exact UInt8.toNat_inj.1 h2
theorem Qlm {n m:Nat}(hn:n<4294967296)(hm:m<4294967296)(l:List UInt8)(h:pmore n l=pmore m l):n=m:=by
 induction l generalizing n m with
 | nil=>exact h
 | cons c l ih=>rw[V4,V4]at h;exact Qko hn hm (ih (Qat n c) (Qat m c) h)
def hexDig (d:Nat):UInt8:=if d<10 then UInt8.ofNat (48+d) else UInt8.ofNat (87+d)
def hexLast:Nat→Nat→List UInt8
 | _,0=>[]
 | n,k+1=>hexLast (n / 16) k++[hexDig (n % 16)]
theorem Qm (n k:Nat):(hexLast n k).length=k:=by
 induction k generalizing n with
 | zero=>rfl
 | succ k ih=>simp[hexLast,ih]
def unhex1 (c:UInt8):Option Nat:=
 if 48≤c.toNat∧c.toNat≤57 then some (c.toNat - 48) else if 97≤c.toNat∧c.toNat≤102 then some (c.toNat - 87) else none
def unhex:Nat→List UInt8→Option Nat
 | n,[]=>some n
 | n,c::l=>match unhex1 c with|some d=>unhex (16*n+d) l|none=>none
theorem Qh0:∀d:Fin 16,unhex1 (hexDig d.val)=some d.val:=by decide
theorem Qdk (n:Nat)(a b:List UInt8):unhex n (a++b)=(unhex n a).bind fun m=>unhex m b:=by
 induction a generalizing n with
 | nil=>rfl
 | cons c a ih=>
  simp only[List.cons_append,unhex];cases unhex1 c with
  | none=>rfl
  | some d=>exact ih _
theorem Qbm (m n k:Nat)(h:n<16 ^ k):unhex m (hexLast n k)=some (m*16 ^ k+n):=by
 induction k generalizing n with
 | zero=>simp at h;subst h;simp[hexLast,unhex]
 | succ k ih=>
  rw[hexLast,Qdk,ih (n / 16) (by rw[Nat.pow_succ]at h;omega)];simp only[Option.bind_some,unhex];have:=Qh0 ⟨n % 16,by omega⟩;simp only at this;rw[this];simp only[Option.some.injEq,Nat.pow_succ];rw[←Nat.mul_assoc];omega
theorem Qf9 (l:List UInt8):∀(n v:Nat),unhex n l=some v→v<(n+1)*16 ^ l.length:=by
 induction l with
 | nil=>intro n v h;simp[unhex]at h;subst h;simp
 | cons c l ih=>
  intro n v h;simp only[unhex]at h;cases hd:unhex1 c with
  | none=>rw[hd]at h;cases h
  | some d=>
   rw[hd]at h;have h1:=ih _ _ h;have hd16:d<16:=by
    unfold unhex1 at hd;split at hd
    ·cases hd;omega
    ·split at hd
     ·cases hd;omega
     ·cases hd
   refine Nat.lt_of_lt_of_le h1 ?_;rw[List.length_cons,Nat.pow_succ,Nat.mul_comm (16 ^ l.length) 16,←Nat.mul_assoc];exact Nat.mul_le_mul_right _ (by omega)
def undec1 (c:UInt8):Option Nat:=if 48≤c.toNat∧c.toNat≤57 then some (c.toNat - 48) else none
def undec:Nat→List UInt8→Option Nat
 | n,[]=>some n
 | n,c::l=>match undec1 c with|some d=>undec (10*n+d) l|none=>none
def numOf (l:List UInt8)(most:Nat):Option Nat:=
 if l.length<1∨most<l.length∨(1<l.length∧l.head? = some 48) then none else undec 0 l
theorem Qco (n:Nat)(a b:List UInt8):undec n (a++b)=(undec n a).bind fun m=>undec m b:=by
 induction a generalizing n with
 | nil=>rfl
 | cons c a ih=>
  simp only[List.cons_append,undec];cases undec1 c with
  | none=>rfl
  | some d=>exact ih _
theorem Qfn:∀d:Fin 10,undec1 (UInt8.ofNat (48+d.val))=some d.val:=by decide
theorem K4 (u:Nat):undec 0 (Lib.decDigits u)=some u:=by
 induction u using Nat.strongRecOn with
 | _ u ih=>
  by_cases h:u<10
  ·rw[Lib.decDigits,dif_pos h];have:=Qfn ⟨u,h⟩;simp only at this;simp only[undec,this];simp
  ·rw[Lib.decDigits,dif_neg h,Qco,ih (u / 10) (by omega)];have:=Qfn ⟨u % 10,by omega⟩;simp only at this;simp only[Option.bind_some,undec,this,Option.some.injEq];omega
theorem Qfg (u:Nat)(h:10≤u):(Lib.decDigits u).head? ≠ some 48:=by
 induction u using Nat.strongRecOn with
 | _ u ih=>
  rw[Lib.decDigits,dif_neg (by omega)];by_cases h2:u / 10<10
  ·rw[Lib.decDigits,dif_pos h2];have:∀d:Fin 10,d.val≠0→UInt8.ofNat (48+d.val)≠48:=(by decide);have:=this ⟨u / 10,h2⟩ (by simp;omega);simpa using this
  ·have h3:=ih (u / 10) (by omega) (by omega);cases hl:Lib.decDigits (u / 10)with
   | nil=>simp[←List.length_eq_zero_iff,Lib.decDigits_length]at hl;have:=Lib.nDigits_pos (u / 10);omega
   | cons c l=>rw[hl]at h3;simpa using h3
theorem J4 (u k:Nat)(hk:1≤k)(h:u<10 ^ k):(Lib.decDigits u).length≤k:=by
 rw[Lib.decDigits_length]
 induction k generalizing u with
 | zero=>omega
 | succ k ih=>
  by_cases h2:u<10
  ·rw[Lib.nDigits_small h2];omega
  ·rw[Lib.nDigits_big h2];have:1≤k:=by
    rcases Nat.eq_zero_or_pos k with h0|h0
    ·subst h0;simp at h;omega
    ·exact h0
   have:=ih (u / 10) this (by rw[Nat.pow_succ]at h;omega);omega
theorem Xe (u k:Nat)(hk:1≤k)(h:u<10 ^ k):numOf (Lib.decDigits u) k=some u:=by
 have h1:=J4 u k hk h;have h2:1≤(Lib.decDigits u).length:=by rw[Lib.decDigits_length];exact Lib.nDigits_pos u
 unfold numOf;rw[if_neg,K4];rintro(h3|h3|⟨h3,h4⟩)
 ·omega
 ·omega
 ·refine Qfg u ?_ h4;rcases Nat.lt_or_ge u 10 with h5|h5
  ·rw[Lib.decDigits_length,Lib.nDigits_small h5]at h3;omega
  ·exact h5
theorem Qfh (l:List UInt8):∀(n v:Nat),undec n l=some v→v<(n+1)*10 ^ l.length:=by
 induction l with
 | nil=>intro n v h;simp[undec]at h;subst h;simp
 | cons c l ih=>
  intro n v h;simp only[undec]at h;cases hd:undec1 c with
  | none=>rw[hd]at h;cases h
  | some d=>
   rw[hd]at h;have h1:=ih _ _ h;have hd10:d<10:=by
    unfold undec1 at hd;split at hd
    ·cases hd;omega
    ·cases hd
   refine Nat.lt_of_lt_of_le h1 ?_;rw[List.length_cons,Nat.pow_succ,Nat.mul_comm (10 ^ l.length) 10,←Nat.mul_assoc];exact Nat.mul_le_mul_right _ (by omega)
def idText (n l:Nat):List UInt8:=hexLast n 8++45::Lib.decDigits l
def idRead (t:List UInt8):Option (Nat×Nat):=
 if t.length≤8∨t[8]? ≠ some 45 then none else
  match unhex 0 (t.take 8),numOf (t.drop 9) 6 with
  | some n,some l=>some (n,l)
  | _,_=>none
theorem Qbv (n l:Nat)(hn:n<4294967296)(hl:l<1000000):idRead (idText n l)=some (n,l):=by
 have h8:=Qm n 8;unfold idRead idText;rw[if_neg]
 ·have h1:(hexLast n 8++45::Lib.decDigits l).take 8=hexLast n 8:=by rw[List.take_append_of_le_length (by omega),List.take_of_length_le (by omega)]
  have h2:(hexLast n 8++45::Lib.decDigits l).drop 9=Lib.decDigits l:=by rw[List.drop_append,h8];simp[h8]
  rw[h1,h2,Qbm 0 n 8 (by omega),Xe l 6 (by decide) (by omega)];simp
 ·rintro(h|h)
  ·simp[h8]at h;omega
  ·apply h;rw[List.getElem?_append_right (by omega),h8];rfl
def Qc (p:List UInt8):Nat×Int:=(pmore 2166136261 p,(p.length:Int))
def Qo (a b:Nat×Int):Bool:=if (a.1:Int)=(b.1:Int) then decide (a.2<b.2) else decide ((a.1:Int)<(b.1:Int))
theorem Kb (a b:Nat×Int):Qo a b=true↔a.1<b.1∨(a.1=b.1∧a.2<b.2):=by
 unfold Qo;split
 ·rename_i h
  simp only[decide_eq_true_eq];omega
 ·rename_i h
  simp only[decide_eq_true_eq];omega
open Go.RowKit
theorem Un (s:ByteArray)(k:Nat)(h:k<s.size):s.data.toList.take (k+1)=s.data.toList.take k++[s[k]]:=by
 rw[List.take_succ_eq_append_getElem (by simpa using h)];rfl
theorem Qon {k:IntKind}{a b:Int}(h:a=b):Ending.returned (.int k a)=.returned (.int k b):=by rw[h]
theorem Qjh {k:IntKind}{a b:Int}(h:a=b):Value.int k a=.int k b:=by rw[h]
theorem Qq3 (n:Nat)(c:UInt8)(hn:n<4294967296):bits .xor .u32 (n:Int) ((c.toNat:Int) % 4294967296)*16777619 % 4294967296=((pstep n c:Nat):Int):=by
 have hc:=Vo c;rw[show((c.toNat:Int) % 4294967296)=((c.toNat:Nat):Int) by omega,u32_xor_nat n c.toNat hn hc];unfold pstep;rw[Int.natCast_emod,Int.natCast_mul];rfl
theorem Qkj (a b:Nat)(ha:a<4294967296)(hb:b<4294967296):bits .xor .i64 (a:Int) (b:Int)=((a ^^^ b:Nat):Int):=by
 have hx:=Um ha hb;have e64:IntKind.i64.bits=64:=rfl;have p64:(2:Nat) ^ 64=18446744073709551616:=by decide
 have ha':a % 2 ^ IntKind.i64.bits=a:=Nat.mod_eq_of_lt (by rw[e64,p64];omega);have hb':b % 2 ^ IntKind.i64.bits=b:=Nat.mod_eq_of_lt (by rw[e64,p64];omega);simp only[bits,BitVec.ofInt_natCast,BitVec.toNat_xor,BitVec.toNat_ofNat,ha',hb'];rw[IntKind.wrap_i64];omega
theorem Qld (n:Nat)(c:UInt8)(hn:n<4294967296):(wrap64 (bits .xor .i64 (n:Int) (wrap64 (c.toNat:Int))*16777619)).tmod 4294967296=((pstep n c:Nat):Int):=by
 have hc:=Vo c;have hx:=Um hn hc;rw[IntWalk.wrap64_in (c.toNat:Int) (by omega),Qkj n c.toNat hn hc,IntWalk.wrap64_in _ (by omega)];unfold pstep;rw[Int.tmod_eq_emod_of_nonneg (by omega),Int.natCast_emod,Int.natCast_mul];rfl
theorem Qsp (n:Nat)(hn:n<4294967296)(s:ByteArray)(w:World)(hs:s.size≤maxLen) :
 Calls Tryz.prog 235 #[.int .u32 n,.string s] w fun e w'=>e=.returned (.int .u32 (pmore n s.data.toList:Nat))∧w'=w:=by
 unfold maxLen at hs;go_enter Tryz.func235,Tryz.ntmps235
 go_wp2
 go_loop [0,8] (fun q i=>∃k:Nat,k≤s.size∧i=.int .i64 k∧q=.int .u32 (pmore n (s.data.toList.take k):Nat)) (fun _ i=>s.size - (intOf i).toNat)
 case atStart=>exact⟨0,Nat.zero_le _,rfl,by simp[Ue]⟩
 case round=>
  obtain⟨k,hk,rfl,rfl⟩:=hrel;by_cases hlt:k<s.size
  ·have hst:=Qq3 (pmore n (s.data.toList.take k)) s[k] (Zr n hn _);rw[←Qgh,←Un s k hlt]at hst;have HS:=hst;clear hst;generalize pmore n (s.data.toList.take k)=m at *;have HS':Hid (bits .xor .u32 (m:Int) ((s[k].toNat:Int) % 4294967296)*16777619 % 4294967296=((pmore n (s.data.toList.take (k+1)):Nat):Int)):=HS;clear HS
   go_wp2
   go_round
   case rel=>exact⟨k+1,by omega,by go_num,by rw[HS'.out]⟩
   case measure=>simp[intOf];omega
  ·go_wp2
   go_ret;exact⟨Qon (by rw[List.take_of_length_le (by simp;omega)]),rfl⟩
theorem Qdn (s:ByteArray)(w:World)(hs:s.size≤maxLen) :
 Calls Tryz.prog 174 #[.string s] w fun e w'=>e=.returned (.int .u32 (pmore 2166136261 s.data.toList:Nat))∧w'=w:=by go_enter Tryz.func174,Tryz.ntmps174;go_wp2_with fail;refine(Qsp 2166136261 (by decide) s _ hs).mono ?_;rintro e w' ⟨rfl,rfl⟩;go_wp2_with fail;go_ret;exact⟨rfl,rfl⟩
abbrev idV (n l:Int):Value:=.agg #[.int .u32 n,.int .i64 l]
theorem Y0 (s:ByteArray)(w:World)(hs:s.size≤maxLen) :
 Calls Tryz.prog 168 #[.string s] w fun e w'=>e=.returned (idV (pmore 2166136261 s.data.toList:Nat) s.size)∧Below w.heap.size w w':=by have hs':=hs;unfold maxLen at hs';go_enter Tryz.func168,Tryz.ntmps168;go_wp2_with fail;refine(Qdn s _ hs).mono ?_;rintro e w' ⟨rfl,rfl⟩;go_wp2_with fail;exact bodyPost_ret (v:=idV (pmore 2166136261 s.data.toList:Nat) s.size) (by simp[results,Tryz.results168,go_sem]) rfl ⟨rfl,(Below.refl _ _).alloc wz _⟩
theorem Qhz (n:Nat)(hn:n<4294967296)(s:ByteArray)(w:World)(hs:s.size≤maxLen) :
 Calls Tryz.prog 201 #[.int .u32 n,.string s] w fun e w'=>e=.returned (.int .u32 (pmore n s.data.toList:Nat))∧w'=w:=by
 unfold maxLen at hs;go_enter Tryz.func201,Tryz.ntmps201
 go_wp2
 go_loop [5,6] (fun q i=>∃k:Nat,k≤s.size∧i=.int .i64 k∧q=.int .i64 (pmore n (s.data.toList.take k):Nat)) (fun _ i=>s.size - (intOf i).toNat)
 case atStart=>exact⟨0,Nat.zero_le _,rfl,by simp[Ue]⟩
 case round=>
  obtain⟨k,hk,rfl,rfl⟩:=hrel;have hml:=Zr n hn (s.data.toList.take k);by_cases hlt:k<s.size
  ·have hst:=Qld (pmore n (s.data.toList.take k)) s[k] hml;rw[←Qgh,←Un s k hlt]at hst;generalize pmore n (s.data.toList.take k)=m at *;have HS:Hid ((wrap64 (bits .xor .i64 (m:Int) (wrap64 (s[k].toNat:Int))*16777619)).tmod 4294967296=((pmore n (s.data.toList.take (k+1)):Nat):Int)):=hst;clear hst
   go_wp2
   go_round
   case rel=>exact⟨k+1,by omega,by go_num,by rw[HS.out]⟩
   case measure=>simp[intOf];omega
  ·go_wp2
   go_ret;exact⟨Qon (by rw[List.take_of_length_le (by simp;omega)]),rfl⟩
theorem Qeb (s:ByteArray)(w:World)(hs:s.size≤maxLen) :
 Calls Tryz.prog 121 #[.string s] w fun e w'=>e=.returned (.int .u32 (pmore 2166136261 s.data.toList:Nat))∧w'=w:=by go_enter Tryz.func121,Tryz.ntmps121;go_wp2_with fail;refine(Qhz 2166136261 (by decide) s _ hs).mono ?_;rintro e w' ⟨rfl,rfl⟩;go_wp2_with fail;go_ret;exact⟨rfl,rfl⟩
theorem Qap (s:ByteArray)(w:World)(hs:s.size≤maxLen) :
 Calls Tryz.prog 43 #[.string s] w fun e w'=>e=.returned (idV (pmore 2166136261 s.data.toList:Nat) s.size)∧Below w.heap.size w w':=by have hs':=hs;unfold maxLen at hs';go_enter Tryz.func43,Tryz.ntmps43;go_wp2_with fail;refine(Qeb s _ hs).mono ?_;rintro e w' ⟨rfl,rfl⟩;go_wp2_with fail;exact bodyPost_ret (v:=idV (pmore 2166136261 s.data.toList:Nat) s.size) (by simp[results,Tryz.results43,go_sem]) rfl ⟨rfl,(Below.refl _ _).alloc wz _⟩
theorem Kn (a b c d:Int)(w:World) :
 Calls Tryz.prog 110 #[idV a b,idV c d] w fun e w'=>e=.returned (.bool (if a=c then decide (b<d) else decide (a<c)))∧Below w.heap.size w w':=by
 by_cases h:a=c
 ·subst h;go_enter Tryz.func110,Tryz.ntmps110
  go_wp2
  go_ret;exact⟨by simp,((Below.refl _ _).alloc wz _).alloc (by simp) _⟩
 ·have h':(a != c)=true:=by simpa using h
  go_enter Tryz.func110,Tryz.ntmps110
  go_wp2
  go_ret;exact⟨by simp,((Below.refl _ _).alloc wz _).alloc (by simp) _⟩
theorem Kj (a b c d:Int)(w:World) :
 Calls Tryz.prog 91 #[idV a b,idV c d] w fun e w'=>e=.returned (.bool (if a=c then decide (b<d) else decide (a<c)))∧Below w.heap.size w w':=by
 by_cases h:a=c
 ·subst h;go_enter Tryz.func91,Tryz.ntmps91
  go_wp2
  go_ret;exact⟨by simp,((Below.refl _ _).alloc wz _).alloc (by simp) _⟩
 ·have h':(a != c)=true:=by simpa using h
  go_enter Tryz.func91,Tryz.ntmps91
  go_wp2
  go_ret;exact⟨by simp,((Below.refl _ _).alloc wz _).alloc (by simp) _⟩
def Zv (x:Nat×Int):Prop:=x.1<4294967296∧-9223372036854775808≤x.2∧x.2≤9223372036854775807
abbrev Hd:=(Nat×Int)×Int×List UInt8
abbrev heldV (h:Hd):Value:=.agg #[.int .u32 (h.1.1:Nat),.int .i64 h.1.2,.int .i64 h.2.1,.string ⟨h.2.2.toArray⟩]
def heldCells:List Hd→List Value
 | []=>[]
 | h::r=>.int .u32 (h.1.1:Nat)::.int .i64 h.1.2::.int .i64 h.2.1::.string ⟨h.2.2.toArray⟩::heldCells r
theorem Z4:∀(a b:List Hd),heldCells (a++b)=heldCells a++heldCells b
 | [],_=>rfl
 | x::r,b=>by rw[List.cons_append,heldCells,Z4 r b,heldCells];rfl
theorem Zf:∀(a:List Hd),(heldCells a).length=a.length*4
 | []=>rfl
 | x::r=>by rw[heldCells,List.length_cons,List.length_cons,List.length_cons,List.length_cons,Zf r,List.length_cons];omega
theorem J8:∀(a:List Hd) (i:Nat) (h:i<a.length),(heldCells a)[i*4]? = some (.int .u32 (a[i].1.1:Nat))∧(heldCells a)[i*4+1]? = some (.int .i64 a[i].1.2)∧(heldCells a)[i*4+2]? = some (.int .i64 a[i].2.1)∧(heldCells a)[i*4+3]? = some (.string ⟨a[i].2.2.toArray⟩)
 | x::r,0,_=>⟨rfl,rfl,rfl,rfl⟩
 | x::r,i+1,h=>by have:=J8 r i (by simpa using h);rw[show(i+1)*4=i*4+1+1+1+1 by omega];exact this
theorem Zm (l:List Hd):∀u∈heldCells l,u.oneCell'=true:=by
 induction l with
 | nil=>simp[heldCells]
 | cons x r ih=>
  intro u hu;simp only[heldCells,List.mem_cons]at hu;rcases hu with rfl|rfl|rfl|rfl|hu
  ·rfl
  ·rfl
  ·rfl
  ·rfl
  ·exact ih u hu
def Z8:List Hd→Nat×Int→Option Nat
 | [],_=>none
 | h::r,x=>if h.1=x then some 0 else (Z8 r x).map (· + 1)
def Yb (l:List Hd)(x:Nat×Int):Int:=match Z8 l x with|some k=>(k:Int)|none=>-1
theorem Qlq:∀(l:List Hd) (x:Nat×Int) (k:Nat) (h:k<l.length),(∀j (hj:j<l.length),j<k→l[j].1≠x)→l[k].1=x→Z8 l x=some k
 | [],_,_,h,_,_=>by simp at h
 | y::r,x,0,_,_,he=>by have he':y.1=x:=he;rw[Z8,if_pos he']
 | y::r,x,k+1,h,ha,he=>by have h0:y.1≠x:=ha 0 (by simp) (by omega);rw[Z8,if_neg h0,Qlq r x k (by simpa using h) (fun j hj hk=>by have:=ha (j+1) (by simpa using hj) (by omega);simpa using this) (by simpa using he)];rfl
theorem Qfo:∀(l:List Hd) (x:Nat×Int),(∀j (hj:j<l.length),l[j].1≠x)→Z8 l x=none
 | [],_,_=>rfl
 | y::r,x,ha=>by have h0:y.1≠x:=ha 0 (by simp);rw[Z8,if_neg h0,Qfo r x (fun j hj=>by have:=ha (j+1) (by simpa using hj);simpa using this)];rfl
theorem Jg:∀{l:List Hd} {x:Nat×Int} {k:Nat},Z8 l x=some k→∃h:k<l.length,l[k].1=x
 | [],_,_,h=>by cases h
 | y::r,x,k,h=>by
  rw[Z8]at h;split at h
  ·rename_i he
   cases h;exact⟨by simp,he⟩
  ·cases hr:Z8 r x with
   | none=>rw[hr]at h;cases h
   | some j=>
    rw[hr]at h;cases h;obtain⟨hj,he⟩:=Jg hr;exact⟨by simpa using hj,by simpa using he⟩
theorem J2:∀{l:List Hd} {x:Nat×Int},Z8 l x=none→∀h∈l,h.1≠x
 | [],_,_,_,hm=>by cases hm
 | y::r,x,h,z,hm=>by
  rw[Z8]at h;split at h
  ·cases h
  ·rename_i hne
   cases hr:Z8 r x with
   | some j=>rw[hr]at h;cases h
   | none=>
    rcases List.mem_cons.1 hm with rfl|hm
    ·exact hne
    ·exact J2 hr z hm
def hPlace:List Hd→Nat×Int→Nat
 | [],_=>0
 | h::r,x=>if Qo h.1 x=true then hPlace r x+1 else 0
theorem Qit:∀(l:List Hd) (x:Nat×Int),hPlace l x≤l.length
 | [],_=>wz
 | h::r,x=>by
  rw[hPlace];split
  ·have:=Qit r x;simp;omega
  ·simp
theorem Qdx:∀(l:List Hd) (x:Nat×Int) (k:Nat),k≤l.length→(∀j (hj:j<l.length),j<k→Qo l[j].1 x=true)→(∀h:k<l.length,Qo l[k].1 x=false)→hPlace l x=k
 | [],_,k,h,_,_=>by simp at h;simp[hPlace,h]
 | y::r,x,0,_,_,he=>by have he':Qo y.1 x=false:=he (by simp);rw[hPlace,he'];rfl
 | y::r,x,k+1,h,ha,he=>by have h0:Qo y.1 x=true:=ha 0 (by simp) (by omega);rw[hPlace,if_pos h0,Qdx r x k (by simpa using h) (fun j hj hk=>by have:=ha (j+1) (by simpa using hj) (by omega);simpa using this) (fun h'=>by have:=he (by simpa using h');simpa using this)]
def hIns (l:List Hd)(h:Hd):List Hd:=l.take (hPlace l h.1)++h::l.drop (hPlace l h.1)
def hUse (d:Int)(h:Hd):Hd:=(h.1,h.2.1+d,h.2.2)
def Zu (l:List Hd)(s:List UInt8):((Nat×Int)×Bool×Int)×List Hd:=
 if s.length<1∨64<s.length then (((0,0),false,2),l) else
  match Z8 l (Qc s)with
  | some k=>if (l[k]?.map (·.2.2))=some s then ((Qc s,false,0),l.modify k (hUse 1)) else (((0,0),false,10),l)
  | none=>if 250≤l.length then (((0,0),false,7),l) else ((Qc s,true,0),hIns l (Qc s,1,s))
def Jw (l:List Hd)(x:Nat×Int):Int×List Hd:=
 match Z8 l x with
 | some k=>if (l[k]?.map (·.2.1))=some 0 then (11,l) else (0,l.modify k (hUse (-1)))
 | none=>(5,l)
def unused (h:Hd):Bool:=decide (h.2.1=0)
def Qx (l:List Hd):Int:=(l.map (·.1.2)).sum
def Q8 (l:List Hd):Int×List Hd:=(Qx (l.filter unused),l.filter (fun h => !unused h))
theorem Qoc (l:List Hd)(k:Nat)(h:k<l.length):Qx (l.take (k+1))=Qx (l.take k)+l[k].1.2:=by
 rw[List.take_succ_eq_append_getElem h,Qx,List.map_append,List.sum_append];simp[Qx]
theorem Gq:∀(l:List Hd) (b:Int),0≤b→(∀h∈l,0≤h.1.2∧h.1.2≤b)→0≤Qx l∧Qx l≤l.length*b
 | [],b,_,_=>by simp[Qx]
 | x::r,b,hb,ha=>by
  have h1:=Gq r b hb (fun h hm=>ha h (List.mem_cons_of_mem _ hm));have h2:=ha x (List.mem_cons_self ..);have e:Qx (x::r)=x.1.2+Qx r:=by simp[Qx]
  rw[e,List.length_cons];have e2:((r.length+1:Nat):Int)*b=r.length*b+b:=by push_cast;rw[Int.add_mul,Int.one_mul]
  omega
theorem K3 {a b c:Nat×Int}(h1:Qo a b=true)(h2:Qo b c=true):Qo a c=true:=by
 rw[Kb]at *;omega
theorem Vd (a:Nat×Int):Qo a a=false:=by
 cases h:Qo a a with
 | false=>rfl
 | true=>rw[Kb]at h;omega
theorem Qck {a b:Nat×Int}(h:Qo a b=false)(hn:a≠b):Qo b a=true:=by
 rw[Kb];have h':¬(a.1<b.1∨(a.1=b.1∧a.2<b.2)):=fun e=>by rw[←Kb,h]at e;cases e
 have h2:¬(a.1=b.1∧a.2=b.2):=fun e=>hn (Prod.ext e.1 e.2);omega
theorem Kr {a b:Nat×Int}(h:Qo a b=true):a≠b:=fun e=>by subst e;rw[Vd]at h;cases h
def Y7 (l:List Hd):Prop:=l.Pairwise (fun a b=>Qo a.1 b.1=true)
structure Qd (U:Int)(l:List Hd):Prop where
 many:l.length≤250
 each:∀h∈l,h.1=Qc h.2.2∧(1≤h.2.2.length∧h.2.2.length≤64)∧0≤h.2.1∧h.2.1≤U
 rise:Y7 l
theorem Qd.nil (U:Int):Qd U []:=⟨by simp,(fun h hm=>by simp at hm),List.Pairwise.nil⟩
theorem Qd.mono {U V:Int}{l:List Hd}(h:Qd U l)(hv:U≤V):Qd V l:=⟨h.many,fun x hx=>by obtain⟨a,b,c,d⟩:=h.each x hx;exact⟨a,b,c,by omega⟩,h.rise⟩
theorem Qd.lens {U:Int}{l:List Hd}(h:Qd U l):∀x∈l,0≤x.1.2∧x.1.2≤64:=fun x hx=>by
 obtain⟨a,b,_⟩:=h.each x hx;rw[a];simp only[Qc];omega
theorem Qd.uses {U V:Int}{l:List Hd}(h:Qd U l)(hv:U≤V):∀x∈l,0≤x.2.1∧x.2.1≤V:=fun x hx=>by
 obtain⟨_,_,a,b⟩:=h.each x hx;omega
theorem Qfy:∀(l:List Hd) (x:Nat×Int),∀h∈l.take (hPlace l x),Qo h.1 x=true
 | [],_,h,hm=>by simp at hm
 | y::r,x,h,hm=>by
  rw[hPlace]at hm;split at hm
  ·rename_i hy
   rw[List.take_succ_cons]at hm;rcases List.mem_cons.1 hm with rfl|hm
   ·exact hy
   ·exact Qfy r x h hm
  ·simp at hm
theorem Qfp:∀(l:List Hd) (x:Nat×Int),Y7 l→(∀h∈l,h.1≠x)→∀h∈l.drop (hPlace l x),Qo x h.1=true
 | [],_,_,_,h,hm=>by simp at hm
 | y::r,x,hr,hn,h,hm=>by
  rw[hPlace]at hm;obtain⟨hy,hr'⟩:=List.pairwise_cons.1 hr;split at hm
  ·rw[List.drop_succ_cons]at hm;exact Qfp r x hr' (fun z hz=>hn z (List.mem_cons_of_mem _ hz)) h hm
  ·rename_i hnl
   have h1:Qo x y.1=true:=Qck (by simpa using hnl) (hn y (List.mem_cons_self ..));rw[List.drop_zero]at hm;rcases List.mem_cons.1 hm with rfl|hm
   ·exact h1
   ·exact K3 h1 (hy h hm)
theorem Qqs {l:List Hd}{h:Hd}(hr:Y7 l)(hn:∀x∈l,x.1≠h.1):Y7 (hIns l h):=by
 unfold hIns Y7;have ht:=Qfy l h.1;have hd:=Qfp l h.1 hr hn;have hs:(l.take (hPlace l h.1)++l.drop (hPlace l h.1)).Pairwise (fun a b=>Qo a.1 b.1=true):=by rw[List.take_append_drop];exact hr
 obtain⟨h1,h2,h3⟩:=List.pairwise_append.1 hs;refine List.pairwise_append.2 ⟨h1,List.pairwise_cons.2 ⟨hd,h2⟩,fun a ha b hb => ?_⟩;rcases List.mem_cons.1 hb with rfl|hb
 ·exact ht a ha
 ·exact h3 a ha b hb
theorem hIns_mem {l:List Hd}{h x:Hd}(hx:x∈hIns l h):x=h∨x∈l:=by
 unfold hIns at hx;rcases List.mem_append.1 hx with hx|hx
 ·exact .inr (List.mem_of_mem_take hx)
 ·rcases List.mem_cons.1 hx with rfl|hx
  ·exact .inl rfl
  ·exact .inr (List.mem_of_mem_drop hx)
theorem Qdi {l:List Hd}{h x:Hd}(hx:x=h∨x∈l):x∈hIns l h:=by
 unfold hIns;rcases hx with rfl|hx
 ·exact List.mem_append_right _ (List.mem_cons_self ..)
 ·have:x∈l.take (hPlace l h.1)++l.drop (hPlace l h.1):=by rw[List.take_append_drop];exact hx
  rcases List.mem_append.1 this with h1|h1
  ·exact List.mem_append_left _ h1
  ·exact List.mem_append_right _ (List.mem_cons_of_mem _ h1)
theorem Qke (l:List Hd)(h:Hd):(hIns l h).length=l.length+1:=by
 have:=Qit l h.1;unfold hIns;simp;omega
theorem Qep {l:List Hd}(k:Nat)(d:Int)(hr:Y7 l):Y7 (l.modify k (hUse d)):=by
 unfold Y7 at *;rw[List.pairwise_iff_getElem]at *;intro i j hi hj hij;rw[List.length_modify]at hi hj;have:=hr i j hi hj hij;rw[List.getElem_modify,List.getElem_modify];split<;>split<;>simpa[hUse]using this
theorem Qg2 {l:List Hd}{k:Nat}{d:Int}{x:Hd}(hx:x∈l.modify k (hUse d)):∃y∈l,x=y∨(x=hUse d y∧∃h:k<l.length,l[k]=y):=by
 obtain⟨i,hi,rfl⟩:=List.getElem_of_mem hx;rw[List.length_modify]at hi;rw[List.getElem_modify];split
 ·rename_i e
  subst e;exact⟨l[k],List.getElem_mem _,.inr ⟨rfl,hi,rfl⟩⟩
 ·exact⟨l[i],List.getElem_mem _,.inl rfl⟩
theorem Qcn {U:Int}{l:List Hd}(h:Qd U l)(s:List UInt8)(hU:0≤U):Qd (U+1) (Zu l s).2:=by
 unfold Zu;split
 ·exact h.mono (by omega)
 ·rename_i hs
  split
  ·rename_i k hf
   split
   ·refine⟨by rw[List.length_modify];exact h.many,fun x hx => ?_,Qep k 1 h.rise⟩;obtain⟨y,hy,e⟩:=Qg2 hx;obtain⟨a,b,c,d⟩:=h.each y hy;rcases e with rfl|⟨rfl,_⟩
    ·exact⟨a,b,c,by omega⟩
    ·exact⟨a,b,by show 0≤y.2.1+1;omega,by show y.2.1+1≤U+1;omega⟩
   ·exact h.mono (by omega)
  ·rename_i hf
   split
   ·exact h.mono (by omega)
   ·rename_i hl
    refine⟨by rw[Qke];omega,fun x hx => ?_,Qqs h.rise (J2 hf)⟩;rcases hIns_mem hx with rfl|hx
    ·exact⟨rfl,by show 1≤s.length∧s.length≤64;omega,by show(0:Int)≤1;decide,by show(1:Int)≤U+1;omega⟩
    ·obtain⟨a,b,c,d⟩:=h.each x hx;exact⟨a,b,c,by omega⟩
theorem Qc4 {U:Int}{l:List Hd}(h:Qd U l)(x:Nat×Int):Qd U (Jw l x).2:=by
 unfold Jw;split
 ·rename_i k hf
  split
  ·exact h
  ·rename_i hz
   refine⟨by rw[List.length_modify];exact h.many,fun z hx => ?_,Qep k (-1) h.rise⟩;obtain⟨y,hy,e⟩:=Qg2 hx;obtain⟨a,b,c,d⟩:=h.each y hy;rcases e with rfl|⟨rfl,hk,rfl⟩
   ·exact⟨a,b,c,d⟩
   ·have hne:l[k].2.1≠0:=fun e=>hz (by rw[List.getElem?_eq_getElem hk,Option.map_some,e]);exact⟨a,b,by show 0≤l[k].2.1+-1;omega,by show l[k].2.1+-1≤U;omega⟩
 ·exact h
theorem Qqb {U:Int}{l:List Hd}(h:Qd U l):Qd U (Q8 l).2:=
 ⟨Nat.le_trans (List.length_filter_le _ _) h.many,fun x hx=>h.each x (List.mem_filter.1 hx).1,h.rise.filter _⟩
theorem V3 {l:List Hd}(hr:Y7 l){x y:Hd}(hx:x∈l)(hy:y∈l)(e:x.1=y.1):x=y:=by
 obtain⟨i,hi,rfl⟩:=List.getElem_of_mem hx;obtain⟨j,hj,rfl⟩:=List.getElem_of_mem hy;unfold Y7 at hr;rw[List.pairwise_iff_getElem]at hr;rcases Nat.lt_trichotomy i j with h|h|h
 ·exact(Kr (hr i j hi hj h) e).elim
 ·subst h;rfl
 ·exact(Kr (hr j i hj hi h) e.symm).elim
theorem Qih {l:List Hd}{x:Hd}(hx:x∈l):∃k,Z8 l x.1=some k:=by
 cases h:Z8 l x.1 with
 | some k=>exact⟨k,rfl⟩
 | none=>exact(J2 h x hx rfl).elim
theorem Qks:∀{a b:List Hd},Y7 a→Y7 b→(∀x,x∈a↔x∈b)→a=b
 | [],[],_,_,_=>rfl
 | [],y::r,_,_,h=>by have:=(h y).2 (List.mem_cons_self ..);cases this
 | x::r,[],_,_,h=>by have:=(h x).1 (List.mem_cons_self ..);cases this
 | x::r,y::t,ha,hb,h=>by
  obtain⟨ha1,ha2⟩:=List.pairwise_cons.1 ha;obtain⟨hb1,hb2⟩:=List.pairwise_cons.1 hb;have exy:x=y:=by
   rcases List.mem_cons.1 ((h x).1 (List.mem_cons_self ..))with e|hx
   ·exact e
   ·rcases List.mem_cons.1 ((h y).2 (List.mem_cons_self ..))with e|hy
    ·exact e.symm
    ·have h1:=hb1 x hx;have h2:=ha1 y hy;have:=K3 h1 h2;rw[Vd]at this;cases this
  subst exy;congr 1;refine Qks ha2 hb2 fun z=>⟨fun hz => ?_,fun hz => ?_⟩
  ·rcases List.mem_cons.1 ((h z).1 (List.mem_cons_of_mem _ hz))with e|hz'
   ·subst e;exact(Kr (ha1 z hz) rfl).elim
   ·exact hz'
  ·rcases List.mem_cons.1 ((h z).2 (List.mem_cons_of_mem _ hz))with e|hz'
   ·subst e;exact(Kr (hb1 z hz) rfl).elim
   ·exact hz'
end Go.Proofs.YtjngnnbondejaabGreatDoor
