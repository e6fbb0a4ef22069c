/-
  Own text. errors.New, errors.As and errors.Is by contracts at this program's numbers, for errors of the two makes that the program has: errors.New's sentinels and api.Fault round one. Conditions: each theorem's own.
  Own text. errors.Is by contracts at this program's numbers: the target is a sentinel of errors.New's make; the error is a sentinel, or an api.Fault round one. Conditions: each theorem's own.
  Own text. plain.Code by contracts: nil, a sentinel, an api.Fault round a sentinel, another error of errors.New's make. Condition: the world holds the twelve sentinels and errors' own handle of the type error, as the program's text lays them ('ErrW').
  Own text. From what a row lists of the sentinels and of errors' handle ('laid') to what the walks ask of the world ('ErrW').
-/
import Derived.Test.YtcbcjefefmbccabGreatDoorChecked
import Derived.WalkKit
import Derived.LaidEql
import Derived.Stop.Asserts
import Derived.RowKitTokens
import Derived.Below
import Derived.Test.YtcbcjefefmbccabGreatDoorRows
import Derived.LaidLaws
import Derived.LaidHandle
import Derived.LaidSub
import Derived.Stop.LaidErr
import Derived.Stop.Joined
namespace Go.Proofs.YtcbcjefefmbccabGreatDoor
open Go.RowKit Go.Extern.Stop Go.Stop Go.Extern

/- errors.New(s): one new block. -/
theorem as_nil (t : Value) (w : World) :
    Calls Tryz.prog 121 #[.nilIface, t] w fun e w' => e = .returned (.bool false) ∧ w' = w := by
  go_enter Tryz.func121, Tryz.ntmps121
  go_wp2
  go_ret
  exact ⟨rfl, rfl⟩

/- Closed facts on the entries for internal/reflectlite. -/
theorem eValueOfPP (t : Addr) (w : World) : (ReflectliteValue.unpack (.iface 188 (.pointer (some t)))).run Tryz.prog w
    = .ok (.agg #[.pointer (some ⟨19, 188, none⟩), .pointer (some ⟨w.heap.size, 0, none⟩), .int .u64 150]) (w.alloc (.cells #[.pointer (some t)] 188)) := by kernel_rfl
theorem eTypePP (a : Addr) (w : World) : (ReflectliteValue.methodAny (ReflectliteValue.valueError "reflectlite.Value.Type" 0) (fun t _ _ _ => ReflectliteType.toType t) #[.agg #[.pointer (some ⟨19, 188, none⟩), .pointer (some a), .int .u64 150]]).run Tryz.prog w
    = .ok (.iface 259 (.agg #[.pointer (some ⟨19, 188, none⟩)])) w := by kernel_rfl
theorem eMethodKind (h : Value) (w : World) : (Go.method 485 259 (.agg #[h]) "Kind").run Tryz.prog w = .ok (298, h) w := by kernel_rfl
theorem eKindPP (w : World) : ((ReflectliteType.abiMethod fun t => (fun a : Nat => Value.int IntKind.u8 (a : Int)) <$> Rtype.kind t) #[.pointer (some ⟨19, 188, none⟩)]).run Tryz.prog w = .ok (.int .u8 22) w := by kernel_rfl
theorem eKindP (w : World) : ((ReflectliteType.abiMethod fun t => (fun a : Nat => Value.int IntKind.u8 (a : Int)) <$> Rtype.kind t) #[.pointer (some ⟨19, 186, none⟩)]).run Tryz.prog w = .ok (.int .u8 22) w := by kernel_rfl
theorem eOneArm (v : Value) (f : Value → Sem Value) (g : Array Value → Sem Value) : ReflectliteValue.method.match_2 (fun _ => Sem Value) #[v] f g = f v := rfl
theorem ePartsPP (a : Addr) (w : World) : (ReflectliteValue.parts (.agg #[.pointer (some ⟨19, 188, none⟩), .pointer (some a), .int .u64 150])).run Tryz.prog w = .ok (some (188, a, 150)) w := by kernel_rfl
theorem eIsNilPP (a p : Addr) (W : World) (ha : W.cell? a = some (.pointer (some p))) :
    (ReflectliteValue.method (ReflectliteValue.valueError "reflectlite.Value.IsNil" 0) ReflectliteValue.isNil #[.agg #[.pointer (some ⟨19, 188, none⟩), .pointer (some a), .int .u64 150]]).run Tryz.prog W = .ok (.bool false) W := by
  unfold ReflectliteValue.method
  rw [eOneArm]
  simp only [Sem.run_bind, ePartsPP, Result.andThen]
  simp [ReflectliteValue.isNil, loadVar, isAgg, underlying, Tryz.underlying188, ha, Result.andThen]
theorem eMethodElem (h : Value) (w : World) : (Go.method 485 259 (.agg #[h]) "Elem").run Tryz.prog w = .ok (310, .agg #[h]) w := by kernel_rfl
theorem eMethodImplements (h : Value) (w : World) : (Go.method 485 259 (.agg #[h]) "Implements").run Tryz.prog w = .ok (311, .agg #[h]) w := by kernel_rfl
theorem eMethodAssignableTo (h : Value) (w : World) : (Go.method 485 259 (.agg #[h]) "AssignableTo").run Tryz.prog w = .ok (308, .agg #[h]) w := by kernel_rfl
theorem eElemPP (w : World) : (ReflectliteType.method ReflectliteType.elem #[.agg #[.pointer (some ⟨19, 188, none⟩)]]).run Tryz.prog w = .ok (.iface 259 (.agg #[.pointer (some ⟨19, 186, none⟩)])) w := by kernel_rfl
theorem eImplementsP (w : World) : (ReflectliteType.relation "Implements" ReflectliteType.implements_ #[.agg #[.pointer (some ⟨19, 186, none⟩)], .iface 259 (.agg #[.pointer (some ⟨19, 42, none⟩)])]).run Tryz.prog w = .ok (.bool true) w := by kernel_rfl
theorem eTypeOfP (v : Value) (w : World) : (ReflectliteType.typeOf #[.iface 186 v]).run Tryz.prog w = .ok (.iface 259 (.agg #[.pointer (some ⟨19, 186, none⟩)])) w := by kernel_rfl
theorem eAssignableP (w : World) : (ReflectliteType.relation "AssignableTo" ReflectliteType.assignableTo #[.agg #[.pointer (some ⟨19, 186, none⟩)], .iface 259 (.agg #[.pointer (some ⟨19, 186, none⟩)])]).run Tryz.prog w = .ok (.bool true) w := by kernel_rfl
theorem eTypeOfE (v : Value) (w : World) : (ReflectliteType.typeOf #[.iface 356 v]).run Tryz.prog w = .ok (.iface 259 (.agg #[.pointer (some ⟨19, 356, none⟩)])) w := by kernel_rfl
theorem eAssignableE (w : World) : (ReflectliteType.relation "AssignableTo" ReflectliteType.assignableTo #[.agg #[.pointer (some ⟨19, 356, none⟩)], .iface 259 (.agg #[.pointer (some ⟨19, 186, none⟩)])]).run Tryz.prog w = .ok (.bool false) w := by kernel_rfl
theorem eValueOfP (e : Addr) (w : World) : (ReflectliteValue.unpack (.iface 186 (.pointer (some e)))).run Tryz.prog w
    = .ok (.agg #[.pointer (some ⟨19, 186, none⟩), .pointer (some ⟨w.heap.size, 0, none⟩), .int .u64 150]) (w.alloc (.cells #[.pointer (some e)] 186)) := by kernel_rfl
theorem eElemOfPP (w : World) : (Rtype.elem? 188).run Tryz.prog w = .ok (some 186) w := by kernel_rfl
theorem eMkP (p : Addr) (w : World) : (ReflectliteValue.mk 186 p ReflectliteValue.flagAddr).run Tryz.prog w = .ok (.agg #[.pointer (some ⟨19, 186, none⟩), .pointer (some p), .int .u64 406]) w := by kernel_rfl
theorem eElemVPP (a p : Addr) (W : World) (ha : W.cell? a = some (.pointer (some p))) :
    (ReflectliteValue.method (ReflectliteValue.valueError "reflectlite.Value.Elem" 0) ReflectliteValue.elem #[.agg #[.pointer (some ⟨19, 188, none⟩), .pointer (some a), .int .u64 150]]).run Tryz.prog W
      = .ok (.agg #[.pointer (some ⟨19, 186, none⟩), .pointer (some p), .int .u64 406]) W := by
  unfold ReflectliteValue.method
  rw [eOneArm]
  simp only [Sem.run_bind, ePartsPP, Result.andThen]
  simp [ReflectliteValue.elem, loadVar, isAgg, underlying, Tryz.underlying188, ha, Result.andThen, eElemOfPP, eMkP]
theorem eTwoArms (v x : Value) (f : Value → Value → Sem Value) (g : Array Value → Sem Value) : ReflectliteValue.set.match_3 (fun _ => Sem Value) #[v, x] f g = f v x := rfl
theorem ePartsPa (a : Addr) (w : World) : (ReflectliteValue.parts (.agg #[.pointer (some ⟨19, 186, none⟩), .pointer (some a), .int .u64 406])).run Tryz.prog w = .ok (some (186, a, 406)) w := by kernel_rfl
theorem ePartsP (a : Addr) (w : World) : (ReflectliteValue.parts (.agg #[.pointer (some ⟨19, 186, none⟩), .pointer (some a), .int .u64 150])).run Tryz.prog w = .ok (some (186, a, 150)) w := by kernel_rfl
theorem eDirectP (w : World) : (Rtype.directlyAssignable 186 186).run Tryz.prog w = .ok true w := by kernel_rfl
theorem eSetP (ta b e : Addr) (old : Value) (W : World) (hb : W.cell? b = some (.pointer (some e))) (ht : W.cell? ta = some old) (hf : W.frozen? ta = false) :
    (ReflectliteValue.set #[.agg #[.pointer (some ⟨19, 186, none⟩), .pointer (some ta), .int .u64 406], .agg #[.pointer (some ⟨19, 186, none⟩), .pointer (some b), .int .u64 150]]).run Tryz.prog W
      = .ok (.tuple #[]) (W.setCell ta (.pointer (some e))) := by
  unfold ReflectliteValue.set
  rw [eTwoArms]
  dsimp only
  simp only [Sem.run_bind, ePartsPa, ePartsP, Result.andThen]
  simp [ReflectliteValue.flagAddr, loadVar, isAgg, underlying, Tryz.underlying186, hb, Result.andThen, eDirectP, storeVar, Value.cells, storeCells, Addr.add]
  rw [run_store Tryz.prog W ta _ _ (by rfl)]
  simp [ht, hf]

/- What the assertions find. -/
theorem eNoAsE (v : Value) (xT : TypeId) (w : World) : (Instr.typeAssert (.iface 356 v) xT 286 true).run Tryz.prog w = .ok (.tuple #[.nilIface, .bool false]) w := run_typeAssert_lacksB Tryz.underlying286 (by kernel_rfl) (by kernel_rfl) v xT w
theorem eNoIsE (v : Value) (xT : TypeId) (w : World) : (Instr.typeAssert (.iface 356 v) xT 293 true).run Tryz.prog w = .ok (.tuple #[.nilIface, .bool false]) w := run_typeAssert_lacksB Tryz.underlying293 (by kernel_rfl) (by kernel_rfl) v xT w
theorem eNoUnwrapE (v : Value) (xT : TypeId) (w : World) : (Instr.typeAssert (.iface 356 v) xT 289 true).run Tryz.prog w = .ok (.tuple #[.nilIface, .bool false]) w := run_typeAssert_lacksB Tryz.underlying289 (by kernel_rfl) (by kernel_rfl) v xT w
theorem eNoUnwrapsE (v : Value) (xT : TypeId) (w : World) : (Instr.typeAssert (.iface 356 v) xT 291 true).run Tryz.prog w = .ok (.tuple #[.nilIface, .bool false]) w := run_typeAssert_lacksB Tryz.underlying291 (by kernel_rfl) (by kernel_rfl) v xT w
theorem eNoIsF (v : Value) (xT : TypeId) (w : World) : (Instr.typeAssert (.iface 186 v) xT 293 true).run Tryz.prog w = .ok (.tuple #[.nilIface, .bool false]) w := run_typeAssert_lacksB Tryz.underlying293 (by kernel_rfl) (by kernel_rfl) v xT w
theorem eHasUnwrapF (v : Value) (xT : TypeId) (w : World) : (Instr.typeAssert (.iface 186 v) xT 289 true).run Tryz.prog w = .ok (.tuple #[.iface 186 v, .bool true]) w := run_typeAssert_hasB Tryz.underlying289 (by kernel_rfl) v xT w
theorem eMethodUnwrap (v : Value) (w : World) : (Go.method 485 186 v "Unwrap").run Tryz.prog w = .ok (302, v) w := by kernel_rfl
set_option maxHeartbeats 4000000 in
/- errors.As(e, &t), e of errors.New's make: false; three new blocks. -/
theorem as_miss (v : Value) (t : Addr) (w : World) (hg : w.cell? ⟨12, 0, none⟩ = some (.iface 259 (.agg #[.pointer (some ⟨19, 42, none⟩)]))) :
    Calls Tryz.prog 121 #[.iface 356 v, .iface 188 (.pointer (some t))] w fun ev w' => ev = .returned (.bool false) ∧ w' = (((w.alloc (.cells #[.pointer (some t)] 188)).alloc (.cells #[.pointer (some ⟨19, 188, none⟩), .pointer (some ⟨w.heap.size, 0, none⟩), .int .u64 150] 215)).alloc (.cells #[.pointer (some ⟨19, 188, none⟩), .pointer (some ⟨w.heap.size, 0, none⟩), .int .u64 150] 215)) := by
  have h6 := @run_callFunc_extern Tryz.prog 143 _ (fun args => ReflectliteValue.unpack (args.getD 0 (.tuple #[]))) Tryz.func143 (by kernel_rfl) (by kernel_rfl) (by kernel_rfl) (by kernel_rfl)
  have h7 := @run_callFunc_extern Tryz.prog 168 _ (ReflectliteValue.methodAny (ReflectliteValue.valueError "reflectlite.Value.Type" 0) (fun t _ _ _ => ReflectliteType.toType t)) Tryz.func168 (by kernel_rfl) (by kernel_rfl) (by kernel_rfl) (by kernel_rfl)
  have h8 := @run_callFunc_extern Tryz.prog 169 _ (ReflectliteValue.method (ReflectliteValue.valueError "reflectlite.Value.IsNil" 0) ReflectliteValue.isNil) Tryz.func169 (by kernel_rfl) (by kernel_rfl) (by kernel_rfl) (by kernel_rfl)
  have h27 := @run_callFunc_extern Tryz.prog 298 _ (ReflectliteType.abiMethod fun t => do pure (.int .u8 (← Rtype.kind t))) Tryz.func298 (by kernel_rfl) (by kernel_rfl) (by kernel_rfl) (by kernel_rfl)
  have h37 := @run_callFunc_extern Tryz.prog 310 _ (ReflectliteType.method ReflectliteType.elem) Tryz.func310 (by kernel_rfl) (by kernel_rfl) (by kernel_rfl) (by kernel_rfl)
  have h38 := @run_callFunc_extern Tryz.prog 311 _ (ReflectliteType.relation "Implements" ReflectliteType.implements_) Tryz.func311 (by kernel_rfl) (by kernel_rfl) (by kernel_rfl) (by kernel_rfl)
  have h10 := @run_callFunc_extern Tryz.prog 171 _ ReflectliteType.typeOf Tryz.func171 (by kernel_rfl) (by kernel_rfl) (by kernel_rfl) (by kernel_rfl)
  have h35 := @run_callFunc_extern Tryz.prog 308 _ (ReflectliteType.relation "AssignableTo" ReflectliteType.assignableTo) Tryz.func308 (by kernel_rfl) (by kernel_rfl) (by kernel_rfl) (by kernel_rfl)
  have tO := eTypeOfE
  have mA := eMethodAssignableTo
  have a25 := eAssignableE
  have f6 := eValueOfPP
  have f7 := eTypePP
  have mK := eMethodKind
  have mE := eMethodElem
  have mI := eMethodImplements
  have k27 := eKindPP
  have k25 := eKindP
  have e27 := eElemPP
  have i25 := eImplementsP
  have nE := eNoAsE
  have uE := eNoUnwrapE
  have vE := eNoUnwrapsE
  have n8 := eIsNilPP ⟨w.heap.size, 0, none⟩ t ((w.alloc (.cells #[.pointer (some t)] 188)).alloc (.cells #[.pointer (some ⟨19, 188, none⟩), .pointer (some ⟨w.heap.size, 0, none⟩), .int .u64 150] 215)) (by simp)
  have hlt : 12 < w.heap.size := by
    rcases Nat.lt_or_ge 12 w.heap.size with h | h
    · exact h
    · simp [World.cell?, Array.getElem?_eq_none h] at hg
  have hg2 : ((w.alloc (.cells #[.pointer (some t)] 188)).alloc (.cells #[.pointer (some ⟨19, 188, none⟩), .pointer (some ⟨w.heap.size, 0, none⟩), .int .u64 150] 215)).cell? ⟨12, 0, none⟩ = some (.iface 259 (.agg #[.pointer (some ⟨19, 42, none⟩)])) := by
    rw [World.cell?_alloc_lt _ _ ⟨12, 0, none⟩ (by simp; omega), World.cell?_alloc_lt _ _ ⟨12, 0, none⟩ hlt]; exact hg
  go_enter Tryz.func121, Tryz.ntmps121
  go_wp2
  refine wp_loop_rounds 1 ?_
  rw [rounds_succ]
  go_wp2
  go_ret
  exact ⟨rfl, rfl⟩

set_option maxHeartbeats 4000000 in
/- errors.As(e, &t), e an *api.Fault: true; *t is e; four new blocks. -/
theorem as_hit (e t : Addr) (old : Value) (w : World) (hg : w.cell? ⟨12, 0, none⟩ = some (.iface 259 (.agg #[.pointer (some ⟨19, 42, none⟩)]))) (ht0 : w.cell? t = some old) (hf0 : w.frozen? t = false) :
    Calls Tryz.prog 121 #[.iface 186 (.pointer (some e)), .iface 188 (.pointer (some t))] w fun ev w' => ev = .returned (.bool true) ∧ w' = ((((w.alloc (.cells #[.pointer (some t)] 188)).alloc (.cells #[.pointer (some ⟨19, 188, none⟩), .pointer (some ⟨w.heap.size, 0, none⟩), .int .u64 150] 215)).alloc (.cells #[.pointer (some ⟨19, 188, none⟩), .pointer (some ⟨w.heap.size, 0, none⟩), .int .u64 150] 215)).alloc (.cells #[.pointer (some e)] 186)).setCell t (.pointer (some e)) := by
  have h6 := @run_callFunc_extern Tryz.prog 143 _ (fun args => ReflectliteValue.unpack (args.getD 0 (.tuple #[]))) Tryz.func143 (by kernel_rfl) (by kernel_rfl) (by kernel_rfl) (by kernel_rfl)
  have h7 := @run_callFunc_extern Tryz.prog 168 _ (ReflectliteValue.methodAny (ReflectliteValue.valueError "reflectlite.Value.Type" 0) (fun t _ _ _ => ReflectliteType.toType t)) Tryz.func168 (by kernel_rfl) (by kernel_rfl) (by kernel_rfl) (by kernel_rfl)
  have h8 := @run_callFunc_extern Tryz.prog 169 _ (ReflectliteValue.method (ReflectliteValue.valueError "reflectlite.Value.IsNil" 0) ReflectliteValue.isNil) Tryz.func169 (by kernel_rfl) (by kernel_rfl) (by kernel_rfl) (by kernel_rfl)
  have h27 := @run_callFunc_extern Tryz.prog 298 _ (ReflectliteType.abiMethod fun t => do pure (.int .u8 (← Rtype.kind t))) Tryz.func298 (by kernel_rfl) (by kernel_rfl) (by kernel_rfl) (by kernel_rfl)
  have h37 := @run_callFunc_extern Tryz.prog 310 _ (ReflectliteType.method ReflectliteType.elem) Tryz.func310 (by kernel_rfl) (by kernel_rfl) (by kernel_rfl) (by kernel_rfl)
  have h38 := @run_callFunc_extern Tryz.prog 311 _ (ReflectliteType.relation "Implements" ReflectliteType.implements_) Tryz.func311 (by kernel_rfl) (by kernel_rfl) (by kernel_rfl) (by kernel_rfl)
  have h10 := @run_callFunc_extern Tryz.prog 171 _ ReflectliteType.typeOf Tryz.func171 (by kernel_rfl) (by kernel_rfl) (by kernel_rfl) (by kernel_rfl)
  have h35 := @run_callFunc_extern Tryz.prog 308 _ (ReflectliteType.relation "AssignableTo" ReflectliteType.assignableTo) Tryz.func308 (by kernel_rfl) (by kernel_rfl) (by kernel_rfl) (by kernel_rfl)
  have h11 := @run_callFunc_extern Tryz.prog 218 _ (ReflectliteValue.method (ReflectliteValue.valueError "reflectlite.Value.Elem" 0) ReflectliteValue.elem) Tryz.func218 (by kernel_rfl) (by kernel_rfl) (by kernel_rfl) (by kernel_rfl)
  have h12 := @run_callFunc_extern Tryz.prog 219 _ ReflectliteValue.set Tryz.func219 (by kernel_rfl) (by kernel_rfl) (by kernel_rfl) (by kernel_rfl)
  have tO := eTypeOfP
  have mA := eMethodAssignableTo
  have a25 := eAssignableP
  have v25 := eValueOfP
  have f6 := eValueOfPP
  have f7 := eTypePP
  have mK := eMethodKind
  have mE := eMethodElem
  have mI := eMethodImplements
  have k27 := eKindPP
  have k25 := eKindP
  have e27 := eElemPP
  have i25 := eImplementsP
  have n8 := eIsNilPP ⟨w.heap.size, 0, none⟩ t ((w.alloc (.cells #[.pointer (some t)] 188)).alloc (.cells #[.pointer (some ⟨19, 188, none⟩), .pointer (some ⟨w.heap.size, 0, none⟩), .int .u64 150] 215)) (by simp)
  have hlt : 12 < w.heap.size := by
    rcases Nat.lt_or_ge 12 w.heap.size with h | h
    · exact h
    · simp [World.cell?, Array.getElem?_eq_none h] at hg
  have hg2 : ((w.alloc (.cells #[.pointer (some t)] 188)).alloc (.cells #[.pointer (some ⟨19, 188, none⟩), .pointer (some ⟨w.heap.size, 0, none⟩), .int .u64 150] 215)).cell? ⟨12, 0, none⟩ = some (.iface 259 (.agg #[.pointer (some ⟨19, 42, none⟩)])) := by
    rw [World.cell?_alloc_lt _ _ ⟨12, 0, none⟩ (by simp; omega), World.cell?_alloc_lt _ _ ⟨12, 0, none⟩ hlt]; exact hg
  have htl : t.block < w.heap.size := by
    rcases Nat.lt_or_ge t.block w.heap.size with h | h
    · exact h
    · simp [World.cell?, Array.getElem?_eq_none h] at ht0
  have el := eElemVPP ⟨w.heap.size, 0, none⟩ t (((w.alloc (.cells #[.pointer (some t)] 188)).alloc (.cells #[.pointer (some ⟨19, 188, none⟩), .pointer (some ⟨w.heap.size, 0, none⟩), .int .u64 150] 215)).alloc (.cells #[.pointer (some ⟨19, 188, none⟩), .pointer (some ⟨w.heap.size, 0, none⟩), .int .u64 150] 215)) (by rw [World.cell?_alloc_lt _ _ ⟨w.heap.size, 0, none⟩ (by simp; omega)]; simp)
  have st := eSetP t ⟨w.heap.size + 1 + 1 + 1, 0, none⟩ e old ((((w.alloc (.cells #[.pointer (some t)] 188)).alloc (.cells #[.pointer (some ⟨19, 188, none⟩), .pointer (some ⟨w.heap.size, 0, none⟩), .int .u64 150] 215)).alloc (.cells #[.pointer (some ⟨19, 188, none⟩), .pointer (some ⟨w.heap.size, 0, none⟩), .int .u64 150] 215)).alloc (.cells #[.pointer (some e)] 186))
    (by rw [World.cell?_alloc_at _ _ _ _ (by simp)]; rfl)
    (by rw [World.cell?_alloc_lt _ _ t (by simp; omega), World.cell?_alloc_lt _ _ t (by simp; omega), World.cell?_alloc_lt _ _ t (by simp; omega), World.cell?_alloc_lt _ _ t htl]; exact ht0)
    (by rw [World.frozen?_alloc_old _ _ t (by simp; omega), World.frozen?_alloc_old _ _ t (by simp; omega), World.frozen?_alloc_old _ _ t (by simp; omega), World.frozen?_alloc_old _ _ t (Nat.ne_of_lt htl)]; exact hf0)
  go_enter Tryz.func121, Tryz.ntmps121
  go_wp2
  refine wp_loop_rounds 1 ?_
  rw [rounds_succ]
  go_wp2
  go_ret
  exact ⟨rfl, rfl⟩

end Go.Proofs.YtcbcjefefmbccabGreatDoor
namespace Go.Proofs.YtcbcjefefmbccabGreatDoor
open Go.RowKit Go.Extern.Stop Go.Stop Go.Extern

theorem eComparable (w : World) : ((Extern.ReflectliteType.method fun t => do Extern.Rtype.noPackHeld "Comparable" t; (fun a => Value.bool a.comparable) <$> typeInfo t) #[.agg #[.pointer (some ⟨19, 356, none⟩)]]).run Tryz.prog w = .ok (.bool true) w := by kernel_rfl
theorem eMethodComparable (v : Value) (w : World) : (Go.method 485 259 v "Comparable").run Tryz.prog w = .ok (309, v) w := by kernel_rfl
theorem eComp : (Tryz.prog.info? 356).map (·.comparable) = some true := by kernel_rfl
theorem eSize : (Tryz.prog.info? 374).map (·.size) = some 1 := by kernel_rfl

/- errors.Is(x, x). -/
theorem is_same (a : Addr) (w : World) :
    Calls Tryz.prog 122 #[.iface 356 (.pointer (some a)), .iface 356 (.pointer (some a))] w fun e w' => e = .returned (.bool true) ∧ w' = w := by
  obtain ⟨i, hi, hcmp⟩ := Option.map_eq_some_iff.1 eComp
  obtain ⟨j, hj, hjs⟩ := Option.map_eq_some_iff.1 eSize
  have h8 := @run_callFunc_extern Tryz.prog 171 _ Extern.ReflectliteType.typeOf Tryz.func171 (by kernel_rfl) (by kernel_rfl) (by kernel_rfl) (by kernel_rfl)
  have h32 := @run_callFunc_extern Tryz.prog 309 _ (Extern.ReflectliteType.method fun t => do Extern.Rtype.noPackHeld "Comparable" t; pure (.bool (← typeInfo t).comparable)) Tryz.func309 (by kernel_rfl) (by kernel_rfl) (by kernel_rfl) (by kernel_rfl)
  have tT := eTypeOfE
  have cT := eComparable
  have mR := eMethodComparable
  have heq := run_eql_iface_ptr_same (P := Tryz.prog) w a Tryz.underlying42 Tryz.underlying356 hi hcmp hj
  go_enter Tryz.func122, Tryz.ntmps122
  go_wp2
  refine wp_loop_rounds 1 ?_
  rw [rounds_succ]
  go_wp2
  go_ret
  exact ⟨rfl, rfl⟩

/- errors.Is(x, y), two different sentinels. -/
theorem is_other (a b : Addr) (ca cb : Array Value) (ta tb : TypeId) (w : World) (hne : a ≠ b) (ha : w.heap[a.block]? = some (.cells ca ta (0, 0))) (hb : w.heap[b.block]? = some (.cells cb tb (0, 0))) :
    Calls Tryz.prog 122 #[.iface 356 (.pointer (some a)), .iface 356 (.pointer (some b))] w fun e w' => e = .returned (.bool false) ∧ w' = w := by
  obtain ⟨i, hi, hcmp⟩ := Option.map_eq_some_iff.1 eComp
  obtain ⟨j, hj, hjs⟩ := Option.map_eq_some_iff.1 eSize
  have h8 := @run_callFunc_extern Tryz.prog 171 _ Extern.ReflectliteType.typeOf Tryz.func171 (by kernel_rfl) (by kernel_rfl) (by kernel_rfl) (by kernel_rfl)
  have h32 := @run_callFunc_extern Tryz.prog 309 _ (Extern.ReflectliteType.method fun t => do Extern.Rtype.noPackHeld "Comparable" t; pure (.bool (← typeInfo t).comparable)) Tryz.func309 (by kernel_rfl) (by kernel_rfl) (by kernel_rfl) (by kernel_rfl)
  have tT := eTypeOfE
  have cT := eComparable
  have mR := eMethodComparable
  have nE := eNoIsE
  have uE := eNoUnwrapE
  have vE := eNoUnwrapsE
  have heq := run_eql_iface_ptr_other (P := Tryz.prog) w Tryz.underlying42 Tryz.underlying356 hi hcmp hj (by rw [hjs]; decide) hne ha hb
  go_enter Tryz.func122, Tryz.ntmps122
  go_wp2
  refine wp_loop_rounds 1 ?_
  rw [rounds_succ]
  go_wp2
  go_ret
  exact ⟨rfl, rfl⟩

/- errors.Is(f, x), f an *api.Fault round x itself. -/
theorem is_fault_same (pb po : Nat) (b : Addr) (w : World) (h1 : w.cell? ⟨pb, po + 1, none⟩ = some (.iface 356 (.pointer (some b)))) :
    Calls Tryz.prog 122 #[.iface 186 (.pointer (some ⟨pb, po, none⟩)), .iface 356 (.pointer (some b))] w fun e w' => e = .returned (.bool true) ∧ w' = w := by
  obtain ⟨i, hi, hcmp⟩ := Option.map_eq_some_iff.1 eComp
  obtain ⟨j, hj, hjs⟩ := Option.map_eq_some_iff.1 eSize
  have h8 := @run_callFunc_extern Tryz.prog 171 _ Extern.ReflectliteType.typeOf Tryz.func171 (by kernel_rfl) (by kernel_rfl) (by kernel_rfl) (by kernel_rfl)
  have h32 := @run_callFunc_extern Tryz.prog 309 _ (Extern.ReflectliteType.method fun t => do Extern.Rtype.noPackHeld "Comparable" t; pure (.bool (← typeInfo t).comparable)) Tryz.func309 (by kernel_rfl) (by kernel_rfl) (by kernel_rfl) (by kernel_rfl)
  have tT := eTypeOfE
  have cT := eComparable
  have mR := eMethodComparable
  have nW := eNoIsF
  have uW := eHasUnwrapF
  have mU := eMethodUnwrap
  have heq := run_eql_iface_ptr_same (P := Tryz.prog) w b Tryz.underlying42 Tryz.underlying356 hi hcmp hj
  have hty := run_eql_iface_types (P := Tryz.prog) 186 356 (.pointer (some ⟨pb, po, none⟩)) (.pointer (some b)) Tryz.underlying42 (by decide) w
  go_enter Tryz.func122, Tryz.ntmps122
  go_wp2
  refine wp_loop_rounds 2 ?_
  rw [rounds_succ]
  go_wp2
  rw [rounds_succ]
  go_wp2
  go_ret
  exact ⟨rfl, rfl⟩

/- errors.Is(f, x), f an *api.Fault round another sentinel. -/
theorem is_fault_other (pb po : Nat) (b a : Addr) (ca cb : Array Value) (ta tb : TypeId) (w : World) (h1 : w.cell? ⟨pb, po + 1, none⟩ = some (.iface 356 (.pointer (some a)))) (hne : a ≠ b) (ha : w.heap[a.block]? = some (.cells ca ta (0, 0))) (hb : w.heap[b.block]? = some (.cells cb tb (0, 0))) :
    Calls Tryz.prog 122 #[.iface 186 (.pointer (some ⟨pb, po, none⟩)), .iface 356 (.pointer (some b))] w fun e w' => e = .returned (.bool false) ∧ w' = w := by
  obtain ⟨i, hi, hcmp⟩ := Option.map_eq_some_iff.1 eComp
  obtain ⟨j, hj, hjs⟩ := Option.map_eq_some_iff.1 eSize
  have h8 := @run_callFunc_extern Tryz.prog 171 _ Extern.ReflectliteType.typeOf Tryz.func171 (by kernel_rfl) (by kernel_rfl) (by kernel_rfl) (by kernel_rfl)
  have h32 := @run_callFunc_extern Tryz.prog 309 _ (Extern.ReflectliteType.method fun t => do Extern.Rtype.noPackHeld "Comparable" t; pure (.bool (← typeInfo t).comparable)) Tryz.func309 (by kernel_rfl) (by kernel_rfl) (by kernel_rfl) (by kernel_rfl)
  have tT := eTypeOfE
  have cT := eComparable
  have mR := eMethodComparable
  have nE := eNoIsE
  have uE := eNoUnwrapE
  have vE := eNoUnwrapsE
  have nW := eNoIsF
  have uW := eHasUnwrapF
  have mU := eMethodUnwrap
  have heq := run_eql_iface_ptr_other (P := Tryz.prog) w Tryz.underlying42 Tryz.underlying356 hi hcmp hj (by rw [hjs]; decide) hne ha hb
  have hty := run_eql_iface_types (P := Tryz.prog) 186 356 (.pointer (some ⟨pb, po, none⟩)) (.pointer (some b)) Tryz.underlying42 (by decide) w
  go_enter Tryz.func122, Tryz.ntmps122
  go_wp2
  refine wp_loop_rounds 2 ?_
  rw [rounds_succ]
  go_wp2
  rw [rounds_succ]
  go_wp2
  go_ret
  exact ⟨rfl, rfl⟩
end Go.Proofs.YtcbcjefefmbccabGreatDoor
namespace Go.Proofs.YtcbcjefefmbccabGreatDoor
open Go.RowKit Go.Extern.Stop Go.Stop Go.Extern

/- The global of sentinel i. -/
def errG : Nat → Nat
  | 0 => 4 | 1 => 5 | 2 => 2 | 3 => 6 | 4 => 0 | 5 => 3
  | 6 => 1 | 7 => 7 | 8 => 8 | 9 => 9 | 10 => 10 | _ => 11

/- The value of sentinel i where the sentinels lie at a. -/
abbrev sentV (a : Nat → Addr) (i : Nat) : Value := .iface 356 (.pointer (some (a i)))

/- What the world holds of errors. -/
structure ErrW (w : World) (a : Nat → Addr) : Prop where
  glob : ∀ i, i < 12 → w.cell? ⟨errG i, 0, none⟩ = some (sentV a i)
  row : ∀ i, i < 12 → ∃ c t, w.heap[(a i).block]? = some (.cells c t (0, 0))
  ne : ∀ i j, i < 12 → j < 12 → a i = a j → i = j
  et : w.cell? ⟨12, 0, none⟩ = some (.iface 259 (.agg #[.pointer (some ⟨19, 42, none⟩)]))

theorem lt_of_cell {w : World} {b o : Nat} {v : Value} (h : w.cell? ⟨b, o, none⟩ = some v) : b < w.heap.size := by
  rcases Nat.lt_or_ge b w.heap.size with h' | h'
  · exact h'
  · simp [World.cell?, Array.getElem?_eq_none h'] at h
theorem lt_of_block {w : World} {b : Nat} {o : Obj} (h : w.heap[b]? = some o) : b < w.heap.size := by
  rcases Nat.lt_or_ge b w.heap.size with h' | h'
  · exact h'
  · simp [Array.getElem?_eq_none h'] at h

theorem ErrW.below {w0 w w' : World} {a : Nat → Addr} (h : ErrW w a) (hb : Below w0.heap.size w w') (hle : w.heap.size ≤ w0.heap.size) : ErrW w' a where
  glob i hi := by rw [hb.cell (p := ⟨errG i, 0, none⟩) (Nat.lt_of_lt_of_le (lt_of_cell (h.glob i hi)) hle)]; exact h.glob i hi
  row i hi := by
    obtain ⟨c, t, hc⟩ := h.row i hi
    exact ⟨c, t, by rw [hb.block _ (Nat.lt_of_lt_of_le (lt_of_block hc) hle)]; exact hc⟩
  ne := h.ne
  et := by rw [hb.cell (p := ⟨12, 0, none⟩) (Nat.lt_of_lt_of_le (lt_of_cell h.et) hle)]; exact h.et

/- The world inside Code's loop: below B it is w; the block B holds the twelve; the sentinels lie. -/
structure CodeW (w : World) (a : Nat → Addr) (B : Nat) (wr : World) : Prop where
  below : Below w.heap.size w wr
  cell : ∀ j, j < 12 → wr.cell? ⟨B, j, none⟩ = some (sentV a j)

theorem code_nil (w : World) : Calls Tryz.prog 58 #[.nilIface] w fun e w' => e = .returned (.tuple #[.int .i64 0, .int .i64 (-1)]) ∧ w' = w := by
  go_enter Tryz.func58, Tryz.ntmps58
  go_wp2
  go_ret2
  exact ⟨rfl, rfl⟩

theorem as_miss_b (v : Value) (t : Addr) (w : World) (hg : w.cell? ⟨12, 0, none⟩ = some (.iface 259 (.agg #[.pointer (some ⟨19, 42, none⟩)]))) :
    Calls Tryz.prog 121 #[.iface 356 v, .iface 188 (.pointer (some t))] w fun ev w' => ev = .returned (.bool false) ∧ Below w.heap.size w w' := by
  refine (as_miss v t w hg).mono ?_
  rintro e w' ⟨rfl, rfl⟩
  exact ⟨rfl, (((Below.refl _ _).alloc (Nat.le_refl _) _).alloc (by simp) _).alloc (by simp; omega) _⟩
theorem as_hit_b (e t : Addr) (old : Value) (w : World) (hg : w.cell? ⟨12, 0, none⟩ = some (.iface 259 (.agg #[.pointer (some ⟨19, 42, none⟩)]))) (ht0 : w.cell? t = some old) (hf0 : w.frozen? t = false) :
    Calls Tryz.prog 121 #[.iface 186 (.pointer (some e)), .iface 188 (.pointer (some t))] w fun ev w' => ev = .returned (.bool true) ∧ Below t.block w w' ∧ w'.cell? t = some (.pointer (some e)) := by
  have htl : t.block < w.heap.size := by
    rcases Nat.lt_or_ge t.block w.heap.size with h | h
    · exact h
    · simp [World.cell?, Array.getElem?_eq_none h] at ht0
  refine (as_hit e t old w hg ht0 hf0).mono ?_
  rintro ev w' ⟨rfl, rfl⟩
  refine ⟨rfl, (((((Below.refl _ _).alloc (by omega) _).alloc (by simp; omega) _).alloc (by simp; omega) _).alloc (by simp; omega) _).setCell (Nat.le_refl _) _, ?_⟩
  refine World.cell?_setCell_same _ _ _ (u := old) ?_
  rw [World.cell?_alloc_lt _ _ t (by simp; omega), World.cell?_alloc_lt _ _ t (by simp; omega), World.cell?_alloc_lt _ _ t (by simp; omega), World.cell?_alloc_lt _ _ t htl]; exact ht0

set_option maxHeartbeats 4000000 in
theorem code_sent (a : Nat → Addr) (k : Nat) (hk : k < 12) (w : World) (hE : ErrW w a) :
    Calls Tryz.prog 58 #[sentV a k] w fun e w' => e = .returned (.tuple #[.int .i64 ((k : Int) + 1), .int .i64 (-1)]) ∧ Below w.heap.size w w' := by
  have hET := hE.et
  have let' := lt_of_cell hET
  go_enter Tryz.func58, Tryz.ntmps58
  go_wp2_with fail
  refine (as_miss_b _ _ _ ?_).mono ?_
  · rw [World.cell?_alloc_lt _ _ ⟨12, 0, none⟩ let']; exact hET
  rintro e w1 ⟨rfl, hb1⟩
  have hb : Below w.heap.size w w1 := ((Below.refl _ _).alloc (Nat.le_refl _) _).trans (hb1.mono (by simp))
  have hE1 := hE.below hb (Nat.le_refl _)
  clear hb1 hET let'
  have g0 := hE1.glob 0 (by omega)
  have g1 := hE1.glob 1 (by omega)
  have g2 := hE1.glob 2 (by omega)
  have g3 := hE1.glob 3 (by omega)
  have g4 := hE1.glob 4 (by omega)
  have g5 := hE1.glob 5 (by omega)
  have g6 := hE1.glob 6 (by omega)
  have g7 := hE1.glob 7 (by omega)
  have g8 := hE1.glob 8 (by omega)
  have g9 := hE1.glob 9 (by omega)
  have g10 := hE1.glob 10 (by omega)
  have g11 := hE1.glob 11 (by omega)
  simp only [errG] at g0 g1 g2 g3 g4 g5 g6 g7 g8 g9 g10 g11
  go_wp2_with fail
  clear g0 g1 g2 g3 g4 g5 g6 g7 g8 g9 g10 g11
  go_loopw [3, 30] (fun q i wr => ∃ j : Nat, j ≤ k ∧ q = .int .i64 (-1) ∧ i = .int .i64 j ∧ CodeW w a w1.heap.size wr) (fun _ i _ => 12 - (intOf i).toNat)
  case atStart =>
    refine ⟨0, Nat.zero_le _, rfl, rfl, hb.alloc hb.size _, ?_⟩
    intro j hj
    have : j = 0 ∨ j = 1 ∨ j = 2 ∨ j = 3 ∨ j = 4 ∨ j = 5 ∨ j = 6 ∨ j = 7 ∨ j = 8 ∨ j = 9 ∨ j = 10 ∨ j = 11 := by omega
    rcases this with rfl | rfl | rfl | rfl | rfl | rfl | rfl | rfl | rfl | rfl | rfl | rfl <;> simp
  case round =>
    obtain ⟨j, hj, rfl, rfl, hC⟩ := hrel
    have hEr := hE.below hC.below (Nat.le_refl _)
    have hcj := hC.cell j (by omega)
    have hlt : (j : Int) < 12 := by omega
    by_cases hjk : j = k
    · subst hjk
      go_wp2_with fail
      refine (is_same _ _).mono ?_
      rintro e w' ⟨rfl, rfl⟩
      go_wp2_with fail
      go_ret2
      exact ⟨rfl, hC.below⟩
    · obtain ⟨ca, ta, ha⟩ := hEr.row k (by omega)
      obtain ⟨cb, tb, hbb⟩ := hEr.row j (by omega)
      have hne : a k ≠ a j := fun h => hjk ((hEr.ne k j (by omega) (by omega) h).symm)
      go_wp2_with fail
      refine (is_other _ _ ca cb ta tb _ hne ha hbb).mono ?_
      rintro e w' ⟨rfl, rfl⟩
      go_wp2_with fail
      go_roundw
      case rel => exact ⟨j + 1, by omega, rfl, by go_num, hC⟩
      case measure => simp [intOf]; omega
set_option maxHeartbeats 4000000 in
theorem code_fault (a : Nat → Addr) (k : Nat) (hk : k < 12) (pb po : Nat) (at0 : Int) (w : World) (hE : ErrW w a) (h0 : w.cell? ⟨pb, po, none⟩ = some (.int .i64 at0)) (h1 : w.cell? ⟨pb, po + 1, none⟩ = some (sentV a k)) :
    Calls Tryz.prog 58 #[.iface 186 (.pointer (some ⟨pb, po, none⟩))] w fun e w' => e = .returned (.tuple #[.int .i64 ((k : Int) + 1), .int .i64 at0]) ∧ Below w.heap.size w w' := by
  have hET := hE.et
  have let' := lt_of_cell hET
  go_enter Tryz.func58, Tryz.ntmps58
  go_wp2_with fail
  refine (as_hit_b _ _ (.pointer none) _ ?_ (by simp) (by simp)).mono ?_
  · rw [World.cell?_alloc_lt _ _ ⟨12, 0, none⟩ let']; exact hET
  rintro e w1 ⟨rfl, hb1, hf1⟩
  have hb : Below w.heap.size w w1 := ((Below.refl _ _).alloc (Nat.le_refl _) _).trans (hb1.mono (by simp))
  have h01 : w1.cell? ⟨pb, po, none⟩ = some (.int .i64 at0) := by rw [hb.cell (p := ⟨pb, po, none⟩) (lt_of_cell h0)]; exact h0
  have hE1 := hE.below hb (Nat.le_refl _)
  clear hb1 hET let' h0
  have g0 := hE1.glob 0 (by omega)
  have g1 := hE1.glob 1 (by omega)
  have g2 := hE1.glob 2 (by omega)
  have g3 := hE1.glob 3 (by omega)
  have g4 := hE1.glob 4 (by omega)
  have g5 := hE1.glob 5 (by omega)
  have g6 := hE1.glob 6 (by omega)
  have g7 := hE1.glob 7 (by omega)
  have g8 := hE1.glob 8 (by omega)
  have g9 := hE1.glob 9 (by omega)
  have g10 := hE1.glob 10 (by omega)
  have g11 := hE1.glob 11 (by omega)
  simp only [errG] at g0 g1 g2 g3 g4 g5 g6 g7 g8 g9 g10 g11
  go_wp2_with fail
  clear h01 hf1 g0 g1 g2 g3 g4 g5 g6 g7 g8 g9 g10 g11
  go_loopw [3, 30] (fun q i wr => ∃ j : Nat, j ≤ k ∧ q = .int .i64 at0 ∧ i = .int .i64 j ∧ CodeW w a w1.heap.size wr) (fun _ i _ => 12 - (intOf i).toNat)
  case atStart =>
    refine ⟨0, Nat.zero_le _, rfl, rfl, hb.alloc hb.size _, ?_⟩
    intro j hj
    have : j = 0 ∨ j = 1 ∨ j = 2 ∨ j = 3 ∨ j = 4 ∨ j = 5 ∨ j = 6 ∨ j = 7 ∨ j = 8 ∨ j = 9 ∨ j = 10 ∨ j = 11 := by omega
    rcases this with rfl | rfl | rfl | rfl | rfl | rfl | rfl | rfl | rfl | rfl | rfl | rfl <;> simp
  case round =>
    obtain ⟨j, hj, rfl, rfl, hC⟩ := hrel
    have hEr := hE.below hC.below (Nat.le_refl _)
    have h1r : wr.cell? ⟨pb, po + 1, none⟩ = some (sentV a k) := by rw [hC.below.cell (p := ⟨pb, po + 1, none⟩) (lt_of_cell h1)]; exact h1
    have hcj := hC.cell j (by omega)
    have hlt : (j : Int) < 12 := by omega
    by_cases hjk : j = k
    · subst hjk
      go_wp2_with fail
      refine (is_fault_same _ _ _ _ h1r).mono ?_
      rintro e w' ⟨rfl, rfl⟩
      go_wp2_with fail
      go_ret2
      exact ⟨rfl, hC.below⟩
    · obtain ⟨ca, ta, ha⟩ := hEr.row k (by omega)
      obtain ⟨cb, tb, hbb⟩ := hEr.row j (by omega)
      have hne : a k ≠ a j := fun h => hjk ((hEr.ne k j (by omega) (by omega) h).symm)
      go_wp2_with fail
      refine (is_fault_other _ _ _ _ ca cb ta tb _ h1r hne ha hbb).mono ?_
      rintro e w' ⟨rfl, rfl⟩
      go_wp2_with fail
      go_roundw
      case rel => exact ⟨j + 1, by omega, rfl, by go_num, hC⟩
      case measure => simp [intOf]; omega
end Go.Proofs.YtcbcjefefmbccabGreatDoor
namespace Go.Proofs.YtcbcjefefmbccabGreatDoor
open Go.RowKit Go.ChangeShapes

/- A listed sentinel. -/
abbrev sentD (x : String × Nat × List UInt8) : String × DataW Unit := (x.1, .iface "*errors.errorString" (.ptr (.agg [.lit (.string x.2.2)])))

/- However many listed sentinels of one type: each variable holds a pointer, its row bears the frozen range (0, 0), no two are one. -/
theorem sents_of_laid {P : Program} {W : World} {ti tp te ts : TypeId} {ms : Array (String × TypeId)} {f : Field}
    (hi : P.underlying ti = some (.interface ms)) (hrow : ∀ u, P.typeName? 3 u = some "*errors.errorString" → u = tp)
    (hp : P.underlying tp = some (.pointer te)) (he : P.underlying te = some (.struct #[f])) (hft : f.type = ts) (hfo : f.offset = 0) (hs : P.underlying ts = some .string) (hc : P.cellsOf te = 1) (hcs : P.cellsOf ts = 1) :
    ∀ (l : List (String × Nat × List UInt8)) (ps : List MemPlace), (∀ x ∈ l, P.globalNamed x.1 = some x.2.1 ∧ (P.globals[x.2.1]?).map (·.type) = some ti) →
      DataW.LaidVars P W (l.map sentD) ps → ps.Nodup →
      (∀ b off, MemPlace.cell b off ∈ ps → (∃ c t, W.heap[b]? = some (.cells c t (0, 0))) ∧ ∀ u v, W.cell? ⟨b, off, none⟩ = some (.iface u v) → Value.okWide P W .any 0 u v) →
      ∃ a : Nat → Addr, (∀ i (h : i < l.length), W.cell? ⟨l[i].2.1, 0, none⟩ = some (.iface tp (.pointer (some (a i)))) ∧ MemPlace.cell (a i).block (a i).off ∈ ps ∧ ∃ c t, W.heap[(a i).block]? = some (.cells c t (0, 0))) ∧
        ∀ i j, i < l.length → j < l.length → a i = a j → i = j
  | [], _, _, _, _, _ => ⟨fun _ => ⟨0, 0, none⟩, fun i h => absurd h (by simp), fun i j h => absurd h (by simp)⟩
  | x :: l, ps, hall, hv, hnd, hrows => by
    obtain ⟨g0, t0, cs0, f0, p0, q0, hg0, ht0, hv0, hd0, hq, rfl⟩ := hv
    obtain ⟨hgx, htx⟩ := hall x (List.mem_cons_self ..)
    obtain rfl := Option.some.inj (hgx.symm.trans hg0)
    obtain rfl := Option.some.inj (htx.symm.trans ht0)
    obtain ⟨l0⟩ := cs0
    have ok0 : ∀ u v, l0 = [.iface u v] → Value.okWide P W .any 0 u v := fun u v e => by
      subst e
      exact (hrows x.2.1 0 (by simp [MemPlace.row])).2 u v (by simpa using World.var?_cell hg0 hv0 0)
    obtain ⟨a0, s0, rfl, hc0, hs0, hz0, rfl⟩ := errorString_of_trod hi hrow hp he hft hfo hs hc hcs hd0 ok0
    have hmem0 : MemPlace.cell a0.block a0.off ∈ MemPlace.row a0 1 := by simp [MemPlace.row]
    obtain ⟨hnd1, hnd2, hdis⟩ := List.nodup_append.1 hnd
    obtain ⟨a, ha, hne⟩ := sents_of_laid hi hrow hp he hft hfo hs hc hcs l q0 (fun y hy => hall y (List.mem_cons_of_mem _ hy)) hq hnd2 (fun b off hm => hrows b off (List.mem_append_right _ hm))
    refine ⟨fun i => match i with | 0 => a0 | i + 1 => a i, ?_, ?_⟩
    · intro i h
      cases i with
      | zero => exact ⟨by simpa using World.var?_cell hg0 hv0 0, List.mem_append_left _ (List.mem_append_right _ hmem0), (hrows a0.block a0.off (List.mem_append_left _ (List.mem_append_right _ hmem0))).1⟩
      | succ i =>
        obtain ⟨h1, h2, h3⟩ := ha i (by simpa using h)
        exact ⟨h1, List.mem_append_right _ h2, h3⟩
    · intro i j hi' hj' e
      cases i with
      | zero =>
        cases j with
        | zero => rfl
        | succ j =>
          exfalso
          simp only at e
          have h2 := (ha j (by simpa using hj')).2.1
          rw [← e] at h2
          exact hdis _ (List.mem_append_right _ hmem0) _ h2 rfl
      | succ i =>
        cases j with
        | zero =>
          exfalso
          simp only at e
          have h2 := (ha i (by simpa using hi')).2.1
          rw [e] at h2
          exact hdis _ (List.mem_append_right _ hmem0) _ h2 rfl
        | succ j => rw [hne i j (by simpa using hi') (by simpa using hj') e]

def errSents : List (String × Nat × List UInt8) := [("cornbin/api.ErrText", 4, [99, 111, 114, 110, 98, 105, 110, 58, 32, 116, 101, 120, 116]), ("cornbin/api.ErrBound", 5, [99, 111, 114, 110, 98, 105, 110, 58, 32, 98, 111, 117, 110, 100]),
  ("cornbin/api.ErrShape", 2, [99, 111, 114, 110, 98, 105, 110, 58, 32, 115, 104, 97, 112, 101]), ("cornbin/api.ErrName", 6, [99, 111, 114, 110, 98, 105, 110, 58, 32, 110, 97, 109, 101]),
  ("cornbin/api.ErrNone", 0, [99, 111, 114, 110, 98, 105, 110, 58, 32, 110, 111, 110, 101]), ("cornbin/api.ErrExist", 3, [99, 111, 114, 110, 98, 105, 110, 58, 32, 101, 120, 105, 115, 116]),
  ("cornbin/api.ErrFull", 1, [99, 111, 114, 110, 98, 105, 110, 58, 32, 102, 117, 108, 108]), ("cornbin/api.ErrOrder", 7, [99, 111, 114, 110, 98, 105, 110, 58, 32, 111, 114, 100, 101, 114]),
  ("cornbin/api.ErrSum", 8, [99, 111, 114, 110, 98, 105, 110, 58, 32, 115, 117, 109]), ("cornbin/api.ErrClash", 9, [99, 111, 114, 110, 98, 105, 110, 58, 32, 99, 108, 97, 115, 104]),
  ("cornbin/api.ErrUsed", 10, [99, 111, 114, 110, 98, 105, 110, 58, 32, 117, 115, 101, 100]), ("cornbin/api.ErrOff", 11, [99, 111, 114, 110, 98, 105, 110, 58, 32, 111, 102, 102])]
def errLaid : List (String × DataW Unit) := ("errors.errorType", .iface "internal/reflectlite.rtype" (.agg [.ptr (.lit (.string [101, 114, 114, 111, 114]))])) :: errSents.map sentD

theorem lEt : Tryz.prog.globalNamed "errors.errorType" = some 12 := by kernel_rfl
theorem lRt : (Tryz.prog.cutTypes.find? (·.1 == "internal/reflectlite.rtype")).map (·.2) = some 259 := by kernel_rfl
theorem lOneRow : ((List.range 385).filter fun t => Tryz.prog.rowNamed t [101, 114, 114, 111, 114]) = [ 42 ] := by kernel_rfl
theorem lSize : Tryz.prog.types.size = 385 := by kernel_rfl
theorem lRowE : ∀ u, Tryz.prog.typeName? 3 u = some "*errors.errorString" → u = 356 := typeName_ptr_named (nm := "errors.errorString") (by kernel_rfl) (by kernel_rfl) (by decide)
theorem lCellsE : Tryz.prog.cellsOf 374 = 1 := by kernel_rfl
theorem lCellsS : Tryz.prog.cellsOf 9 = 1 := by kernel_rfl
theorem lAll : (errSents.all fun x => Tryz.prog.globalNamed x.1 == some x.2.1 && (Tryz.prog.globals[x.2.1]?).map (·.type) == some 42) = true := by kernel_rfl

theorem errW_of_laid {W : World} (h : laidMetH Tryz.prog errLaid W) : ∃ a, ErrW W a := by
  have h' : laidMet Tryz.prog (errSents.map sentD) W ∧ handlesMet Tryz.prog [("errors.errorType", .iface "internal/reflectlite.rtype" (.agg [.ptr (.lit (.string [101, 114, 114, 111, 114]))]))] W := h
  obtain ⟨⟨ps, hv, hnd, hrows⟩, hh⟩ := h'
  obtain ⟨a, ha, hne⟩ := sents_of_laid (P := Tryz.prog) Tryz.underlying42 lRowE Tryz.underlying356 Tryz.underlying374 rfl rfl Tryz.underlying9 lCellsE lCellsS errSents ps
    (fun x hx => by have := List.all_eq_true.1 lAll x hx; simpa using this) hv hnd hrows
  refine ⟨a, ⟨?_, fun i hi => (ha i hi).2.2, hne, ?_⟩⟩
  · intro i hi
    have : i = 0 ∨ i = 1 ∨ i = 2 ∨ i = 3 ∨ i = 4 ∨ i = 5 ∨ i = 6 ∨ i = 7 ∨ i = 8 ∨ i = 9 ∨ i = 10 ∨ i = 11 := by omega
    rcases this with rfl | rfl | rfl | rfl | rfl | rfl | rfl | rfl | rfl | rfl | rfl | rfl <;> exact (ha _ hi).1
  · obtain ⟨name, u, ty, e1, e2, e3, e4, e5⟩ := hh _ (List.mem_singleton.2 rfl)
    have en : name = [101, 114, 114, 111, 114] := (Option.some.inj e1).symm
    subst en
    obtain rfl := Option.some.inj (lRt.symm.trans e2)
    have hm : ty ∈ (List.range 385).filter fun t => Tryz.prog.rowNamed t [101, 114, 114, 111, 114] := List.mem_filter.2 ⟨List.mem_range.2 (by rw [← lSize]; exact e3), e4⟩
    rw [lOneRow] at hm
    obtain rfl := List.mem_singleton.1 hm
    have hth : typeHandle Tryz.prog 42 = .pointer (some ⟨19, 42, none⟩) := by kernel_rfl
    rw [hth] at e5
    simpa using World.var?_cell lEt e5 0
end Go.Proofs.YtcbcjefefmbccabGreatDoor
