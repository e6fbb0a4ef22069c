/- MoveBack returns true whatever the acts, the rep, the spot and the byte: the tied card MoveBackCardSaid. Conditions: those of the card itself (the twelve sentinels, errors' own type handle and strconv's table of powers lie as the program's text lays them). -/
import Derived.Test.YtjngnnbondejaabGreatDoorM23
namespace Go.Proofs.YtjngnnbondejaabGreatDoor.mbCard
open Go.ChangeShapes Go.WideShapes Go.ChangeAt Go.RowKit
open Go.ChangeMaps (open_string shut_string)
open Go.Joins
open Go.Deep (open_slice choose_lt add_add trod_struct3)
theorem stand (t:TypeId)(h:t=22∨t=3∨t=3∨t=5):Tryz.prog.wantsStandIn t=false:=by
 rcases h with rfl|rfl|rfl|rfl<;>kernel_rfl
theorem plain (f:FuncId)(fn:Func)(hf:Tryz.pinned.checked.prog.funcNamed "cornbin/cornbinlaw2.MoveBack"=some f)(hfn:Tryz.pinned.checked.prog.funcs[f]? = some fn) :
 true=Tryz.pinned.checked.prog.looks []∧∀(j:Nat) t,fn.params[j]? = some t→Tryz.pinned.checked.prog.wantsStandIn t=false:=by obtain rfl:f=6:=Option.some.inj ((show Tryz.prog.funcNamed "cornbin/cornbinlaw2.MoveBack"=some 6 by kernel_rfl).symm.trans hf) |>.symm;obtain rfl:fn=Tryz.f6:=(Option.some.inj (Tryz.func6.symm.trans hfn)).symm;refine⟨by kernel_rfl,fun j t ht => ?_⟩;rw[Tryz.params6]at ht;have hm:=Array.mem_of_getElem? ht;exact stand t (by simpa using hm)
theorem card:Rows.MoveBackCardSaid:=
 Claim7.holds_tied_plain_at .later [] _ _ _ _ said (fun _ h=>by cases h) wft (fun _ h=>by cases h) moveBack_row_tie rfl ⟨rfl,rfl⟩ (by kernel_rfl) rfl plain goes
end Go.Proofs.YtjngnnbondejaabGreatDoor.mbCard
namespace Go.Proofs.YtjngnnbondejaabGreatDoor
theorem moveBack_card:Rows.MoveBackCardSaid:=mbCard.card
end Go.Proofs.YtjngnnbondejaabGreatDoor
