/- A part. -/
import Derived.Test.YtjngnnbondejaabGreatDoorM20
set_option maxHeartbeats 4000000
namespace Go.Proofs.YtjngnnbondejaabGreatDoor.mbCard
open Go.ChangeShapes Go.WideShapes Go.ChangeAt Go.RowKit
theorem Qr5:(Rows.moveBackRow.inPlace==Tryz.pinned.checked.prog.inPlace 6)=true:=by kernel_rfl
theorem Qkv:(Rows.moveBackRow.unfollowed==Tryz.pinned.checked.prog.unfollowed 6)=true:=by kernel_rfl
theorem Qre:(Rows.moveBackRow.recurses==Tryz.pinned.checked.prog.recurses 6)=true:=by kernel_rfl
theorem Qvv:(Rows.moveBackRow.named==Tryz.pinned.checked.prog.varsNamed 6)=true:=by kernel_rfl
theorem Yj {a b:Bool}(h:a=true)(k:b=true):(a&&b)=true:=by rw[h,k];rfl
theorem closed:joinedFacts Tryz.pinned.checked.prog 6 Tryz.f6 (OpenSpec.ofChange Rows.moveBackSpec).bare Rows.moveBackRow=true:=by
 unfold joinedFacts;exact Yj (Yj (Yj (Yj (Yj (Yj (Yj (Yj (Yj (Yj (Yj (Yj (Yj (Yj (Yj (Yj (Yj (Yj (Yj (Yj (Yj (Yj (Yj (Yj (Yj (Yj (Yj (Yj (Yj (Yj (Yj (by as_aux_lemma=>kernel_rfl) (by as_aux_lemma=>kernel_rfl)) (by as_aux_lemma=>kernel_rfl)) (by as_aux_lemma=>kernel_rfl)) (by as_aux_lemma=>kernel_rfl)) (by as_aux_lemma=>kernel_rfl)) (by as_aux_lemma=>kernel_rfl)) (by as_aux_lemma=>kernel_rfl)) (by as_aux_lemma=>kernel_rfl)) Qr5) Qkv) Qre) Qvv) (by as_aux_lemma=>kernel_rfl)) (by as_aux_lemma=>kernel_rfl)) (by as_aux_lemma=>kernel_rfl)) (by as_aux_lemma=>kernel_rfl)) (by as_aux_lemma=>kernel_rfl)) (by as_aux_lemma=>kernel_rfl)) (by as_aux_lemma=>kernel_rfl)) (by as_aux_lemma=>kernel_rfl)) (by as_aux_lemma=>kernel_rfl)) (by as_aux_lemma=>kernel_rfl)) (by as_aux_lemma=>kernel_rfl)) (by as_aux_lemma=>kernel_rfl)) (by as_aux_lemma=>kernel_rfl)) (by as_aux_lemma=>kernel_rfl)) (by as_aux_lemma=>kernel_rfl)) (by as_aux_lemma=>kernel_rfl)) (by as_aux_lemma=>kernel_rfl)) (by as_aux_lemma=>kernel_rfl)) (by as_aux_lemma=>kernel_rfl)
end Go.Proofs.YtjngnnbondejaabGreatDoor.mbCard
