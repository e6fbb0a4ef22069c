/-
  Own text. Names in their order: a row of names merged is the names, rising.
-/
import Derived.Test.YtjngnnbondejaabDoorChecked
import Derived.WalkKit
namespace Go.Proofs.YtjngnnbondejaabDoor

theorem sorted_names {ss ns : List (List UInt8)} (hp : ss.Perm ns) (hd : ns.Pairwise (fun a b => a ≠ b)) : (ss.mergeSort (fun x y => decide (x ≤ y))).Perm ns ∧ (ss.mergeSort (fun x y => decide (x ≤ y))).Pairwise (fun a b => a < b) := by
  have h1 : (ss.mergeSort (fun x y => decide (x ≤ y))).Perm ns := (List.mergeSort_perm _ _).trans hp
  have tr : ∀ a b c : List UInt8, decide (a ≤ b) = true → decide (b ≤ c) = true → decide (a ≤ c) = true := fun a b c h1 h2 => by simp only [decide_eq_true_eq] at *; exact List.le_trans h1 h2
  have ttl : ∀ a b : List UInt8, (decide (a ≤ b) || decide (b ≤ a)) = true := fun a b => by simp only [Bool.or_eq_true, decide_eq_true_eq]; exact List.le_total a b
  have h2 := List.pairwise_mergeSort tr ttl ss
  have h3 := (h1.pairwise_iff (fun {_ _} hne => Ne.symm hne)).2 hd
  refine ⟨h1, (h2.and h3).imp fun {a b} h => ?_⟩
  obtain ⟨hle, hne⟩ := h
  simp only [decide_eq_true_eq] at hle
  exact (List.le_iff_lt_or_eq.1 hle).resolve_right hne
end Go.Proofs.YtjngnnbondejaabDoor
