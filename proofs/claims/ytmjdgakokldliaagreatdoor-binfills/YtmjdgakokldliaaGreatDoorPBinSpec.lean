/-
  Own text. The program's package bin keeps the contracts (BinSpec).
-/
import Derived.Test.YtmjdgakokldliaaGreatDoorPPut
import Derived.Test.YtmjdgakokldliaaGreatDoorPSweep
import Derived.Test.YtmjdgakokldliaaGreatDoorPAllAll
namespace Go.Proofs.YtmjdgakokldliaaGreatDoor
open Go.RowKit Go.Maps

theorem pPut_any {a : Nat → Addr} (s : ByteArray) (p : Addr) (F : Nat → Prop) (l : List Hd) (w : World) (hs : s.size ≤ 50000) (hok : BinOk 1000000 l) (hE : ErrG w a) (hP : PBin0 w p F l) :
    Calls Tryz.prog 39 #[.pointer (some p), .string s] w (PPost a w p F (hPut l s.data.toList)) := by
  by_cases hn : 1 ≤ s.size ∧ s.size ≤ 64
  · cases hf : hFind l (idOfL s.data.toList) with
    | none =>
      by_cases hfull : 250 ≤ l.length
      · exact pPut_full s p F l w hs hE hP hn.1 hn.2 hf hfull
      · exact pPut_new s p F l w hs hE hP hn.1 hn.2 hf (by omega)
    | some k =>
      obtain ⟨hk, _⟩ := hFind_some hf
      obtain ⟨hu0, hu1⟩ := hok.uses (Int.le_refl _) _ (List.getElem_mem hk)
      by_cases ht : l[k].2.2 = s.data.toList
      · exact pPut_same s p F l w hs hE hP hn.1 hn.2 hok.many k l[k].2.1 l[k].2.2 hf hk rfl ht hu0 hu1
      · exact pPut_clash s p F l w hs hE hP hn.1 hn.2 k l[k].2.1 l[k].2.2 hf hk rfl ht
  · exact pPut_bound s p F l w hs hE hP hn
theorem pBinSpec (a : Nat → Addr) {Env : World → Prop} (hst : ∀ {w w' : World}, Env w → Below w.heap.size w w' → Env w') (heg : ∀ {w : World}, Env w → ErrG w a) : BinSpec a Env PBin0 where
  stable h hb := hst h hb
  lt h := h.lt
  off h ho hG := h.off ho hG
  new w _ := pNew_any w
  put s p F l w hs hok hE hP := pPut_any s p F l w hs hok (heg hE) hP
  get x p F l w hx _ hE hP := pGet_any x p F l w hx (heg hE) hP
  drop x p F l w hx hok hE hP := pDrop_any x p F l w hx hok (heg hE) hP
  sweep p F l w hok _ hP := pSweep_any p F l w hok hP
  size p F l w hok _ hP := pSize_any p F l w hok hP
  copy p F l w _ _ hP := pCopy_any p F l w hP
  all p F l w hok _ hP := pAll_any p F l w hok hP
end Go.Proofs.YtmjdgakokldliaaGreatDoor
