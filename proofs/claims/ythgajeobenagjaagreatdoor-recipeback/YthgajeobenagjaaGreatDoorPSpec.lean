/-
  Own text. The program's package recipe meets what the walk over the law asks (RecSpec), in worlds that hold the sentinels, strconv's table, and a number in internal/bytealg.MaxLen.
-/
import Derived.Test.YthgajeobenagjaaGreatDoorPJoin
import Derived.Test.YthgajeobenagjaaGreatDoorPRead
import Derived.Test.YthgajeobenagjaaGreatDoorPRep
namespace Go.Proofs.YthgajeobenagjaaGreatDoor
open Go.RowKit

def RecEnv (a : Nat → Addr) (w : World) : Prop := ErrW w a ∧ Pow10 w ∧ ∃ m, w.cell? ⟨13, 0, none⟩ = some (.int .i64 m)
theorem recSpec (a : Nat → Addr) : RecSpec a (RecEnv a) where
  stable := fun {w w'} h hb => ⟨h.1.below hb (Nat.le_refl _), h.2.1.below hb (Nat.le_refl _), by
    obtain ⟨m, hm⟩ := h.2.2
    exact ⟨m, (hb.cell (p := ⟨13, 0, none⟩) (lt_of_cell hm)).trans hm⟩⟩
  err := fun h => h.1
  name := fun s w hs _ => (name_any s (by unfold maxLen; omega) w).mono fun e w' ⟨h1, h2⟩ => ⟨h1, by rw [h2]; exact Below.refl _ _⟩
  of' := fun nm s w hn _ h => of_all a nm s (by unfold maxLen; omega) w h.1
  check := fun nm len p v ids w hn hl h hv => check_any a nm (by unfold maxLen; omega) len p v ids w h.1 hv (by unfold maxLen; omega)
  rep := fun nm len p v ids w hl _ hv => rep_any nm len p v ids w hv (by unfold maxLen; omega)
  text := fun nm len p v ids w hn hl hp h32 h hv => rtext_any a nm (by unfold maxLen; omega) len p hp v ids w h.1 h.2.1 hv (by unfold maxLen; omega) h32
  read := fun t w ht hr h => by
    obtain ⟨m, hm⟩ := h.2.2
    exact rread_fine a t ht m w h.1 hm hr
  join := fun nm len p v vl ids ls w hn hl hll hsz h hv hvl => rjoin_any a nm (by unfold maxLen; omega) len p v vl ids ls w h.1 hv (by unfold maxLen; omega) hvl hll hsz
end Go.Proofs.YthgajeobenagjaaGreatDoor
