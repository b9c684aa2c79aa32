/- The law TrailKeeps: frames that were appended are loaded, just they, also behind a loss of power: it comes out true for every texts, epoch and choice. -/
import Derived.Test.YtdomcgbfpinpoaaGreatDoorChoice8
import Derived.Test.YtdomcgbfpinpoaaGreatDoorLaid10
import Derived.Test.YtdomcgbfpinpoaaGreatDoorMWrite8
import Derived.Test.YtdomcgbfpinpoaaGreatDoorTrD11
import Derived.Test.YtdomcgbfpinpoaaGreatDoorTrE11
import Derived.Deep.RegionWith
import Derived.Deep.CutBlock
import Derived.Deep.DeepCutAuto
import Derived.BigQuiet
namespace Go.Proofs.YtdomcgbfpinpoaaGreatDoor
open Go.RowKit Go.Maps

theorem far_of11 {B : Nat} {w : World} {a : Option Addr} {xs : List Bool} (h : Bools B w a xs) {b g m : Nat} (h1 : B ≤ b) (h2 : B ≤ g) (h3 : B ≤ m) : Far a xs b g m := by
  rcases h with q | ⟨x, off, q1, q2, _⟩
  · exact Or.inl q
  · refine Or.inr fun y o e => ?_
    rw [q1] at e
    injection e with e
    injection e with e _
    subst e
    exact ⟨by omega, by omega, by omega⟩
/-- The worlds of a law with a device of its own: all that lay ahead stays. -/
structure Base11 (w V0 : World) (b g m : Nat) : Prop where
  old : Below w.heap.size w V0
  hb : w.heap.size < b
  hg : w.heap.size < g
  hm : w.heap.size < m
theorem Base11.below {w V0 v : World} {b g m : Nat} (h : Base11 w V0 b g m) (hv : But b g m V0 v) : Below w.heap.size w v := h.old.trans (hv.below (by have := h.hb; omega) (by have := h.hg; omega) (by have := h.hm; omega) h.old.size)
end Go.Proofs.YtdomcgbfpinpoaaGreatDoor
