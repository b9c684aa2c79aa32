/- What the table's datum gives for layer 10: the sixteen numbers lie where the program's variable lies; a world in which they do; and the four walks. -/
import Derived.Test.YtdomcgbfpinpoaaGreatDoorFrmH10
import Derived.Test.YtdomcgbfpinpoaaGreatDoorMRef10
import Derived.Test.YtdomcgbfpinpoaaGreatDoorRows
import Derived.ProofKit
import Derived.LaidMore
import Derived.OpenShut
import Derived.Stop.Joined
import Derived.Lib.LaidTab
namespace Go.Proofs.YtdomcgbfpinpoaaGreatDoor
open Go.ChangeShapes Go.WideShapes Go.ChangeAt Go.RowKit

theorem gHalves : Tryz.prog.globalNamed "backhaul/crc.halves" = some 0 := by kernel_rfl
theorem tHalves : (Tryz.prog.globals[0]?).map (·.type) = some 133 := by kernel_rfl
theorem zHalves : tabZ.length = 16 := rfl
theorem tab_of_laid {W : World} (h : laidMetH Tryz.prog [("backhaul/crc.halves", Rows.laid_backhaul_crc_halves)] W) : Tab W := by
  rw [MakeChecks.laidMetH_plain _ _ _ (by kernel_rfl)] at h
  have hT := Lib.tabIs_of_head (k := .u32) (zs := tabZ) gHalves tHalves Tryz.underlying133 Tryz.underlying85 (by kernel_rfl) (by kernel_rfl) h
  have hc : ∀ i, i < 16 → W.cell? ⟨0, i, none⟩ = some (.int .u32 (tabN i : Nat)) := fun i hi => by
    rw [← tab_at i hi]; exact hT.cell gHalves i (by rw [zHalves]; exact hi)
  refine ⟨?_, hc⟩
  have h0 := hc 0 (by omega)
  by_cases hs : 0 < W.heap.size
  · exact hs
  · have : W.heap[0]? = none := Array.getElem?_eq_none (by omega)
    simp [World.cell?, this] at h0
theorem door_met (os : Os) (args : Array Value) : laidMetH Tryz.prog [("backhaul/crc.halves", Rows.laid_backhaul_crc_halves)] ((World.doorLaid Tryz.prog 400 os).forCall (fun _ _ => 0) ⟨#[], args, []⟩).memory :=
  laidMetH_of_parts3 (fuel := 8) (laidMet_of_run' 8 (by kernel_rfl) (by kernel_rfl)) (by kernel_rfl) (by kernel_rfl)
/-- The program's frame does all that layer 10's walks want of it. -/
theorem frame10 : Frame10 Tab where
  below := fun h hb => h.below hb
  sect := fun t ht w => (psects_any t ht w).mono fun e w' h => ⟨h.1, by rw [← h.2]; exact Below.refl _ _⟩
  put := fun ep sq t ht w hT => pput10_any ep sq t ht w hT
  get := fun s p hs h0 h1 w hT => pget10_any s hs p h0 h1 w hT
  scan := fun s ep hs w hT => pscan10_any s hs ep w hT
end Go.Proofs.YtdomcgbfpinpoaaGreatDoor
