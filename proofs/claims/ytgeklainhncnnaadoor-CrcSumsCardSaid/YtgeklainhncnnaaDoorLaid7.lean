/- What the table's datum gives: the sixteen numbers lie where the program's variable lies; and a world in which they do. -/
import Derived.Test.YtgeklainhncnnaaDoorCrc
import Derived.Test.YtgeklainhncnnaaDoorRows
import Derived.ProofKit
import Derived.LaidMore
import Derived.OpenShut
import Derived.Stop.Joined
import Derived.Lib.LaidTab
namespace Go.Proofs.YtgeklainhncnnaaDoor
open Go.ChangeShapes Go.WideShapes Go.ChangeAt Go.RowKit

theorem gHalves : Tryd.prog.globalNamed "backhaul/crc.halves" = some 0 := by kernel_rfl
theorem tHalves : (Tryd.prog.globals[0]?).map (·.type) = some 40 := by kernel_rfl
theorem zHalves : tabZ.length = 16 := rfl
theorem tab_of_laid {W : World} (h : laidMetH Tryd.prog [("backhaul/crc.halves", Rows.laid_backhaul_crc_halves)] W) : Tab W := by
  rw [MakeChecks.laidMetH_plain _ _ _ (by kernel_rfl)] at h
  have hT := Lib.tabIs_of_head (k := .u32) (zs := tabZ) gHalves tHalves Tryd.underlying40 Tryd.underlying22 (by kernel_rfl) (by kernel_rfl) h
  have hc : ∀ i, i < 16 → W.cell? ⟨0, i, none⟩ = some (.int .u32 (tabN i : Nat)) := fun i hi => by
    rw [← tab_at i hi]; exact hT.cell gHalves i (by rw [zHalves]; exact hi)
  refine ⟨?_, hc⟩
  have h0 := hc 0 (by omega)
  by_cases hs : 0 < W.heap.size
  · exact hs
  · have : W.heap[0]? = none := Array.getElem?_eq_none (by omega)
    simp [World.cell?, this] at h0
theorem door_met (os : Os) (args : Array Value) : laidMetH Tryd.prog [("backhaul/crc.halves", Rows.laid_backhaul_crc_halves)] ((World.doorLaid Tryd.prog 400 os).forCall (fun _ _ => 0) ⟨#[], args, []⟩).memory :=
  laidMetH_of_parts3 (fuel := 8) (laidMet_of_run' 8 (by kernel_rfl) (by kernel_rfl)) (by kernel_rfl) (by kernel_rfl)
end Go.Proofs.YtgeklainhncnnaaDoor
