/- What the listed data give: the sixteen numbers of the table lie where the program's variable lies; and a world in which all that is listed lies. -/
import Derived.Test.YtcbmecpeockdeaaGreatDoorCrc
import Derived.Test.YtcbmecpeockdeaaGreatDoorRows
import Derived.ProofKit
import Derived.LaidMore
import Derived.OpenShut
import Derived.Stop.Joined
import Derived.Lib.LaidTab
import Derived.Lay
namespace Go.Proofs.YtcbmecpeockdeaaGreatDoor
open Go.ChangeShapes Go.WideShapes Go.ChangeAt Go.RowKit

theorem laid_tail {P : Program} {x : String × DataW Unit} {r : List (String × DataW Unit)} {W : World} (h : laidMet P (x :: r) W) : laidMet P r W := by
  obtain ⟨ps, ⟨g, t, cs, fuel, p, q, _, _, _, _, hr, rfl⟩, hn, hc⟩ := h
  exact ⟨q, hr, (List.nodup_append.1 hn).2.1, fun b off hm => hc b off (List.mem_append_right _ hm)⟩
theorem gHalves : Tryz.prog.globalNamed "backhaul/crc.halves" = some 0 := by kernel_rfl
theorem tHalves : (Tryz.prog.globals[0]?).map (·.type) = some 181 := by kernel_rfl
theorem zHalves : tabZ.length = 16 := rfl
theorem tab_of_halves {rest : List (String × DataW Unit)} {W : World} (h : laidMet Tryz.prog (("backhaul/crc.halves", Rows.laid_backhaul_crc_halves) :: rest) W) : Tab W := by
  have hT := Lib.tabIs_of_head (k := .u32) (zs := tabZ) gHalves tHalves Tryz.underlying181 Tryz.underlying127 (by kernel_rfl) (by kernel_rfl) h
  have hc : ∀ i, i < 16 → W.cell? ⟨0, i, none⟩ = some (.int .u32 (tabN i : Nat)) := fun i hi => by
    rw [← tab_at i hi]; exact hT.cell gHalves i (by rw [zHalves]; exact hi)
  refine ⟨?_, hc⟩
  have h0 := hc 0 (by omega)
  by_cases hs : 0 < W.heap.size
  · exact hs
  · have : W.heap[0]? = none := Array.getElem?_eq_none (by omega)
    simp [World.cell?, this] at h0
theorem tab_of_laid9 {W : World} (h : laidMetH Tryz.prog [("unicode/utf8.acceptRanges", Rows.laid_unicode_utf8_acceptRanges), ("backhaul/crc.halves", Rows.laid_backhaul_crc_halves), ("unicode/utf8.first", Rows.laid_unicode_utf8_first)] W) : Tab W := by
  rw [MakeChecks.laidMetH_plain _ _ _ (by kernel_rfl)] at h
  exact tab_of_halves (laid_tail h)
theorem laid_met9 (os : Os) (args : Array Value) : laidMetH Tryz.prog [("unicode/utf8.acceptRanges", Rows.laid_unicode_utf8_acceptRanges), ("backhaul/crc.halves", Rows.laid_backhaul_crc_halves), ("unicode/utf8.first", Rows.laid_unicode_utf8_first)] ((World.laidAll Tryz.prog os [("unicode/utf8.acceptRanges", Rows.laid_unicode_utf8_acceptRanges), ("backhaul/crc.halves", Rows.laid_backhaul_crc_halves), ("unicode/utf8.first", Rows.laid_unicode_utf8_first)]).forCall (fun _ _ => 0) ⟨#[], args, []⟩).memory := by
  rw [MakeChecks.laidMetH_plain _ _ _ (by kernel_rfl)]
  exact laidMet_laidAll _ (by kernel_rfl) (by kernel_rfl)
end Go.Proofs.YtcbmecpeockdeaaGreatDoor
