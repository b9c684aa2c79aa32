/- The document's Decide, and the law's own facts and rows: in every world. -/
import Derived.Test.YtifihejogbcbgaaRefC18
namespace Go.Proofs.Ytifihejogbcbgaa
open Go.RowKit

/-- One result that lies in a block of cells. -/
theorem results_one18 {fn : Func} {p : Tmp} {T : TypeId} (h : fn.results = #[.cell p T]) (tmps : Array Value) (w : World) (g : Nat) (v : Value)
    (hp : tmps.getD p undef = .pointer (some ⟨g, 0, none⟩)) (hl : (loadVar T ⟨g, 0, none⟩).run Try.prog w = .ok v w) :
    (results fn tmps).run Try.prog w = .ok v w := by
  have hp' : tmps[p]?.getD undef = .pointer (some ⟨g, 0, none⟩) := by simpa using hp
  simp only [results, h]
  simp [hp', asAddr, hl]
theorem fact_load18 {w : World} {g : Nat} {x y z : Value} (h : w.heap[g]? = some (.cells #[x, y, z] 31 (0, 0))) : (loadVar 31 ⟨g, 0, none⟩).run Try.prog w = .ok (.agg #[x, y, z]) w :=
  run_loadVar_row (P := Try.prog) w g _ 31 #[x, y, z] (0, 0) _ h Try.underlying31 rfl (by kernel_rfl)
end Go.Proofs.Ytifihejogbcbgaa
