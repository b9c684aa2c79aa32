/- Rows of bytes of the call's own, and the texts that are made of them. -/
import Derived.Test.YtpjahfobjnajcaaDoorCuts
import Derived.Test.YtpjahfobjnajcaaDoorCells
import Derived.Lib.UnsafeStr
import Derived.Deep.OwnRows
namespace Go.Proofs.YtpjahfobjnajcaaDoor
open Go.RowKit

def byteRow (l : List UInt8) : Array Value := (Lib.byteCells l).toArray
theorem byteRow_at (l : List UInt8) (j : Nat) (h : j < l.length) : (byteRow l)[j]? = some (.int .u8 (l[j]).toNat) := by
  unfold byteRow
  rw [List.getElem?_toArray]
  simp [Lib.byteCells, h]
theorem byteRow_set (l : List UInt8) (k : Nat) (c : UInt8) : (byteRow l).setIfInBounds k (.int .u8 c.toNat) = byteRow (l.set k c) := by
  unfold byteRow
  rw [List.setIfInBounds_toArray]
  simp [Lib.byteCells, List.map_set]
theorem byteRow_made (n : Nat) : madeCells #[Value.int .u8 0] n = byteRow (List.replicate n 0) := by
  refine Array.ext' ?_
  rw [toList_madeCells_one]
  unfold byteRow
  simp [Lib.byteCells]
theorem push_fold (ns : List UInt8) : ∀ (r : ByteArray), (ns.map fun c => (c.toNat : Int)).foldl (fun r n => r.push (UInt8.ofNat n.toNat)) r = r ++ ⟨ns.toArray⟩ := by
  induction ns with
  | nil => intro r; exact text_eq (by simp)
  | cons c ns ih =>
    intro r
    rw [List.map_cons, List.foldl_cons, ih]
    exact text_eq (by simp)
/-- A row of bytes, as a text. -/
theorem byteRow_text {w : World} {g : Nat} {l : List UInt8} {fr : Nat × Nat} (h : w.heap[g]? = some (.cells (byteRow l) 5 fr)) (c : Nat) : (convert 39 9 (.slice (some ⟨g, 0, none⟩) l.length c)).run Tryd.prog w = .ok (.string ⟨l.toArray⟩) w := by
  rw [run_convert_bytes_string (P := Tryd.prog) _ 39 9 5 _ _ _ Tryd.underlying39 Tryd.underlying5 Tryd.underlying9]
  have hl : (loadCells ⟨g, 0, none⟩ l.length).run Tryd.prog w = .ok ((l.map fun c => (c.toNat : Int)).map (Value.int .u8)).toArray w := by
    have := run_loadCells_list (P := Tryd.prog) w ⟨g, 0, none⟩ ((l.map fun c => (c.toNat : Int)).map (Value.int .u8)) (fun j v hj => by
      have hj' : j < l.length := by
        have := (List.getElem?_eq_some_iff.1 hj).1
        simpa using this
      rw [List.map_map, List.getElem?_map, List.getElem?_eq_getElem hj'] at hj
      have hc := cell_of (j := j) h (byteRow_at l j hj')
      rw [← Option.some.inj hj]
      rcases Nat.eq_zero_or_pos j with e | e
      · subst e; simpa [Addr.add] using hc
      · simpa [Addr.add, Nat.ne_of_gt e] using hc)
    simpa using this
  refine (run_bytesToString (P := Tryd.prog) _ _ l.length c (l.map fun c => (c.toNat : Int)) hl).trans ?_
  rw [push_fold]
  congr 2
theorem infoU8 : (Tryd.prog.info? 5).map (fun i => (i.zero, i.size, i.bytes)) = some (some (.int .u8 0), 1, 1) := by kernel_rfl
end Go.Proofs.YtpjahfobjnajcaaDoor
