/- The document's own Loose, for every device, in every world. -/
import Derived.Test.YtocengdojdeiiaaRef8c
namespace Go.Proofs.Ytocengdojdeiiaa
open Go.RowKit

theorem grown_ne {w w' : World} {row : Option Nat} {k : Nat} {o : Obj} (hg : w.grownBy w' row) (h : w.heap[k]? = some o) (hne : row ≠ some k) : w'.heap[k]? = some o := by
  rw [hg.block k (obj_lt h) (fun e => hne e.symm)]; exact h
def looseIx (l : List Sec) (i : Nat) : List Int := ((List.range i).filter fun k => (l.getD k sec0).loose).map fun (k : Nat) => (k : Int)
theorem looseIx_more (l : List Sec) (i : Nat) : looseIx l (i + 1) = looseIx l i ++ if (l.getD i sec0).loose = true then [(i : Int)] else [] := by
  unfold looseIx
  rw [List.range_succ, List.filter_append, List.map_append]
  congr 1
  by_cases h : (l.getD i sec0).loose = true
  · rw [if_pos h]
    simp only [List.filter_cons, h, if_true, List.filter_nil, List.map_cons, List.map_nil]
  · rw [if_neg h]
    simp only [List.filter_cons, h, List.filter_nil]
    rfl
theorem looseIx_len (l : List Sec) (i : Nat) : (looseIx l i).length ≤ i := by
  unfold looseIx
  rw [List.length_map]
  have := List.length_filter_le (fun k => (l.getD k sec0).loose) (List.range i)
  rw [List.length_range] at this
  exact this
theorem loose_ix (d : Dv) (h : d.dead = false) : d.loose = looseIx d.cells d.cells.length := by unfold Dv.loose looseIx; rw [h, if_neg (by decide)]

set_option maxHeartbeats 2000000 in
theorem rloose_any (B : Nat) (a : Value) (d : Dv) (h0 : 0 < d.cells.length) (hL : d.cells.length ≤ 2000) (w : World) (hd : RDev B w a d) :
    Calls Try.prog 35 #[.agg #[a, .int .i64 d.ops, .int .i64 d.armed, .bool d.dead]] w fun e w' => ∃ a' c', e = .returned (.slice a' d.loose.length c') ∧ IntsNew w.heap.size w'.heap.size w' a' d.loose ∧ Below w.heap.size w w' := by
  obtain ⟨g, cap, rfl⟩ := Joins.ownsRow_form hd.row h0
  have hgl : g < w.heap.size := by
    obtain ⟨cs, hcs⟩ := own_obj hd.row
    exact obj_lt hcs
  cases hdd : d.dead with
  | true =>
    have hl : d.loose = [] := by unfold Dv.loose; rw [if_pos hdd]
    rw [hl]
    clear hl
    have i1 : (0 : Int) < (d.cells.length : Int) := by omega
    go_enter Try.func35, Try.ntmps35
    go_wp2
    go_loopw [3, 4] (fun o' i' wr => o' = .slice none 0 0 ∧ i' = .int .i64 0 ∧ wr = w.alloc (.cells #[.slice (some ⟨g, 0, none⟩) d.cells.length cap, .int .i64 d.ops, .int .i64 d.armed, .bool true] 32)) (fun _ _ _ => 0)
    case atStart => exact ⟨rfl, rfl, rfl⟩
    case round =>
      obtain ⟨rfl, rfl, rfl⟩ := hrel
      go_wp2
      go_ret
      exact ⟨none, 0, rfl, Or.inl rfl, (Below.refl _ w).alloc (Nat.le_refl _) _⟩
  | false =>
    have HLX := Lib.hid (loose_ix d hdd)
    have HB0 : Hid (Below w.heap.size w (w.alloc (.cells #[.slice (some ⟨g, 0, none⟩) d.cells.length cap, .int .i64 d.ops, .int .i64 d.armed, .bool false] 32))) := Lib.hid ((Below.refl _ w).alloc (Nat.le_refl _) _)
    have HX0 : Hid ((w.alloc (.cells #[.slice (some ⟨g, 0, none⟩) d.cells.length cap, .int .i64 d.ops, .int .i64 d.armed, .bool false] 32)).heap[w.heap.size]? = some (.cells #[.slice (some ⟨g, 0, none⟩) d.cells.length cap, .int .i64 d.ops, .int .i64 d.armed, .bool false] 32 (0, 0))) := Lib.hid (heap_alloc_new _ _)
    have HCE : Hid (∀ k wr, k < d.cells.length → Below w.heap.size w wr → wr.cell? ⟨g, k * 3 + 2, none⟩ = some (.bool (d.cells.getD k sec0).loose)) := Lib.hid fun k wr hk hb => by
      rw [(hd.step hb).row.cellAt (k * 3 + 2) (by omega), show k * 3 + 2 = 3 * k + 2 by omega, (sec_at d.cells k hk).2.2, List.getD_eq_getElem?_getD, List.getElem?_eq_getElem hk]; rfl
    obtain ⟨n, hn⟩ : ∃ n, d.cells.length = n := ⟨_, rfl⟩
    rw [hn] at hL h0 HLX HB0 HX0 HCE ⊢
    clear hd hn
    go_enter Try.func35, Try.ntmps35
    go_wp2
    go_loopw [3, 4] (fun o' i' wr => ∃ k : Nat, i' = .int .i64 k ∧ k ≤ n ∧ wr.ownsRow (w.heap.size + 1) 3 1 o' (looseIx d.cells k).length (intCells (looseIx d.cells k)) ∧ Hid (Below w.heap.size w wr) ∧ Hid (wr.heap[w.heap.size]? = some (.cells #[.slice (some ⟨g, 0, none⟩) n cap, .int .i64 d.ops, .int .i64 d.armed, .bool false] 32 (0, 0)))) (fun _ i _ => n - (intOf i).toNat)
    case atStart => exact ⟨0, rfl, by omega, World.ownsRow_nil _ _ _ _, HB0, HX0⟩
    case round =>
      obtain ⟨k, rfl, hk, ho, hb, hx⟩ := hrel
      obtain ⟨c0, c1, c2, c3, _, _, _, _⟩ := four_cells8 hx.out
      have hlw := obj_lt hx.out
      by_cases hlt : k < n
      · have i1 : (k : Int) < (n : Int) := by omega
        have hc := HCE.out k wr hlt hb.out
        have HM := Lib.hid (looseIx_more d.cells k)
        have hll := looseIx_len d.cells k
        obtain ⟨L, hLL⟩ : ∃ L, looseIx d.cells k = L := ⟨_, rfl⟩
        rw [hLL] at ho hll HM
        clear hLL
        cases hlo : (d.cells.getD k sec0).loose with
        | false =>
          rw [hlo] at hc HM
          clear hlo
          go_wp2
          go_roundw
          case rel => exact ⟨k + 1, by go_num, by omega, by rw [HM.out]; simpa using ho, hb, hx⟩
          case measure => simp [intOf]; omega
        | true =>
          rw [hlo] at hc HM
          clear hlo
          go_wp2_with (at_builtin; refine append_int rfl _ _ rfl (w.heap.size + 1) L.length _ _ rfl ho _ rfl (by omega) (by omega) ?_)
          intro u2 w2 ho2 hg2
          have hb2 : Below w.heap.size w w2 := (hb.out.alloc hb.out.size _).grown hg2 (by simp; omega) (fun g hg => by have := (ho.lt g hg).1; omega)
          have hx2 := grown_ne hg2 (old_obj ((Below.refl _ wr).alloc (Nat.le_refl _) _) hx.out) (fun e => by have := (ho.lt _ e).1; omega)
          rw [intCells_more] at ho2
          have HB2 := Lib.hid hb2
          have HX2 := Lib.hid hx2
          clear hb2 hg2 ho hx2 c0 c1 c2 c3 hc
          go_wp2_with fail
          go_roundw
          case rel => exact ⟨k + 1, by go_num, by omega, by rw [HM.out]; simpa using ho2, HB2, HX2⟩
          case measure => simp [intOf]; omega
      · obtain rfl : k = n := by omega
        rw [← HLX.out] at ho
        obtain ⟨a', c', hv, hI⟩ := ints_own_new ho
        subst hv
        have HI := Lib.hid hI
        clear ho hI
        go_wp2
        go_ret
        exact ⟨a', c', rfl, HI.out.wide (by omega) (Nat.le_refl _), hb.out⟩
end Go.Proofs.Ytocengdojdeiiaa
