/- The law VaultKeeps: opened again a vault tells the text that was laid last, and all bodies behind that, also behind a loss of power: it comes out true for every acts and choice. -/
import Derived.Test.YtcbmecpeockdeaaGreatDoorChoice8
import Derived.Test.YtcbmecpeockdeaaGreatDoorMRest8
import Derived.Test.YtcbmecpeockdeaaGreatDoorVI12
namespace Go.Proofs.YtcbmecpeockdeaaGreatDoor
open Go.RowKit Go.Maps

theorem Buts.grown {a b g m : Nat} {x w w' : World} {row : Option Nat} (k : Buts a b g m x w) (h : w.grownBy w' row) (hr : ∀ r, row = some r → x.heap.size ≤ r) : Buts a b g m x w' :=
  ⟨h.os.trans k.os, h.tape.trans k.tape, h.output.trans k.output, Nat.le_trans k.size h.size, fun i hi h0 h1 h2 h3 => (h.block i (Nat.lt_of_lt_of_le hi k.size) (fun e => by have := hr i e.symm; omega)).trans (k.block i hi h0 h1 h2 h3)⟩
theorem PV.kept {w w' : World} {a b g cap m : Nat} {v : Vt} (h : PV w a b g cap m v) (h0 : w'.heap[a]? = w.heap[a]?) (h1 : w'.heap[b]? = w.heap[b]?) (h2 : w'.heap[g]? = w.heap[g]?) (h3 : w'.heap[m]? = w.heap[m]?) : PV w' a b g cap m v :=
  ⟨h0.trans h.box, h.dev.kept h1 h2 h3, h.far⟩
/-- A row of the call's own stays where only four older blocks may change. -/
theorem own_buts {B : Nat} {w w' : World} {e : TypeId} {v : Value} {n : Nat} {xs : List Value} {a b g m : Nat} (h : w.ownsRow B e 1 v n xs) (hb : Buts a b g m w w') (h0 : a < B) (h1 : b < B) (h2 : g < B) (h3 : m < B) : w'.ownsRow B e 1 v n xs := by
  refine ⟨h.1, ?_⟩
  rcases h.2 with q | ⟨r, cp, cur, q1, q2, q3, q4⟩
  · exact Or.inl q
  · exact Or.inr ⟨r, cp, cur, q1, q2, (hb.block r (obj_lt q3) (by omega) (by omega) (by omega) (by omega)).trans q3, q4⟩
/-- The worlds of the law behind Open: all that lay ahead stays. -/
structure Base12 (w V0 : World) (a b g m : Nat) : Prop where
  old : Below w.heap.size w V0
  ha : w.heap.size < a
  hb : w.heap.size < b
  hg : w.heap.size < g
  hm : w.heap.size < m
  la : a < V0.heap.size
  lb : b < V0.heap.size
  lg : g < V0.heap.size
  lm : m < V0.heap.size
theorem Base12.below {w V0 v : World} {a b g m : Nat} (h : Base12 w V0 a b g m) (hv : Buts a b g m V0 v) : Below w.heap.size w v := h.old.trans (hv.below (by have := h.ha; omega) (by have := h.hb; omega) (by have := h.hg; omega) (by have := h.hm; omega) h.old.size)
theorem far_of12 {B : Nat} {w : World} {a : Option Addr} {xs : List Bool} (h : Bools B w a xs) {b g m : Nat} (h1 : B ≤ b) (h2 : B ≤ g) (h3 : B ≤ m) : Far a xs b g m := by
  rcases h with q | ⟨x, off, q1, q2, _⟩
  · exact Or.inl q
  · refine Or.inr fun y o e => ?_
    rw [q1] at e
    injection e with e
    injection e with e _
    subst e
    exact ⟨by omega, by omega, by omega⟩
theorem ActsW.up {B B' : Nat} {w : World} {a : Option Addr} {l : List AW} (h : ActsW B w a l) (hB : B ≤ B') : ActsW B' w a l := by
  rcases h with q | ⟨b, off, q1, q2, q3⟩
  · exact Or.inl q
  · exact Or.inr ⟨b, off, q1, by omega, fun j hj => ⟨(q3 j hj).1, (q3 j hj).2.text, (q3 j hj).2.own.pos, (q3 j hj).2.own.num, (q3 j hj).2.own.keep.up hB, (q3 j hj).2.own.few⟩⟩
/-- What one round of the law leaves of a vault that keeps what it has. -/
structure Kp12 (V : Vt) (X : List UInt8) (bs : List (List UInt8)) (k : Nat) : Prop where
  ok : V.d.Ok
  kept : VKept V 120 X bs
  s10 : V.s = 10
  ops : V.d.ops ≤ 40000 + 40000 * (k : Int)
  few : bs.length ≤ k
theorem Kp12.append {V : Vt} {X : List UInt8} {bs : List (List UInt8)} {k : Nat} (h : Kp12 V X bs k) (t : List UInt8) (ht : t.length ≤ 3100) : (V.appR t = 0 ∧ Kp12 (V.append t) X (bs ++ [t]) (k + 1)) ∨ (V.appR t ≠ 0 ∧ V.append t = V ∧ Kp12 V X bs (k + 1)) := by
  have ho := h.ops
  have hf := h.few
  have hn : nsec t.length ≤ 50 := by unfold nsec; omega
  rcases h.kept.append t with ⟨q1, q2⟩ | ⟨q1, q2⟩
  · refine Or.inl ⟨q1, append_dok h.ok t, q2, by rw [(append_same V t).1, h.s10], ?_, by rw [List.length_append, List.length_singleton]; omega⟩
    have := append_ops V t
    omega
  · exact Or.inr ⟨q1, q2, h.ok, h.kept, h.s10, by omega, by omega⟩
theorem Kp12.snap {V : Vt} {X : List UInt8} {bs : List (List UInt8)} {k : Nat} (h : Kp12 V X bs k) (t : List UInt8) : (V.snapR t = 0 ∧ Kp12 (V.snap t) t [] (k + 1)) ∨ (V.snapR t ≠ 0 ∧ V.snap t = V ∧ Kp12 V X bs (k + 1)) := by
  have ho := h.ops
  have hf := h.few
  rcases h.kept.snap t with ⟨q1, q2⟩ | ⟨q1, q2⟩
  · refine Or.inl ⟨q1, snap_dok h.ok t, q2, by rw [snap_same V t, h.s10], ?_, Nat.zero_le _⟩
    have := snap_ops V t (by rw [h.s10]; omega)
    omega
  · exact Or.inr ⟨q1, q2, h.ok, h.kept, h.s10, by omega, by omega⟩
theorem kp_start : ∃ d0 V1, d0 = Dv.new 120 ∧ d0.Ok ∧ d0.ops = 0 ∧ d0.cells.length = 120 ∧ openE d0 10 firstL = 0 ∧ openI d0 10 = -1 ∧ openV d0 10 firstL = V1 ∧ Kp12 V1 firstL [] 0 := by
  obtain ⟨d0, h0⟩ : ∃ d, d = Dv.new 120 := ⟨_, rfl⟩
  have ok0 : d0.Ok := by rw [h0]; exact dv_new_ok 120 (by omega) (by omega)
  have op0 : d0.ops = 0 := by rw [h0]; rfl
  have le0 : d0.cells.length = 120 := by rw [h0]; show (List.replicate 120 sec0).length = 120; rw [List.length_replicate]
  have n0 : VNone d0 120 := by rw [h0]; exact still_new 120
  obtain ⟨a1, a2, a3, a4, a5⟩ := none_open n0 10 (by omega) (by omega) (by omega) firstL (by decide)
  have r1 : openI d0 10 = -1 := by
    have hz : List.replicate (64 * 120) (0 : UInt8) = List.replicate (64 * 10) 0 ++ (List.replicate (64 * 10) 0 ++ List.replicate (64 * 100) 0) := by
      rw [List.replicate_append_replicate, List.replicate_append_replicate]
    have hd := n0
    unfold VNone at hd
    rw [hz] at hd
    obtain ⟨_, q2, q3⟩ := held_two (s := 10) hd List.length_replicate List.length_replicate (by omega) (by omega)
    unfold openI pickI
    rw [q2, q3, if_pos ⟨zeros_none9 _, zeros_none9 _⟩]
  have hD1 : openD d0 10 firstL = snapD d0 10 firstL := by
    unfold openD
    rw [if_pos ⟨by
      unfold openE at a1
      split at a1
      · rename_i q; exact absurd a1 q
      · rename_i q; omega, r1⟩]
  refine ⟨d0, openV d0 10 firstL, h0, ok0, op0, le0, a1, r1, rfl, ?_, open_kept a5 _ a2, ?_, ?_, Nat.le_refl _⟩
  · rw [a2, hD1]; exact snapD_ok ok0 _ _
  · rw [a2]
  · rw [a2, hD1]
    show (snapD d0 10 firstL).ops ≤ _
    have := snapD_ops d0 10 firstL (by omega)
    omega
end Go.Proofs.YtcbmecpeockdeaaGreatDoor
