/- The statements' own reading of one piece by both: the answers are the same, and so are the places and the faults. -/
import Derived.Test.YtkflpkcggjpbfaaStrict
import Derived.Deep.RegionHeld3
import Derived.StillTailTactics
import Derived.Deep.DrawnRows
import Derived.Deep.CutBlock
import Derived.Deep.DeepCutAuto
namespace Go.Proofs.Ytkflpkcggjpbfaa
open Go.RowKit
attribute [local go_sem ↓] Go.wp_at_zero Go.wp_at_succ

def ReadPost (w : World) (g : Nat) (s : ByteArray) (r : Rs) (e : Ending) (w' : World) : Prop := e = .returned (.tuple #[rdr s r, .bool true]) ∧ Rd w' g s r ∧ w.grownBy w' (some g)
theorem Rd.lt {w : World} {g : Nat} {s : ByteArray} {r : Rs} (h : Rd w g s r) : g < w.heap.size := by obtain ⟨o, h1, _⟩ := h; exact obj_lt h1
theorem Rd.step {w w' : World} {g : Nat} {s : ByteArray} {r : Rs} (h : Rd w g s r) (b : Below w.heap.size w w') : Rd w' g s r := by obtain ⟨o, h1, h2⟩ := h; exact ⟨o, old_obj b h1, h2⟩

/-- Behind the reading of a piece by both. -/
theorem read_after {w V v1 : World} {B g : Nat} {s : ByteArray} {q : Rs} {a b c x y z : Value} {T : TypeId} {Z : Obj} (hB : B = w.heap.size) (hgl : g < B) (hV : Below w.heap.size w V) (hG : V.grownBy v1 (some g)) (hr : Rd v1 g s q)
    (h0 : V.heap[B]? = some (.cells #[a, b, c] T (0, 0))) (h2 : V.heap[B + 2]? = some Z) :
    (((v1.setCell ⟨B, 0, none⟩ x).setCell ⟨B, 1, none⟩ y).setCell ⟨B, 2, none⟩ z).heap[B]? = some (.cells #[x, y, z] T (0, 0)) ∧
    (((v1.setCell ⟨B, 0, none⟩ x).setCell ⟨B, 1, none⟩ y).setCell ⟨B, 2, none⟩ z).heap[B + 2]? = some Z ∧
    Rd (((v1.setCell ⟨B, 0, none⟩ x).setCell ⟨B, 1, none⟩ y).setCell ⟨B, 2, none⟩ z) g s q ∧ w.grownBy (((v1.setCell ⟨B, 0, none⟩ x).setCell ⟨B, 1, none⟩ y).setCell ⟨B, 2, none⟩ z) (some g) := by
  have o0 := grown_obj hG h0 (by omega)
  have o2 := grown_obj hG h2 (by omega)
  have hs : ∀ k, k ≠ B → (((v1.setCell ⟨B, 0, none⟩ x).setCell ⟨B, 1, none⟩ y).setCell ⟨B, 2, none⟩ z).heap[k]? = v1.heap[k]? := fun k hk => by
    rw [Below.heap_setCell _ _ _ k hk, Below.heap_setCell _ _ _ k hk, Below.heap_setCell _ _ _ k hk]
  have hz := three_below (Below.refl B v1) (Nat.le_refl B) x y z
  refine ⟨three_stored o0 x y z, by rw [hs _ (by omega)]; exact o2, ?_, ?_⟩
  · obtain ⟨o, e1, e2⟩ := hr
    exact ⟨o, by rw [hs g (by omega)]; exact e1, e2⟩
  · refine ⟨hz.os.trans (hG.os.trans hV.os), hz.tape.trans (hG.tape.trans hV.tape), hz.output.trans (hG.output.trans hV.output), Nat.le_trans hV.size (Nat.le_trans hG.size hz.size), fun k hk hne => ?_⟩
    rw [hs k (by omega), hG.block k (by have := hV.size; omega) hne, hV.block k hk]
theorem grown_then {w V V' : World} {g : Nat} (h : w.grownBy V (some g)) (b : Below V.heap.size V V') : w.grownBy V' (some g) :=
  ⟨b.os.trans h.os, b.tape.trans h.tape, b.output.trans h.output, Nat.le_trans h.size b.size, fun k hk hne => (b.block k (Nat.lt_of_lt_of_le hk h.size)).trans (h.block k hk hne)⟩

/-- An operation of a region, by its number and its slot, taken first. -/
theorem take_on {P : Program} {md : Region.Mode} {ops : Array Oper} {Q : Exit → Act → World → Prop} {S : World → Prop} {i : Nat} {oi : Oper} (d : Tmp) {v : Value} {fuel : Nat} {listed : Array Bool} {a : Act} {w : World} (hi : ops[i]? = some oi) (hd : oi.dst = some d)
    (hs : Region.noSelect ops = true) (hf : Region.free md ops listed i = true) (hr : (Region.ready md ops listed).contains i = true)
    (hQ : ∀ c a w, Q (.panic c) (a.put (some d) v) w → Q (.panic c) a w) (hw : Region.wanted oi (yielded ops a.tmps) = true) (hy : ∀ w, S w → (execOp a.eval oi).run P w = .ok (.value v) w) (hS : S w)
    (h : wpAnyH P md ops Q S fuel (listed.setIfInBounds i true) (a.put (some d) v) w) : wpAnyH P md ops Q S (fuel + 1) listed a w :=
  wpAnyH_take hi hs hf hr (by rw [hd]; exact hQ) (Or.inl ⟨hw, hy⟩) hS (by rw [hd]; exact h)
/-- The same for one that its guard leaves out. -/
theorem take_off {P : Program} {md : Region.Mode} {ops : Array Oper} {Q : Exit → Act → World → Prop} {S : World → Prop} {i : Nat} {oi : Oper} (d : Tmp) {fuel : Nat} {listed : Array Bool} {a : Act} {w : World} (hi : ops[i]? = some oi) (hd : oi.dst = some d)
    (hs : Region.noSelect ops = true) (hf : Region.free md ops listed i = true) (hr : (Region.ready md ops listed).contains i = true)
    (hQ : ∀ c a w, Q (.panic c) (a.put (some d) undef) w → Q (.panic c) a w) (hw : Region.wanted oi (yielded ops a.tmps) = false) (hS : S w)
    (h : wpAnyH P md ops Q S fuel (listed.setIfInBounds i true) (a.put (some d) undef) w) : wpAnyH P md ops Q S (fuel + 1) listed a w :=
  wpAnyH_take hi hs hf hr (by rw [hd]; exact hQ) (Or.inr ⟨hw, rfl⟩) hS (by rw [hd]; exact h)
/-- What the reading of a piece by both leaves. -/
structure ReadCut (w : World) (g : Nat) (s : ByteArray) (q : Rs) (wx : World) : Prop where
  at0 : wx.heap[w.heap.size]? = some (.cells #[.string s, .int .i64 q.p, .int .i64 q.e] 27 (0, 0))
  at2 : wx.heap[w.heap.size + 2]? = some (.cells #[.string ⟨#[]⟩, .int .i64 0, .int .i64 0] 27 (0, 0))
  rd : Rd wx g s q
  grown : w.grownBy wx (some g)
/-- What the reading of a piece by both begins with. -/
structure ReadStart (w : World) (g : Nat) (s : ByteArray) (r : Rs) (k x m : Int) (W : World) : Prop where
  at0 : W.heap[w.heap.size]? = some (.cells #[.string s, .int .i64 r.p, .int .i64 r.e] 27 (0, 0))
  at1 : W.heap[w.heap.size + 1]? = some (.cells #[.int .i64 k, .int .i64 x, .int .i64 m] 31 (0, 0))
  at2 : W.heap[w.heap.size + 2]? = some (.cells #[.string ⟨#[]⟩, .int .i64 0, .int .i64 0] 27 (0, 0))
  rd : Rd W g s r
  below : Below w.heap.size w W
  gl : g < w.heap.size
theorem ReadStart.step {w W W' : World} {g : Nat} {s : ByteArray} {r : Rs} {k x m : Int} (h : ReadStart w g s r k x m W) (b : Below W.heap.size W W') : ReadStart w g s r k x m W' :=
  ⟨old_obj b h.at0, old_obj b h.at1, old_obj b h.at2, h.rd.step b, h.below.trans (b.mono h.below.size), h.gl⟩
theorem ReadStart.cut {w W v1 : World} {g : Nat} {s : ByteArray} {r q : Rs} {k x m : Int} (h : ReadStart w g s r k x m W) (hG : W.grownBy v1 (some g)) (hr : Rd v1 g s q) :
    ReadCut w g s q (((v1.setCell ⟨w.heap.size, 0, none⟩ (.string s)).setCell ⟨w.heap.size, 1, none⟩ (.int .i64 q.p)).setCell ⟨w.heap.size, 2, none⟩ (.int .i64 q.e)) := by
  obtain ⟨a0, a2, a3, a4⟩ := read_after (x := .string s) (y := .int .i64 q.p) (z := .int .i64 q.e) rfl h.gl h.below hG hr h.at0 h.at2
  exact ⟨a0, a2, a3, a4⟩
theorem drew_step (v : World) : Below v.heap.size v v.drew := (Below.refl _ v).drew
/-- What the region of a piece wants of the world in which it begins, and of the one behind the program's call. -/
theorem ReadStart.cells {w W : World} {g : Nat} {s : ByteArray} {r : Rs} {k x m : Int} (h : ReadStart w g s r k x m W) :
    (W.cell? ⟨w.heap.size + 1, 1, none⟩ = some (.int .i64 x) ∧ W.cell? ⟨w.heap.size + 1, 2, none⟩ = some (.int .i64 m)) ∧ (W.cell? ⟨w.heap.size, 0, none⟩ = some (.string s) ∧ W.cell? ⟨w.heap.size, 1, none⟩ = some (.int .i64 r.p) ∧ W.cell? ⟨w.heap.size, 2, none⟩ = some (.int .i64 r.e)) ∧ W.frozen? ⟨w.heap.size, 0, none⟩ = false ∧ W.frozen? ⟨w.heap.size, 1, none⟩ = false ∧ W.frozen? ⟨w.heap.size, 2, none⟩ = false := by
  obtain ⟨_, p1, p2, _, _, _⟩ := three_cells h.at1
  obtain ⟨k0, k1, k2, f0, f1, f2⟩ := three_cells h.at0
  exact ⟨⟨p1, p2⟩, ⟨k0, k1, k2⟩, f0, f1, f2⟩
theorem ReadStart.cells' {w W v1 : World} {g : Nat} {s : ByteArray} {r : Rs} {k x m : Int} (h : ReadStart w g s r k x m W) (hG : W.grownBy v1 (some g)) :
    (v1.cell? ⟨w.heap.size + 1, 1, none⟩ = some (.int .i64 x) ∧ v1.cell? ⟨w.heap.size + 1, 2, none⟩ = some (.int .i64 m)) ∧ (v1.cell? ⟨w.heap.size, 0, none⟩ = some (.string s) ∧ v1.cell? ⟨w.heap.size, 1, none⟩ = some (.int .i64 r.p) ∧ v1.cell? ⟨w.heap.size, 2, none⟩ = some (.int .i64 r.e)) ∧ v1.frozen? ⟨w.heap.size, 0, none⟩ = false ∧ v1.frozen? ⟨w.heap.size, 1, none⟩ = false ∧ v1.frozen? ⟨w.heap.size, 2, none⟩ = false := by
  have hgl := h.gl
  obtain ⟨_, p1, p2, _, _, _⟩ := three_cells (grown_obj hG h.at1 (by omega))
  obtain ⟨k0, k1, k2, f0, f1, f2⟩ := three_cells (grown_obj hG h.at0 (by omega))
  exact ⟨⟨p1, p2⟩, ⟨k0, k1, k2⟩, f0, f1, f2⟩

theorem grown_trans {w V V' : World} {g : Nat} (h : w.grownBy V (some g)) (b : V.grownBy V' (some g)) : w.grownBy V' (some g) :=
  ⟨b.os.trans h.os, b.tape.trans h.tape, b.output.trans h.output, Nat.le_trans h.size b.size, fun k hk hne => (b.block k (Nat.lt_of_lt_of_le hk h.size) hne).trans (h.block k hk hne)⟩
theorem grown_refl (w : World) (g : Nat) : w.grownBy w (some g) := ⟨rfl, rfl, rfl, Nat.le_refl _, fun _ _ _ => rfl⟩
theorem below_grown {w w' : World} (b : Below w.heap.size w w') (g : Nat) : w.grownBy w' (some g) := ⟨b.os, b.tape, b.output, b.size, fun k hk _ => b.block k hk⟩
theorem IntsNew.grown {A B g : Nat} {w w' : World} {a : Option Addr} {xs : List Int} (h : IntsNew A B w a xs) (hB : B ≤ w.heap.size) (hg : w.grownBy w' (some g)) (hgA : g < A) : IntsNew A B w' a xs := by
  rcases h with h | ⟨b, off, ha, h1, h2, hc⟩
  · exact Or.inl h
  · exact Or.inr ⟨b, off, ha, h1, h2, fun j hj => (World.cell?_of_block (hg.block b (by omega) (by simp; omega))).trans (hc j hj)⟩
theorem TextsNew.grown {A B g : Nat} {w w' : World} {a : Option Addr} {xs : List ByteArray} (h : TextsNew A B w a xs) (hB : B ≤ w.heap.size) (hg : w.grownBy w' (some g)) (hgA : g < A) : TextsNew A B w' a xs := by
  rcases h with h | ⟨b, off, ha, h1, h2, hc⟩
  · exact Or.inl h
  · exact Or.inr ⟨b, off, ha, h1, h2, fun j hj => (World.cell?_of_block (hg.block b (by omega) (by simp; omega))).trans (hc j hj)⟩
theorem row_len (S : List UInt8) (r : Rs) (x m : Int) : (rowV S r x m).length ≤ 1000 := by
  unfold rowV
  split
  · by_cases h : unrowE S r.p x m = 0
    · have h1 := (unrow_canon h).2.2.2.2
      have h2 := (unrow_fine h).2.2.2.2.1
      omega
    · unfold unrowL; rw [if_neg h]; simp
  · simp
theorem sers_on_len {S : List UInt8} (n : Nat) : ∀ (r : Rs) (l : List (List UInt8)), (sersOn S n r l).2.length ≤ l.length + n := by
  induction n with
  | zero => intro r l; exact Nat.le_refl _
  | succ n ih =>
    intro r l
    by_cases h : r.e = 0
    · rw [sers_go h]; have := ih (serR S r) (l ++ [serL S r]); simp at this; omega
    · rw [sers_stop h]; show l.length ≤ _; omega
theorem sers_len (S : List UInt8) (r : Rs) (m : Int) : (sersL S r m).length ≤ 255 := by
  unfold sersL
  split
  · have h := sers_on_len (S := S) (numV S r 1 m).toNat (numR S r 1 m) []
    have h2 := (byte_lt (S := S) (r := r) (m := m)).2
    unfold sersAll
    simp at h; omega
  · simp
theorem same_ints (a a' : Option Addr) (c c' : Nat) (n : List Int) (hn : n.length ≤ 1000) (v : World) (h : Ints v.heap.size v a' n) (h' : Ints v.heap.size v a n) :
    Calls Try.prog 31 #[.slice a' n.length c', .slice a n.length c] v fun e w' => e = .returned (.bool true) ∧ Below v.heap.size v w' :=
  (same_any a' a c' c n n v (by omega) h h').mono fun _ _ ⟨he, hb⟩ => ⟨by rw [he, decide_eq_true rfl], hb⟩
theorem read_end {w v : World} {g : Nat} {s : ByteArray} {q : Rs} (h : ReadCut w g s q v) (hg : g < w.heap.size) :
    Rd (((v.drew.setCell ⟨w.heap.size + 1 + 1, 0, none⟩ (.string s)).setCell ⟨w.heap.size + 1 + 1, 1, none⟩ (.int .i64 q.p)).setCell ⟨w.heap.size + 1 + 1, 2, none⟩ (.int .i64 q.e)) g s q ∧ w.grownBy (((v.drew.setCell ⟨w.heap.size + 1 + 1, 0, none⟩ (.string s)).setCell ⟨w.heap.size + 1 + 1, 1, none⟩ (.int .i64 q.p)).setCell ⟨w.heap.size + 1 + 1, 2, none⟩ (.int .i64 q.e)) (some g) := by
  have hz := three_below (Below.refl (w.heap.size + 1 + 1) v.drew) (Nat.le_refl _) (.string s) (.int .i64 q.p) (.int .i64 q.e)
  have hd := drew_step v
  obtain ⟨o, e1, e2⟩ := h.rd.step hd
  have hG := grown_then h.grown hd
  refine ⟨⟨o, by rw [hz.block g (by omega)]; exact e1, e2⟩, hz.os.trans hG.os, hz.tape.trans hG.tape, hz.output.trans hG.output, Nat.le_trans hG.size hz.size, fun k hk hne => ?_⟩
  rw [hz.block k (by omega)]; exact hG.block k hk hne
def pieceR (S : List UInt8) (r : Rs) (k x m : Int) : Rs := if k = 0 then numR S r x m else if k = 1 then textR S r m else if k = 2 then serR S r else if k = 3 then rowR S r x m else if k = 4 then sersR S r m else if k = 5 then flagR S r else if k = 6 then endR S r else r
set_option maxRecDepth 100000 in
set_option maxHeartbeats 8000000 in
theorem read_any (s : ByteArray) (hs : s.size ≤ 4611686018427387904) (r : Rs) (hr : Within s.data.toList r) (g : Nat) (k x m : Int) (w : World) (h : Rd w g s r) :
    Calls Try.prog 8 #[.pointer (some ⟨g, 0, none⟩), rdr s r, .agg #[.int .i64 k, .int .i64 x, .int .i64 m]] w (ReadPost w g s (pieceR s.data.toList r k x m)) := by
  have hz : s.data.toList.length = s.size := by rw [Array.length_toList]; rfl
  unfold rdr
  obtain ⟨W, hW⟩ : ∃ W, W = ((w.alloc (.cells #[.string s, .int .i64 r.p, .int .i64 r.e] 27)).alloc (.cells #[.int .i64 k, .int .i64 x, .int .i64 m] 31)).alloc (.cells #[.string ⟨#[]⟩, .int .i64 0, .int .i64 0] 27) := ⟨_, rfl⟩
  have HS : Hid (ReadStart w g s r k x m W) := Lib.hid (by
    obtain ⟨a1, a2, a3, a4⟩ := below_three (w := w) (Below.refl _ (((w.alloc (.cells #[.string s, .int .i64 r.p, .int .i64 r.e] 27)).alloc (.cells #[.int .i64 k, .int .i64 x, .int .i64 m] 31)).alloc (.cells #[.string ⟨#[]⟩, .int .i64 0, .int .i64 0] 27)))
    rw [← hW] at a1 a2 a3 a4
    exact ⟨a2, a3, a4, h.step a1, a1, h.lt⟩)
  obtain ⟨q0, hq0⟩ : ∃ q0, q0 = pieceR s.data.toList r k x m := ⟨_, rfl⟩
  rw [← hq0]
  have HQ := Lib.hid hq0
  clear h hq0
  go_enter Try.func8, Try.ntmps8
  go_upto_block 0 with fail
  rw [← hW]
  clear hW
  obtain ⟨⟨p1, p2⟩, ⟨k0, k1, k2⟩, f0, f1, f2⟩ := HS.out.cells
  go_cut [8] (fun s8 wx => s8 = .bool true ∧ Hid (ReadCut w g s q0 wx))
  case first =>
    by_cases c0 : k = 0
    · subst c0
      have Hq : Hid (pieceR s.data.toList r 0 x m = numR s.data.toList r x m) := Lib.hid rfl
      have HN := Lib.hid (rnum6 s hs r (within_fit hr (by omega)) x m)
      have HC := Lib.hid (snum_any s hs r hr g x m)
      obtain ⟨q, hq⟩ : ∃ q, q = numR s.data.toList r x m := ⟨_, rfl⟩
      obtain ⟨n, hn⟩ : ∃ n, n = numV s.data.toList r x m := ⟨_, rfl⟩
      rw [← hq, ← hn] at HN HC
      rw [← hq] at Hq
      clear hq hn
      unfold rdr at HN
      go_wp2_with fail
      refine (HN.out _).mono ?_
      rintro e w1 ⟨rfl, b1⟩
      have HT := Lib.hid (HS.out.step b1)
      obtain ⟨⟨p1, p2⟩, _⟩ := HT.out.cells
      clear b1
      go_wp2_with fail
      obtain ⟨K, hK⟩ : ∃ K, K = w1.heap.size := ⟨_, rfl⟩
      obtain ⟨V, hV⟩ : ∃ V, V = w1.alloc (.cells #[.string s, .int .i64 q.p, .int .i64 q.e] 27) := ⟨_, rfl⟩
      have bV : Below w1.heap.size w1 V := by rw [hV]; exact (Below.refl _ _).alloc (Nat.le_refl _) _
      have GK : V.heap[K]? = some (.cells #[.string s, .int .i64 q.p, .int .i64 q.e] 27 (0, 0)) := by rw [hV, hK]; exact heap_alloc_new _ _
      have HV := Lib.hid (HT.out.step bV)
      have hlt := obj_lt HT.out.at2
      have hgl := HT.out.gl
      rw [← hV, ← hK]
      have hKw : ¬ (w.heap.size = K) := by omega
      have hKw2 : ¬ (K = w.heap.size) := by omega
      have HKg : Hid (K ≠ g) := Lib.hid (by omega)
      clear hV hK bV p1 p2 hlt HT
      obtain ⟨u0, u1, u2, _, _, _⟩ := three_cells GK
      obtain ⟨⟨p1, p2⟩, ⟨k0, k1, k2⟩, f0, f1, f2⟩ := HV.out.cells
      have HGK := Lib.hid GK
      clear GK
      go_region_held3 (fun v => v.cell? ⟨K, 0, none⟩ = some (.string s) ∧ v.cell? ⟨K, 1, none⟩ = some (.int .i64 q.p) ∧ v.cell? ⟨K, 2, none⟩ = some (.int .i64 q.e) ∧ v.cell? ⟨w.heap.size + 1, 1, none⟩ = some (.int .i64 x) ∧ v.cell? ⟨w.heap.size + 1, 2, none⟩ = some (.int .i64 m)) (first | go_keep)
        (first
          | (go_at_call 12; refine (HC.out V.drew HV.out.rd).mono ?_; rintro e v1 ⟨rfl, hR1, hG1⟩; have HR1 := Lib.hid hR1; have HG1 := Lib.hid hG1; obtain ⟨u0, u1, u2, _, _, _⟩ := three_cells (grown_obj hG1 HGK.out HKg.out); obtain ⟨⟨p1, p2⟩, ⟨k0, k1, k2⟩, f0, f1, f2⟩ := (HV.out.step (drew_step V)).cells' hG1; clear hR1 hG1))
      have HA := Lib.hid ((HV.out.step (drew_step V)).cut HG1.out HR1.out)
      go_wp2_with fail
      go_meet
      exact ⟨rfl, by rw [HQ.out, Hq.out]; exact HA⟩
    by_cases c1 : k = 1
    · subst c1
      have Hq : Hid (pieceR s.data.toList r 1 x m = textR s.data.toList r m) := Lib.hid rfl
      have HN := Lib.hid (rtext6 s hs r (within_fit hr (by omega)) m)
      have HC := Lib.hid (stext_any s hs r hr g m)
      obtain ⟨q, hq⟩ : ∃ q, q = textR s.data.toList r m := ⟨_, rfl⟩
      obtain ⟨n, hn⟩ : ∃ n, n = bt (textL s.data.toList r m) := ⟨_, rfl⟩
      rw [← hq, ← hn] at HN HC
      rw [← hq] at Hq
      clear hq hn
      unfold rdr at HN
      go_wp2_with fail
      refine (HN.out _).mono ?_
      rintro e w1 ⟨rfl, b1⟩
      have HT := Lib.hid (HS.out.step b1)
      obtain ⟨⟨p1, p2⟩, _⟩ := HT.out.cells
      clear b1
      go_wp2_with fail
      obtain ⟨K, hK⟩ : ∃ K, K = w1.heap.size := ⟨_, rfl⟩
      obtain ⟨V, hV⟩ : ∃ V, V = w1.alloc (.cells #[.string s, .int .i64 q.p, .int .i64 q.e] 27) := ⟨_, rfl⟩
      have bV : Below w1.heap.size w1 V := by rw [hV]; exact (Below.refl _ _).alloc (Nat.le_refl _) _
      have GK : V.heap[K]? = some (.cells #[.string s, .int .i64 q.p, .int .i64 q.e] 27 (0, 0)) := by rw [hV, hK]; exact heap_alloc_new _ _
      have HV := Lib.hid (HT.out.step bV)
      have hlt := obj_lt HT.out.at2
      have hgl := HT.out.gl
      rw [← hV, ← hK]
      have hKw : ¬ (w.heap.size = K) := by omega
      have hKw2 : ¬ (K = w.heap.size) := by omega
      have HKg : Hid (K ≠ g) := Lib.hid (by omega)
      clear hV hK bV p1 p2 hlt HT
      obtain ⟨u0, u1, u2, _, _, _⟩ := three_cells GK
      obtain ⟨⟨p1, p2⟩, ⟨k0, k1, k2⟩, f0, f1, f2⟩ := HV.out.cells
      have HGK := Lib.hid GK
      clear GK
      go_region_held3 (fun v => v.cell? ⟨K, 0, none⟩ = some (.string s) ∧ v.cell? ⟨K, 1, none⟩ = some (.int .i64 q.p) ∧ v.cell? ⟨K, 2, none⟩ = some (.int .i64 q.e) ∧ v.cell? ⟨w.heap.size + 1, 2, none⟩ = some (.int .i64 m)) (first | go_keep)
        (first
          | (go_at_call 13; refine (HC.out V.drew HV.out.rd).mono ?_; rintro e v1 ⟨rfl, hR1, hG1⟩; have HR1 := Lib.hid hR1; have HG1 := Lib.hid hG1; obtain ⟨u0, u1, u2, _, _, _⟩ := three_cells (grown_obj hG1 HGK.out HKg.out); obtain ⟨⟨p1, p2⟩, ⟨k0, k1, k2⟩, f0, f1, f2⟩ := (HV.out.step (drew_step V)).cells' hG1; clear hR1 hG1))
      have HA := Lib.hid ((HV.out.step (drew_step V)).cut HG1.out HR1.out)
      go_wp2_with fail
      go_meet
      exact ⟨rfl, by rw [HQ.out, Hq.out]; exact HA⟩
    by_cases c2 : k = 2
    · subst c2
      have Hq : Hid (pieceR s.data.toList r 2 x m = serR s.data.toList r) := Lib.hid rfl
      have HN := Lib.hid (rser6 s hs r (within_fit hr (by omega)))
      have HC := Lib.hid (sser_any s hs r hr g)
      obtain ⟨q, hq⟩ : ∃ q, q = serR s.data.toList r := ⟨_, rfl⟩
      obtain ⟨n, hn⟩ : ∃ n, n = bt (serL s.data.toList r) := ⟨_, rfl⟩
      rw [← hq, ← hn] at HN HC
      rw [← hq] at Hq
      clear hq hn
      unfold rdr at HN
      go_wp2_with fail
      refine (HN.out _).mono ?_
      rintro e w1 ⟨rfl, b1⟩
      have HT := Lib.hid (HS.out.step b1)
      obtain ⟨⟨p1, p2⟩, _⟩ := HT.out.cells
      clear b1
      go_wp2_with fail
      obtain ⟨K, hK⟩ : ∃ K, K = w1.heap.size := ⟨_, rfl⟩
      obtain ⟨V, hV⟩ : ∃ V, V = w1.alloc (.cells #[.string s, .int .i64 q.p, .int .i64 q.e] 27) := ⟨_, rfl⟩
      have bV : Below w1.heap.size w1 V := by rw [hV]; exact (Below.refl _ _).alloc (Nat.le_refl _) _
      have GK : V.heap[K]? = some (.cells #[.string s, .int .i64 q.p, .int .i64 q.e] 27 (0, 0)) := by rw [hV, hK]; exact heap_alloc_new _ _
      have HV := Lib.hid (HT.out.step bV)
      have hlt := obj_lt HT.out.at2
      have hgl := HT.out.gl
      rw [← hV, ← hK]
      have hKw : ¬ (w.heap.size = K) := by omega
      have hKw2 : ¬ (K = w.heap.size) := by omega
      have HKg : Hid (K ≠ g) := Lib.hid (by omega)
      clear hV hK bV p1 p2 hlt HT
      obtain ⟨u0, u1, u2, _, _, _⟩ := three_cells GK
      obtain ⟨⟨p1, p2⟩, ⟨k0, k1, k2⟩, f0, f1, f2⟩ := HV.out.cells
      have HGK := Lib.hid GK
      clear GK
      go_region_held3 (fun v => v.cell? ⟨K, 0, none⟩ = some (.string s) ∧ v.cell? ⟨K, 1, none⟩ = some (.int .i64 q.p) ∧ v.cell? ⟨K, 2, none⟩ = some (.int .i64 q.e)) (first | go_keep)
        (first
          | (go_at_call 14; refine (HC.out V.drew HV.out.rd).mono ?_; rintro e v1 ⟨rfl, hR1, hG1⟩; have HR1 := Lib.hid hR1; have HG1 := Lib.hid hG1; obtain ⟨u0, u1, u2, _, _, _⟩ := three_cells (grown_obj hG1 HGK.out HKg.out); obtain ⟨⟨p1, p2⟩, ⟨k0, k1, k2⟩, f0, f1, f2⟩ := (HV.out.step (drew_step V)).cells' hG1; clear hR1 hG1))
      have HA := Lib.hid ((HV.out.step (drew_step V)).cut HG1.out HR1.out)
      go_wp2_with fail
      go_meet
      exact ⟨rfl, by rw [HQ.out, Hq.out]; exact HA⟩
    by_cases c3 : k = 3
    · subst c3
      have Hq : Hid (pieceR s.data.toList r 3 x m = rowR s.data.toList r x m) := Lib.hid rfl
      have HN := Lib.hid (rrow6 s hs r (within_fit hr (by omega)) x m)
      have HC := Lib.hid (srow_any s hs r hr g x m)
      obtain ⟨q, hq⟩ : ∃ q, q = rowR s.data.toList r x m := ⟨_, rfl⟩
      obtain ⟨n, hn⟩ : ∃ n, n = rowV s.data.toList r x m := ⟨_, rfl⟩
      have HL : Hid (n.length ≤ 1000) := Lib.hid (by rw [hn]; exact row_len s.data.toList r x m)
      rw [← hq, ← hn] at HN HC
      rw [← hq] at Hq
      clear hq hn
      unfold rdr at HN
      go_wp2_with fail
      refine (HN.out _).mono ?_
      rintro e w1 ⟨a, c, rfl, hi, b1⟩
      have HT := Lib.hid (HS.out.step b1)
      obtain ⟨⟨p1, p2⟩, _⟩ := HT.out.cells
      clear b1
      go_wp2_with fail
      obtain ⟨K, hK⟩ : ∃ K, K = w1.heap.size := ⟨_, rfl⟩
      obtain ⟨V, hV⟩ : ∃ V, V = w1.alloc (.cells #[.string s, .int .i64 q.p, .int .i64 q.e] 27) := ⟨_, rfl⟩
      have bV : Below w1.heap.size w1 V := by rw [hV]; exact (Below.refl _ _).alloc (Nat.le_refl _) _
      have GK : V.heap[K]? = some (.cells #[.string s, .int .i64 q.p, .int .i64 q.e] 27 (0, 0)) := by rw [hV, hK]; exact heap_alloc_new _ _
      have HV := Lib.hid (HT.out.step bV)
      have hlt := obj_lt HT.out.at2
      have hgl := HT.out.gl
      have HIV : Hid (IntsNew W.heap.size V.drew.heap.size V.drew a n) := Lib.hid ((hi.step bV).step (drew_step V))
      have HgW : Hid (g < W.heap.size) := Lib.hid HS.out.rd.lt
      rw [← hV, ← hK]
      have hKw : ¬ (w.heap.size = K) := by omega
      have hKw2 : ¬ (K = w.heap.size) := by omega
      have HKg : Hid (K ≠ g) := Lib.hid (by omega)
      clear hV hK bV p1 p2 hlt HT hi
      obtain ⟨u0, u1, u2, _, _, _⟩ := three_cells GK
      obtain ⟨⟨p1, p2⟩, ⟨k0, k1, k2⟩, f0, f1, f2⟩ := HV.out.cells
      have HGK := Lib.hid GK
      clear GK
      go_region_held3 (fun v => v.cell? ⟨K, 0, none⟩ = some (.string s) ∧ v.cell? ⟨K, 1, none⟩ = some (.int .i64 q.p) ∧ v.cell? ⟨K, 2, none⟩ = some (.int .i64 q.e) ∧ v.cell? ⟨w.heap.size + 1, 1, none⟩ = some (.int .i64 x) ∧ v.cell? ⟨w.heap.size + 1, 2, none⟩ = some (.int .i64 m)) (first | go_keep)
        (first
          | (go_at_call 15; refine (HC.out V.drew HV.out.rd).mono ?_; rintro e v1 ⟨a', c', rfl, hi', hR1, hG1⟩; have HR1 := Lib.hid hR1; have HG1 := Lib.hid hG1; have HI1 := Lib.hid ((HIV.out.grown (Nat.le_refl _) hG1 HgW.out).wide (Nat.le_refl _) hG1.size); have HI2 := Lib.hid hi'; clear hi'; obtain ⟨u0, u1, u2, _, _, _⟩ := three_cells (grown_obj hG1 HGK.out HKg.out); obtain ⟨⟨p1, p2⟩, ⟨k0, k1, k2⟩, f0, f1, f2⟩ := (HV.out.step (drew_step V)).cells' hG1; clear hR1 hG1)
          | (go_at_call 31; refine (same_ints a a' c c' n HL.out v1 HI2.out.ints HI1.out.ints).mono ?_; rintro e v2 ⟨rfl, b2⟩; have HR2 := Lib.hid (HR1.out.step b2); have HG2 := Lib.hid (grown_then HG1.out b2); obtain ⟨u0, u1, u2, _, _, _⟩ := three_cells (grown_obj HG2.out HGK.out HKg.out); obtain ⟨⟨p1, p2⟩, ⟨k0, k1, k2⟩, f0, f1, f2⟩ := (HV.out.step (drew_step V)).cells' HG2.out; clear b2))
      have HA := Lib.hid ((HV.out.step (drew_step V)).cut HG2.out HR2.out)
      go_wp2_with fail
      go_meet
      exact ⟨rfl, by rw [HQ.out, Hq.out]; exact HA⟩
    by_cases c4 : k = 4
    · subst c4
      have Hq : Hid (pieceR s.data.toList r 4 x m = sersR s.data.toList r m) := Lib.hid rfl
      have HN := Lib.hid (rsers6 s hs r hr m)
      have HC := Lib.hid (ssers_any s hs r hr g m)
      obtain ⟨q, hq⟩ : ∃ q, q = sersR s.data.toList r m := ⟨_, rfl⟩
      obtain ⟨n, hn⟩ : ∃ n, n = sersL s.data.toList r m := ⟨_, rfl⟩
      have HL : Hid (n.length ≤ 255) := Lib.hid (by rw [hn]; exact sers_len s.data.toList r m)
      rw [← hq, ← hn] at HN HC
      rw [← hq] at Hq
      clear hq hn
      unfold rdr at HN
      go_wp2_with fail
      refine (HN.out _).mono ?_
      rintro e w1 ⟨a, c, rfl, hi, b1⟩
      have HT := Lib.hid (HS.out.step b1)
      obtain ⟨⟨p1, p2⟩, _⟩ := HT.out.cells
      clear b1
      go_wp2_with fail
      obtain ⟨K, hK⟩ : ∃ K, K = w1.heap.size := ⟨_, rfl⟩
      obtain ⟨V, hV⟩ : ∃ V, V = w1.alloc (.cells #[.string s, .int .i64 q.p, .int .i64 q.e] 27) := ⟨_, rfl⟩
      have bV : Below w1.heap.size w1 V := by rw [hV]; exact (Below.refl _ _).alloc (Nat.le_refl _) _
      have GK : V.heap[K]? = some (.cells #[.string s, .int .i64 q.p, .int .i64 q.e] 27 (0, 0)) := by rw [hV, hK]; exact heap_alloc_new _ _
      have HV := Lib.hid (HT.out.step bV)
      have hlt := obj_lt HT.out.at2
      have hgl := HT.out.gl
      have HIV : Hid (TextsNew W.heap.size V.drew.heap.size V.drew a (n.map bt)) := Lib.hid ((hi.step bV).step (drew_step V))
      have HgW : Hid (g < W.heap.size) := Lib.hid HS.out.rd.lt
      rw [← hV, ← hK]
      have hKw : ¬ (w.heap.size = K) := by omega
      have hKw2 : ¬ (K = w.heap.size) := by omega
      have HKg : Hid (K ≠ g) := Lib.hid (by omega)
      clear hV hK bV p1 p2 hlt HT hi
      obtain ⟨u0, u1, u2, _, _, _⟩ := three_cells GK
      obtain ⟨⟨p1, p2⟩, ⟨k0, k1, k2⟩, f0, f1, f2⟩ := HV.out.cells
      have HGK := Lib.hid GK
      clear GK
      go_region_held3 (fun v => v.cell? ⟨K, 0, none⟩ = some (.string s) ∧ v.cell? ⟨K, 1, none⟩ = some (.int .i64 q.p) ∧ v.cell? ⟨K, 2, none⟩ = some (.int .i64 q.e) ∧ v.cell? ⟨w.heap.size + 1, 2, none⟩ = some (.int .i64 m)) (first | go_keep)
        (first
          | (go_at_call 16; refine (HC.out V.drew HV.out.rd).mono ?_; rintro e v1 ⟨a', c', rfl, hi', hR1, hG1⟩; have HR1 := Lib.hid hR1; have HG1 := Lib.hid hG1; have HI1 := Lib.hid ((HIV.out.grown (Nat.le_refl _) hG1 HgW.out).wide (Nat.le_refl _) hG1.size); have HI2 := Lib.hid hi'; clear hi'; obtain ⟨u0, u1, u2, _, _, _⟩ := three_cells (grown_obj hG1 HGK.out HKg.out); obtain ⟨⟨p1, p2⟩, ⟨k0, k1, k2⟩, f0, f1, f2⟩ := (HV.out.step (drew_step V)).cells' hG1; clear hR1 hG1)
          | (go_at_call 33; refine (same_texts a a' c c' n HL.out v1 HI2.out.texts HI1.out.texts).mono ?_; rintro e v2 ⟨rfl, b2⟩; have HR2 := Lib.hid (HR1.out.step b2); have HG2 := Lib.hid (grown_then HG1.out b2); obtain ⟨u0, u1, u2, _, _, _⟩ := three_cells (grown_obj HG2.out HGK.out HKg.out); obtain ⟨⟨p1, p2⟩, ⟨k0, k1, k2⟩, f0, f1, f2⟩ := (HV.out.step (drew_step V)).cells' HG2.out; clear b2))
      have HA := Lib.hid ((HV.out.step (drew_step V)).cut HG2.out HR2.out)
      go_wp2_with fail
      go_meet
      exact ⟨rfl, by rw [HQ.out, Hq.out]; exact HA⟩
    by_cases c5 : k = 5
    · subst c5
      have Hq : Hid (pieceR s.data.toList r 5 x m = flagR s.data.toList r) := Lib.hid rfl
      have HN := Lib.hid (rflag6 s hs r (within_fit hr (by omega)))
      have HC := Lib.hid (sflag_any s hs r hr g)
      obtain ⟨q, hq⟩ : ∃ q, q = flagR s.data.toList r := ⟨_, rfl⟩
      obtain ⟨n, hn⟩ : ∃ n, n = flagB s.data.toList r := ⟨_, rfl⟩
      rw [← hq, ← hn] at HN HC
      rw [← hq] at Hq
      clear hq hn
      unfold rdr at HN
      go_wp2_with fail
      refine (HN.out _).mono ?_
      rintro e w1 ⟨rfl, b1⟩
      have HT := Lib.hid (HS.out.step b1)
      obtain ⟨⟨p1, p2⟩, _⟩ := HT.out.cells
      clear b1
      go_wp2_with fail
      obtain ⟨K, hK⟩ : ∃ K, K = w1.heap.size := ⟨_, rfl⟩
      obtain ⟨V, hV⟩ : ∃ V, V = w1.alloc (.cells #[.string s, .int .i64 q.p, .int .i64 q.e] 27) := ⟨_, rfl⟩
      have bV : Below w1.heap.size w1 V := by rw [hV]; exact (Below.refl _ _).alloc (Nat.le_refl _) _
      have GK : V.heap[K]? = some (.cells #[.string s, .int .i64 q.p, .int .i64 q.e] 27 (0, 0)) := by rw [hV, hK]; exact heap_alloc_new _ _
      have HV := Lib.hid (HT.out.step bV)
      have hlt := obj_lt HT.out.at2
      have hgl := HT.out.gl
      rw [← hV, ← hK]
      have hKw : ¬ (w.heap.size = K) := by omega
      have hKw2 : ¬ (K = w.heap.size) := by omega
      have HKg : Hid (K ≠ g) := Lib.hid (by omega)
      clear hV hK bV p1 p2 hlt HT
      obtain ⟨u0, u1, u2, _, _, _⟩ := three_cells GK
      obtain ⟨⟨p1, p2⟩, ⟨k0, k1, k2⟩, f0, f1, f2⟩ := HV.out.cells
      have HGK := Lib.hid GK
      clear GK
      go_region_held3 (fun v => v.cell? ⟨K, 0, none⟩ = some (.string s) ∧ v.cell? ⟨K, 1, none⟩ = some (.int .i64 q.p) ∧ v.cell? ⟨K, 2, none⟩ = some (.int .i64 q.e)) (first | go_keep)
        (first
          | (go_at_call 17; refine (HC.out V.drew HV.out.rd).mono ?_; rintro e v1 ⟨rfl, hR1, hG1⟩; have HR1 := Lib.hid hR1; have HG1 := Lib.hid hG1; obtain ⟨u0, u1, u2, _, _, _⟩ := three_cells (grown_obj hG1 HGK.out HKg.out); obtain ⟨⟨p1, p2⟩, ⟨k0, k1, k2⟩, f0, f1, f2⟩ := (HV.out.step (drew_step V)).cells' hG1; clear hR1 hG1))
      have HA := Lib.hid ((HV.out.step (drew_step V)).cut HG1.out HR1.out)
      go_wp2_with fail
      go_meet
      exact ⟨rfl, by rw [HQ.out, Hq.out]; exact HA⟩
    by_cases c6 : k = 6
    · subst c6
      have Hq : Hid (pieceR s.data.toList r 6 x m = endR s.data.toList r) := Lib.hid rfl
      have HN := Lib.hid (rend6 s r)
      have HC := Lib.hid (send_any s hs r g)
      obtain ⟨q, hq⟩ : ∃ q, q = endR s.data.toList r := ⟨_, rfl⟩
      rw [← hq] at HN HC
      rw [← hq] at Hq
      clear hq
      unfold rdr at HN
      go_wp2_with fail
      refine (HN.out _).mono ?_
      rintro e w1 ⟨rfl, b1⟩
      have HT := Lib.hid (HS.out.step b1)
      obtain ⟨⟨p1, p2⟩, ⟨k0, k1, k2⟩, f0, f1, f2⟩ := HT.out.cells
      have HA := Lib.hid (read_after (x := .string s) (y := .int .i64 q.p) (z := .int .i64 q.e) rfl HT.out.gl HT.out.below (grown_refl w1 g) HT.out.rd HT.out.at0 HT.out.at2)
      clear b1
      go_wp2_with fail
      obtain ⟨V, hV⟩ : ∃ V, V = ((w1.setCell ⟨w.heap.size, 0, none⟩ (.string s)).setCell ⟨w.heap.size, 1, none⟩ (.int .i64 q.p)).setCell ⟨w.heap.size, 2, none⟩ (.int .i64 q.e) := ⟨_, rfl⟩
      rw [← hV] at HA
      rw [← hV]
      clear hV k0 k1 k2 f0 f1 f2 p1 p2
      refine (HC.out V HA.out.2.2.1).mono ?_
      rintro e v1 ⟨rfl, hR1, hG1⟩
      have HF : Hid (ReadCut w g s q v1) := Lib.hid ⟨grown_obj hG1 HA.out.1 (by have := HT.out.gl; omega), grown_obj hG1 HA.out.2.1 (by have := HT.out.gl; omega), hR1, grown_trans HA.out.2.2.2 hG1⟩
      rw [← Hq.out] at HF
      clear hR1 hG1 HA
      go_wp2_with fail
      go_meet
      exact ⟨rfl, by rw [HQ.out]; exact HF⟩
    have d0 : (k == 0) = false := by simpa using c0
    have d1 : (k == 1) = false := by simpa using c1
    have d2 : (k == 2) = false := by simpa using c2
    have d3 : (k == 3) = false := by simpa using c3
    have d4 : (k == 4) = false := by simpa using c4
    have d5 : (k == 5) = false := by simpa using c5
    have d6 : (k == 6) = false := by simpa using c6
    have HF : Hid (ReadCut w g s (pieceR s.data.toList r k x m) W) := Lib.hid (by
      have e : pieceR s.data.toList r k x m = r := by unfold pieceR; rw [if_neg c0, if_neg c1, if_neg c2, if_neg c3, if_neg c4, if_neg c5, if_neg c6]
      rw [e]
      exact ⟨HS.out.at0, HS.out.at2, HS.out.rd, below_grown HS.out.below g⟩)
    clear c0 c1 c2 c3 c4 c5 c6
    go_wp2_with fail
    go_meet
    exact ⟨rfl, by rw [HQ.out]; exact HF⟩
  case rest =>
    obtain ⟨rfl, hcut⟩ := hcut
    obtain ⟨q, rfl⟩ : ∃ q, q = q0 := ⟨_, rfl⟩
    clear k0 k1 k2 f0 f1 f2 p1 p2
    have HC := Lib.hid hcut.out
    clear hcut
    obtain ⟨k0, k1, k2, _, _, _⟩ := three_cells HC.out.at0
    by_cases hq0 : q.e = 0
    · have hE : errV q = .nilIface := by unfold errV; rw [if_pos hq0]
      have HE := Lib.hid (serr_any s q g)
      rw [hE] at HE
      have d1 : ((0 : Int) == q.e) = true := by rw [hq0]; rfl
      clear hq0 hE
      go_wp2_with fail
      refine (HE.out _ HC.out.rd).mono ?_
      rintro e v2 ⟨rfl, b2⟩
      have HC2 : Hid (ReadCut w g s q v2) := Lib.hid ⟨old_obj b2 HC.out.at0, old_obj b2 HC.out.at2, HC.out.rd.step b2, grown_then HC.out.grown b2⟩
      clear b2 HC k0 k1 k2
      go_wp2_with fail
      refine (swhy_nil _).mono ?_
      rintro e v3 ⟨rfl, b3⟩
      have HC3 : Hid (ReadCut w g s q v3) := Lib.hid ⟨old_obj b3 HC2.out.at0, old_obj b3 HC2.out.at2, HC2.out.rd.step b3, grown_then HC2.out.grown b3⟩
      have HR4 : Hid (Rd v3.drew g s q) := Lib.hid (HC3.out.rd.step (drew_step v3))
      obtain ⟨k0, k1, k2, _, _, _⟩ := three_cells HC3.out.at0
      obtain ⟨z0, z1, z2, f0, f1, f2⟩ := three_cells (g := w.heap.size + 1 + 1) HC3.out.at2
      have HX := Lib.hid (read_end HC3.out HS.out.gl)
      clear b3 HC2
      go_wp2_with fail
      refine wp_region_held_drew (S := (fun v => v.cell? ⟨w.heap.size, 0, none⟩ = some (.string s) ∧ v.cell? ⟨w.heap.size, 1, none⟩ = some (.int .i64 q.p) ∧ v.cell? ⟨w.heap.size, 2, none⟩ = some (.int .i64 q.e))) (by kernel_rfl) ⟨k0, k1, k2⟩ (fun hHeld => ?_)
      refine take_on 133 (i := 0) (v := .agg #[.string s, .int .i64 q.p, .int .i64 q.e]) rfl rfl (by kernel_rfl) (by kernel_rfl) (by kernel_rfl) (fun _ _ _ h => h) (by rfl) ?_ hHeld ?_
      · intro w hSw; (try dsimp only at hSw); go_simp
      try simp only [Act.put, List.setIfInBounds_toArray, List.set_cons_zero, List.set_cons_succ]
      refine take_on 134 (i := 1) (v := .bool true) rfl rfl (by kernel_rfl) (by kernel_rfl) (by kernel_rfl) (fun _ _ _ h => h) (by rfl) ?_ hHeld ?_
      · intro w hSw; (try dsimp only at hSw); go_simp
      try simp only [Act.put, List.setIfInBounds_toArray, List.set_cons_zero, List.set_cons_succ]
      refine take_on 135 (i := 2) (v := .bool true) rfl rfl (by kernel_rfl) (by kernel_rfl) (by kernel_rfl) (fun _ _ _ h => h) (by rfl) ?_ hHeld ?_
      · intro w hSw; (try dsimp only at hSw); go_simp
      try simp only [Act.put, List.setIfInBounds_toArray, List.set_cons_zero, List.set_cons_succ]
      refine take_on 136 (i := 3) (v := .int .i64 0) rfl rfl (by kernel_rfl) (by kernel_rfl) (by kernel_rfl) (fun _ _ _ h => h) (by rfl) ?_ hHeld ?_
      · intro w hSw; (try dsimp only at hSw); go_simp
      try simp only [Act.put, List.setIfInBounds_toArray, List.set_cons_zero, List.set_cons_succ]
      refine take_on 137 (i := 4) (v := .pointer (some ⟨w.heap.size, 2, none⟩)) rfl rfl (by kernel_rfl) (by kernel_rfl) (by kernel_rfl) (fun _ _ _ h => h) (by rfl) ?_ hHeld ?_
      · intro w hSw; (try dsimp only at hSw); go_simp
      try simp only [Act.put, List.setIfInBounds_toArray, List.set_cons_zero, List.set_cons_succ]
      refine take_on 138 (i := 5) (v := .int .i64 q.e) rfl rfl (by kernel_rfl) (by kernel_rfl) (by kernel_rfl) (fun _ _ _ h => h) (by rfl) ?_ hHeld ?_
      · intro w hSw; (try dsimp only at hSw); go_simp
      try simp only [Act.put, List.setIfInBounds_toArray, List.set_cons_zero, List.set_cons_succ]
      refine take_on 139 (i := 6) (v := .bool true) rfl rfl (by kernel_rfl) (by kernel_rfl) (by kernel_rfl) (fun _ _ _ h => h) (by rfl) ?_ hHeld ?_
      · intro w hSw; (try dsimp only at hSw); go_simp
      try simp only [Act.put, List.setIfInBounds_toArray, List.set_cons_zero, List.set_cons_succ]
      refine take_on 140 (i := 7) (v := .bool true) rfl rfl (by kernel_rfl) (by kernel_rfl) (by kernel_rfl) (fun _ _ _ h => h) (by rfl) ?_ hHeld ?_
      · intro w hSw; (try dsimp only at hSw); go_simp
      try simp only [Act.put, List.setIfInBounds_toArray, List.set_cons_zero, List.set_cons_succ]
      refine take_on 141 (i := 8) (v := .bool true) rfl rfl (by kernel_rfl) (by kernel_rfl) (by kernel_rfl) (fun _ _ _ h => h) (by rfl) ?_ hHeld ?_
      · intro w hSw; (try dsimp only at hSw); go_simp
      try simp only [Act.put, List.setIfInBounds_toArray, List.set_cons_zero, List.set_cons_succ]
      refine take_on 142 (i := 9) (v := .pointer (some ⟨g, 0, none⟩)) rfl rfl (by kernel_rfl) (by kernel_rfl) (by kernel_rfl) (fun _ _ _ h => h) (by rfl) ?_ hHeld ?_
      · intro w hSw; (try dsimp only at hSw); go_simp
      try simp only [Act.put, List.setIfInBounds_toArray, List.set_cons_zero, List.set_cons_succ]
      refine take_on 144 (i := 11) (v := .pointer (some ⟨w.heap.size, 1, none⟩)) rfl rfl (by kernel_rfl) (by kernel_rfl) (by kernel_rfl) (fun _ _ _ h => h) (by rfl) ?_ hHeld ?_
      · intro w hSw; (try dsimp only at hSw); go_simp
      try simp only [Act.put, List.setIfInBounds_toArray, List.set_cons_zero, List.set_cons_succ]
      refine take_on 145 (i := 12) (v := .int .i64 q.p) rfl rfl (by kernel_rfl) (by kernel_rfl) (by kernel_rfl) (fun _ _ _ h => h) (by rfl) ?_ hHeld ?_
      · intro w hSw; (try dsimp only at hSw); go_simp
      try simp only [Act.put, List.setIfInBounds_toArray, List.set_cons_zero, List.set_cons_succ]
      refine wpAnyH_ready (rs := [10]) (by kernel_rfl) (by simp) ?_
      refine AllReadyH.cons rfl (fun K hK => ?_) AllReadyH.nil
      go_simp
      refine (sat_any s q g v3.drew HR4.out).mono ?_
      rintro e v4 ⟨rfl, rfl⟩
      refine hK.out _ _ hHeld (fun hHeld => ?_)
      clear hK K
      try simp only [Act.put, List.setIfInBounds_toArray, List.set_cons_zero, List.set_cons_succ]
      refine take_on 146 (i := 13) (v := .bool true) rfl rfl (by kernel_rfl) (by kernel_rfl) (by kernel_rfl) (fun _ _ _ h => h) (by rfl) ?_ hHeld ?_
      · intro w hSw; (try dsimp only at hSw); go_simp
      try simp only [Act.put, List.setIfInBounds_toArray, List.set_cons_zero, List.set_cons_succ]
      refine take_on 147 (i := 14) (v := .bool true) rfl rfl (by kernel_rfl) (by kernel_rfl) (by kernel_rfl) (fun _ _ _ h => h) (by rfl) ?_ hHeld ?_
      · intro w hSw; (try dsimp only at hSw); go_simp
      try simp only [Act.put, List.setIfInBounds_toArray, List.set_cons_zero, List.set_cons_succ]
      refine take_on 148 (i := 15) (v := .bool true) rfl rfl (by kernel_rfl) (by kernel_rfl) (by kernel_rfl) (fun _ _ _ h => h) (by rfl) ?_ hHeld ?_
      · intro w hSw; (try dsimp only at hSw); go_simp
      try simp only [Act.put, List.setIfInBounds_toArray, List.set_cons_zero, List.set_cons_succ]
      refine take_on 149 (i := 16) (v := .int .i64 0) rfl rfl (by kernel_rfl) (by kernel_rfl) (by kernel_rfl) (fun _ _ _ h => h) (by rfl) ?_ hHeld ?_
      · intro w hSw; (try dsimp only at hSw); go_simp
      try simp only [Act.put, List.setIfInBounds_toArray, List.set_cons_zero, List.set_cons_succ]
      refine take_on 150 (i := 17) (v := .bool true) rfl rfl (by kernel_rfl) (by kernel_rfl) (by kernel_rfl) (fun _ _ _ h => h) (by rfl) ?_ hHeld ?_
      · intro w hSw; (try dsimp only at hSw); go_simp
      try simp only [Act.put, List.setIfInBounds_toArray, List.set_cons_zero, List.set_cons_succ]
      refine take_on 151 (i := 18) (v := .bool true) rfl rfl (by kernel_rfl) (by kernel_rfl) (by kernel_rfl) (fun _ _ _ h => h) (by rfl) ?_ hHeld ?_
      · intro w hSw; (try dsimp only at hSw); go_simp
      try simp only [Act.put, List.setIfInBounds_toArray, List.set_cons_zero, List.set_cons_succ]
      refine take_off 152 (i := 19) rfl rfl (by kernel_rfl) (by kernel_rfl) (by kernel_rfl) (fun _ _ _ h => h) (by rfl) hHeld ?_
      try simp only [Act.put, List.setIfInBounds_toArray, List.set_cons_zero, List.set_cons_succ]
      refine take_off 153 (i := 20) rfl rfl (by kernel_rfl) (by kernel_rfl) (by kernel_rfl) (fun _ _ _ h => h) (by rfl) hHeld ?_
      try simp only [Act.put, List.setIfInBounds_toArray, List.set_cons_zero, List.set_cons_succ]
      refine take_off 154 (i := 21) rfl rfl (by kernel_rfl) (by kernel_rfl) (by kernel_rfl) (fun _ _ _ h => h) (by rfl) hHeld ?_
      try simp only [Act.put, List.setIfInBounds_toArray, List.set_cons_zero, List.set_cons_succ]
      refine take_off 155 (i := 22) rfl rfl (by kernel_rfl) (by kernel_rfl) (by kernel_rfl) (fun _ _ _ h => h) (by rfl) hHeld ?_
      try simp only [Act.put, List.setIfInBounds_toArray, List.set_cons_zero, List.set_cons_succ]
      refine take_on 156 (i := 23) (v := .bool true) rfl rfl (by kernel_rfl) (by kernel_rfl) (by kernel_rfl) (fun _ _ _ h => h) (by rfl) ?_ hHeld ?_
      · intro w hSw; (try dsimp only at hSw); go_simp
      try simp only [Act.put, List.setIfInBounds_toArray, List.set_cons_zero, List.set_cons_succ]
      refine take_on 157 (i := 24) (v := .bool true) rfl rfl (by kernel_rfl) (by kernel_rfl) (by kernel_rfl) (fun _ _ _ h => h) (by rfl) ?_ hHeld ?_
      · intro w hSw; (try dsimp only at hSw); go_simp
      try simp only [Act.put, List.setIfInBounds_toArray, List.set_cons_zero, List.set_cons_succ]
      refine wpAnyH_ready (rs := [25]) (by kernel_rfl) (by simp) ?_
      refine AllReadyH.cons rfl (fun K hK => ?_) AllReadyH.nil
      go_simp
      refine hK.out _ _ ?_ (fun hHeld => ?_)
      · have hz := (three_below (Below.refl (w.heap.size + 1 + 1) v3) (Nat.le_refl _) (.string s) (.int .i64 q.p) (.int .i64 q.e)).drew
        exact ⟨(hz.cell (p := ⟨w.heap.size, 0, none⟩) (show w.heap.size < w.heap.size + 1 + 1 by omega)).trans k0, (hz.cell (p := ⟨w.heap.size, 1, none⟩) (show w.heap.size < w.heap.size + 1 + 1 by omega)).trans k1, (hz.cell (p := ⟨w.heap.size, 2, none⟩) (show w.heap.size < w.heap.size + 1 + 1 by omega)).trans k2⟩
      clear hK K
      try simp only [Act.put, List.setIfInBounds_toArray, List.set_cons_zero, List.set_cons_succ]
      refine take_on 7 (i := 26) (v := .bool true) rfl rfl (by kernel_rfl) (by kernel_rfl) (by kernel_rfl) (fun _ _ _ h => h) (by rfl) ?_ hHeld ?_
      · intro w hSw; (try dsimp only at hSw); go_simp
      try simp only [Act.put, List.setIfInBounds_toArray, List.set_cons_zero, List.set_cons_succ]
      refine wpAnyH_done (by kernel_rfl) ?_ _
      go_wp2
      refine bodyPost_ret (results_row_slot rfl _ _ (w.heap.size + 1 + 1) _ rfl (rdr_load (three_stored (show v3.drew.heap[w.heap.size + 1 + 1]? = _ from HC3.out.at2) _ _ _))) rfl ?_
      exact ⟨rfl, HX.out.1, HX.out.2⟩
    · have hE : errV q = .iface 58 (.agg #[.int .i64 q.e, .int .i64 q.p]) := by unfold errV; rw [if_neg hq0]
      have HE := Lib.hid (serr_any s q g)
      rw [hE] at HE
      have d1 : (q.e == 0) = false := by simpa using hq0
      clear hq0 hE
      go_wp2_with fail
      refine (HE.out _ HC.out.rd).mono ?_
      rintro e v2 ⟨rfl, b2⟩
      have HC2 : Hid (ReadCut w g s q v2) := Lib.hid ⟨old_obj b2 HC.out.at0, old_obj b2 HC.out.at2, HC.out.rd.step b2, grown_then HC.out.grown b2⟩
      clear b2 HC k0 k1 k2
      go_wp2_with fail
      refine (swhy_fault q.e q.p _).mono ?_
      rintro e v3 ⟨rfl, b3⟩
      have HC3 : Hid (ReadCut w g s q v3) := Lib.hid ⟨old_obj b3 HC2.out.at0, old_obj b3 HC2.out.at2, HC2.out.rd.step b3, grown_then HC2.out.grown b3⟩
      have HR4 : Hid (Rd v3.drew g s q) := Lib.hid (HC3.out.rd.step (drew_step v3))
      obtain ⟨k0, k1, k2, _, _, _⟩ := three_cells HC3.out.at0
      obtain ⟨z0, z1, z2, f0, f1, f2⟩ := three_cells (g := w.heap.size + 1 + 1) HC3.out.at2
      have HX := Lib.hid (read_end HC3.out HS.out.gl)
      clear b3 HC2
      go_wp2_with fail
      refine wp_region_held_drew (S := (fun v => v.cell? ⟨w.heap.size, 0, none⟩ = some (.string s) ∧ v.cell? ⟨w.heap.size, 1, none⟩ = some (.int .i64 q.p) ∧ v.cell? ⟨w.heap.size, 2, none⟩ = some (.int .i64 q.e))) (by kernel_rfl) ⟨k0, k1, k2⟩ (fun hHeld => ?_)
      refine take_on 133 (i := 0) (v := .agg #[.string s, .int .i64 q.p, .int .i64 q.e]) rfl rfl (by kernel_rfl) (by kernel_rfl) (by kernel_rfl) (fun _ _ _ h => h) (by rfl) ?_ hHeld ?_
      · intro w hSw; (try dsimp only at hSw); go_simp
      try simp only [Act.put, List.setIfInBounds_toArray, List.set_cons_zero, List.set_cons_succ]
      refine take_on 134 (i := 1) (v := .bool true) rfl rfl (by kernel_rfl) (by kernel_rfl) (by kernel_rfl) (fun _ _ _ h => h) (by rfl) ?_ hHeld ?_
      · intro w hSw; (try dsimp only at hSw); go_simp
      try simp only [Act.put, List.setIfInBounds_toArray, List.set_cons_zero, List.set_cons_succ]
      refine take_on 135 (i := 2) (v := .bool true) rfl rfl (by kernel_rfl) (by kernel_rfl) (by kernel_rfl) (fun _ _ _ h => h) (by rfl) ?_ hHeld ?_
      · intro w hSw; (try dsimp only at hSw); go_simp
      try simp only [Act.put, List.setIfInBounds_toArray, List.set_cons_zero, List.set_cons_succ]
      refine take_on 136 (i := 3) (v := .int .i64 q.e) rfl rfl (by kernel_rfl) (by kernel_rfl) (by kernel_rfl) (fun _ _ _ h => h) (by rfl) ?_ hHeld ?_
      · intro w hSw; (try dsimp only at hSw); go_simp
      try simp only [Act.put, List.setIfInBounds_toArray, List.set_cons_zero, List.set_cons_succ]
      refine take_on 137 (i := 4) (v := .pointer (some ⟨w.heap.size, 2, none⟩)) rfl rfl (by kernel_rfl) (by kernel_rfl) (by kernel_rfl) (fun _ _ _ h => h) (by rfl) ?_ hHeld ?_
      · intro w hSw; (try dsimp only at hSw); go_simp
      try simp only [Act.put, List.setIfInBounds_toArray, List.set_cons_zero, List.set_cons_succ]
      refine take_on 138 (i := 5) (v := .int .i64 q.e) rfl rfl (by kernel_rfl) (by kernel_rfl) (by kernel_rfl) (fun _ _ _ h => h) (by rfl) ?_ hHeld ?_
      · intro w hSw; (try dsimp only at hSw); go_simp
      try simp only [Act.put, List.setIfInBounds_toArray, List.set_cons_zero, List.set_cons_succ]
      refine take_on 139 (i := 6) (v := .bool true) rfl rfl (by kernel_rfl) (by kernel_rfl) (by kernel_rfl) (fun _ _ _ h => h) (by rfl) ?_ hHeld ?_
      · intro w hSw; (try dsimp only at hSw); go_simp
      try simp only [Act.put, List.setIfInBounds_toArray, List.set_cons_zero, List.set_cons_succ]
      refine take_on 140 (i := 7) (v := .bool true) rfl rfl (by kernel_rfl) (by kernel_rfl) (by kernel_rfl) (fun _ _ _ h => h) (by rfl) ?_ hHeld ?_
      · intro w hSw; (try dsimp only at hSw); go_simp
      try simp only [Act.put, List.setIfInBounds_toArray, List.set_cons_zero, List.set_cons_succ]
      refine take_on 141 (i := 8) (v := .bool true) rfl rfl (by kernel_rfl) (by kernel_rfl) (by kernel_rfl) (fun _ _ _ h => h) (by rfl) ?_ hHeld ?_
      · intro w hSw; (try dsimp only at hSw); go_simp
      try simp only [Act.put, List.setIfInBounds_toArray, List.set_cons_zero, List.set_cons_succ]
      refine take_on 142 (i := 9) (v := .pointer (some ⟨g, 0, none⟩)) rfl rfl (by kernel_rfl) (by kernel_rfl) (by kernel_rfl) (fun _ _ _ h => h) (by rfl) ?_ hHeld ?_
      · intro w hSw; (try dsimp only at hSw); go_simp
      try simp only [Act.put, List.setIfInBounds_toArray, List.set_cons_zero, List.set_cons_succ]
      refine take_on 144 (i := 11) (v := .pointer (some ⟨w.heap.size, 1, none⟩)) rfl rfl (by kernel_rfl) (by kernel_rfl) (by kernel_rfl) (fun _ _ _ h => h) (by rfl) ?_ hHeld ?_
      · intro w hSw; (try dsimp only at hSw); go_simp
      try simp only [Act.put, List.setIfInBounds_toArray, List.set_cons_zero, List.set_cons_succ]
      refine take_on 145 (i := 12) (v := .int .i64 q.p) rfl rfl (by kernel_rfl) (by kernel_rfl) (by kernel_rfl) (fun _ _ _ h => h) (by rfl) ?_ hHeld ?_
      · intro w hSw; (try dsimp only at hSw); go_simp
      try simp only [Act.put, List.setIfInBounds_toArray, List.set_cons_zero, List.set_cons_succ]
      refine wpAnyH_ready (rs := [10]) (by kernel_rfl) (by simp) ?_
      refine AllReadyH.cons rfl (fun K hK => ?_) AllReadyH.nil
      go_simp
      refine (sat_any s q g v3.drew HR4.out).mono ?_
      rintro e v4 ⟨rfl, rfl⟩
      refine hK.out _ _ hHeld (fun hHeld => ?_)
      clear hK K
      try simp only [Act.put, List.setIfInBounds_toArray, List.set_cons_zero, List.set_cons_succ]
      refine take_on 146 (i := 13) (v := .bool true) rfl rfl (by kernel_rfl) (by kernel_rfl) (by kernel_rfl) (fun _ _ _ h => h) (by rfl) ?_ hHeld ?_
      · intro w hSw; (try dsimp only at hSw); go_simp
      try simp only [Act.put, List.setIfInBounds_toArray, List.set_cons_zero, List.set_cons_succ]
      refine take_on 147 (i := 14) (v := .bool true) rfl rfl (by kernel_rfl) (by kernel_rfl) (by kernel_rfl) (fun _ _ _ h => h) (by rfl) ?_ hHeld ?_
      · intro w hSw; (try dsimp only at hSw); go_simp
      try simp only [Act.put, List.setIfInBounds_toArray, List.set_cons_zero, List.set_cons_succ]
      refine take_on 148 (i := 15) (v := .bool true) rfl rfl (by kernel_rfl) (by kernel_rfl) (by kernel_rfl) (fun _ _ _ h => h) (by rfl) ?_ hHeld ?_
      · intro w hSw; (try dsimp only at hSw); go_simp
      try simp only [Act.put, List.setIfInBounds_toArray, List.set_cons_zero, List.set_cons_succ]
      refine take_on 149 (i := 16) (v := .int .i64 q.e) rfl rfl (by kernel_rfl) (by kernel_rfl) (by kernel_rfl) (fun _ _ _ h => h) (by rfl) ?_ hHeld ?_
      · intro w hSw; (try dsimp only at hSw); go_simp
      try simp only [Act.put, List.setIfInBounds_toArray, List.set_cons_zero, List.set_cons_succ]
      refine take_on 150 (i := 17) (v := .bool false) rfl rfl (by kernel_rfl) (by kernel_rfl) (by kernel_rfl) (fun _ _ _ h => h) (by rfl) ?_ hHeld ?_
      · intro w hSw; (try dsimp only at hSw); go_simp
      try simp only [Act.put, List.setIfInBounds_toArray, List.set_cons_zero, List.set_cons_succ]
      refine take_on 151 (i := 18) (v := .bool false) rfl rfl (by kernel_rfl) (by kernel_rfl) (by kernel_rfl) (fun _ _ _ h => h) (by rfl) ?_ hHeld ?_
      · intro w hSw; (try dsimp only at hSw); go_simp
      try simp only [Act.put, List.setIfInBounds_toArray, List.set_cons_zero, List.set_cons_succ]
      refine take_on 152 (i := 19) (v := .int .i64 q.p) rfl rfl (by kernel_rfl) (by kernel_rfl) (by kernel_rfl) (fun _ _ _ h => h) (by rfl) ?_ hHeld ?_
      · intro w hSw; (try dsimp only at hSw); go_simp
      try simp only [Act.put, List.setIfInBounds_toArray, List.set_cons_zero, List.set_cons_succ]
      refine take_on 153 (i := 20) (v := .pointer (some ⟨w.heap.size, 1, none⟩)) rfl rfl (by kernel_rfl) (by kernel_rfl) (by kernel_rfl) (fun _ _ _ h => h) (by rfl) ?_ hHeld ?_
      · intro w hSw; (try dsimp only at hSw); go_simp
      try simp only [Act.put, List.setIfInBounds_toArray, List.set_cons_zero, List.set_cons_succ]
      refine take_on 154 (i := 21) (v := .int .i64 q.p) rfl rfl (by kernel_rfl) (by kernel_rfl) (by kernel_rfl) (fun _ _ _ h => h) (by rfl) ?_ hHeld ?_
      · intro w hSw; (try dsimp only at hSw); go_simp
      try simp only [Act.put, List.setIfInBounds_toArray, List.set_cons_zero, List.set_cons_succ]
      refine take_on 155 (i := 22) (v := .bool true) rfl rfl (by kernel_rfl) (by kernel_rfl) (by kernel_rfl) (fun _ _ _ h => h) (by rfl) ?_ hHeld ?_
      · intro w hSw; (try dsimp only at hSw); go_simp
      try simp only [Act.put, List.setIfInBounds_toArray, List.set_cons_zero, List.set_cons_succ]
      refine take_on 156 (i := 23) (v := .bool true) rfl rfl (by kernel_rfl) (by kernel_rfl) (by kernel_rfl) (fun _ _ _ h => h) (by rfl) ?_ hHeld ?_
      · intro w hSw; (try dsimp only at hSw); go_simp
      try simp only [Act.put, List.setIfInBounds_toArray, List.set_cons_zero, List.set_cons_succ]
      refine take_on 157 (i := 24) (v := .bool true) rfl rfl (by kernel_rfl) (by kernel_rfl) (by kernel_rfl) (fun _ _ _ h => h) (by rfl) ?_ hHeld ?_
      · intro w hSw; (try dsimp only at hSw); go_simp
      try simp only [Act.put, List.setIfInBounds_toArray, List.set_cons_zero, List.set_cons_succ]
      refine wpAnyH_ready (rs := [25]) (by kernel_rfl) (by simp) ?_
      refine AllReadyH.cons rfl (fun K hK => ?_) AllReadyH.nil
      go_simp
      refine hK.out _ _ ?_ (fun hHeld => ?_)
      · have hz := (three_below (Below.refl (w.heap.size + 1 + 1) v3) (Nat.le_refl _) (.string s) (.int .i64 q.p) (.int .i64 q.e)).drew
        exact ⟨(hz.cell (p := ⟨w.heap.size, 0, none⟩) (show w.heap.size < w.heap.size + 1 + 1 by omega)).trans k0, (hz.cell (p := ⟨w.heap.size, 1, none⟩) (show w.heap.size < w.heap.size + 1 + 1 by omega)).trans k1, (hz.cell (p := ⟨w.heap.size, 2, none⟩) (show w.heap.size < w.heap.size + 1 + 1 by omega)).trans k2⟩
      clear hK K
      try simp only [Act.put, List.setIfInBounds_toArray, List.set_cons_zero, List.set_cons_succ]
      refine take_on 7 (i := 26) (v := .bool true) rfl rfl (by kernel_rfl) (by kernel_rfl) (by kernel_rfl) (fun _ _ _ h => h) (by rfl) ?_ hHeld ?_
      · intro w hSw; (try dsimp only at hSw); go_simp
      try simp only [Act.put, List.setIfInBounds_toArray, List.set_cons_zero, List.set_cons_succ]
      refine wpAnyH_done (by kernel_rfl) ?_ _
      go_wp2
      refine bodyPost_ret (results_row_slot rfl _ _ (w.heap.size + 1 + 1) _ rfl (rdr_load (three_stored (show v3.drew.heap[w.heap.size + 1 + 1]? = _ from HC3.out.at2) _ _ _))) rfl ?_
      exact ⟨rfl, HX.out.1, HX.out.2⟩
end Go.Proofs.Ytkflpkcggjpbfaa
