/- The walk of the law OctetRows: it returns true in every world and leaves what lay there. -/
import Derived.Test.YtcpaclefogappaaWay5a
namespace Go.Proofs.Ytcpaclefogappaa
open Go.RowKit

theorem orow_bt (a : Option Addr) (cap : Nat) (x : Int) (l : List Int) (hx : ∀ y ∈ l, y ≤ 9223372036854775807) (hl : l.length ≤ 4611686018427387904) (w : World) (hi : Ints w.heap.size w a l) :
    Calls Try.prog 19 #[.int .i64 x, .slice a l.length cap] w fun e w' => e = .returned (.tuple #[.string (bt (rowL x l)), .int .i64 (rowE x l)]) ∧ Below w.heap.size w w' :=
  (orow_any a cap x l hx hl w hi).mono fun _ _ ⟨t, he, ht, hb⟩ => ⟨by rw [he, bt_of ht.out], hb⟩
theorem rrow_bt (a : Option Addr) (cap : Nat) (x : Int) (l : List Int) (hx : ∀ y ∈ l, y ≤ 9223372036854775807) (hl : l.length ≤ 4611686018427387904) (w : World) (hi : Ints w.heap.size w a l) :
    Calls Try.prog 20 #[.int .i64 x, .slice a l.length cap] w fun e w' => e = .returned (.tuple #[.string (bt (rowL x l)), .int .i64 (rowE x l)]) ∧ Below w.heap.size w w' :=
  (rrow_any a cap x l hx hl w hi).mono fun _ _ ⟨t, he, ht, hb⟩ => ⟨by rw [he, bt_of ht.out], hb⟩
/-- A variable of three places. -/
structure Var3 (w : World) (n : Nat) (x y z : Value) : Prop where
  c0 : w.cell? ⟨n, 0, none⟩ = some x
  c1 : w.cell? ⟨n, 1, none⟩ = some y
  c2 : w.cell? ⟨n, 2, none⟩ = some z
  lt : n < w.heap.size
theorem Var3.step {w w' : World} {n : Nat} {x y z : Value} (h : Var3 w n x y z) (b : Below w.heap.size w w') : Var3 w' n x y z :=
  ⟨(b.cell (p := ⟨n, 0, none⟩) h.lt).trans h.c0, (b.cell (p := ⟨n, 1, none⟩) h.lt).trans h.c1, (b.cell (p := ⟨n, 2, none⟩) h.lt).trans h.c2, Nat.lt_of_lt_of_le h.lt b.size⟩
theorem Var3.alloc {w : World} {n : Nat} {x y z : Value} (h : Var3 w n x y z) (o : Obj) : Var3 (w.alloc o) n x y z := h.step ((Below.refl _ w).alloc (Nat.le_refl _) o)
theorem Var3.new (w : World) (x y z : Value) (t : TypeId) : Var3 (w.alloc (.cells #[x, y, z] t)) w.heap.size x y z := ⟨by simp, by simp, by simp, by simp⟩

set_option maxRecDepth 100000 in
set_option maxHeartbeats 1000000 in
theorem octetRows_walk (w : World) (a : Option Addr) (cap : Nat) (l : List Int) (_ : l.length ≤ maxLen) (ht : Ints w.heap.size w a l) (hwf : ∀ n ∈ l, (Lit.int .i64 n).wf = true) (s : ByteArray) (_hs : s.size ≤ maxLen) (x0 x1 x2 : Int) (h0 : (Lit.int .i64 x0).wf = true) :
    Calls Try.prog 5 #[.slice a l.length cap, .string s, .agg #[.int .i64 x0, .int .i64 x1, .int .i64 x2]] w fun e w' => e = .returned (.bool true) ∧ Below w.heap.size w w' := by
  have hb := Below.refl w.heap.size w
  have hlx : ∀ y ∈ l, y ≤ 9223372036854775807 := fun y hy => (Go.bounds_i64 (hwf y hy)).2
  have hx1 := Go.bounds_i64 h0
  clear hwf h0
  have vx := Var3.new w (.int .i64 x0) (.int .i64 x1) (.int .i64 x2) 47
  replace ht := ht.lit (Obj.cells #[.int .i64 x0, .int .i64 x1, .int .i64 x2] 47)
  replace hb := hb.alloc hb.size (Obj.cells #[.int .i64 x0, .int .i64 x1, .int .i64 x2] 47)
  by_cases h : (1100 : Int) < (l.length : Int)
  · have hd : decide ((1100 : Int) < (l.length : Int)) = true := decide_eq_true h
    clear h
    go_enter Try.func5, Try.ntmps5
    go_wp2_with (go_at_call 9; refine (awake5_any _).mono ?_; rintro e w1 ⟨rfl, b1⟩; replace hb := hb.trans (b1.mono hb.size))
    go_ret
    exact ⟨rfl, hb⟩
  · have hd : decide ((1100 : Int) < (l.length : Int)) = false := decide_eq_false h
    by_cases h2 : (3000 : Int) < (s.size : Int)
    · have hd2 : decide ((3000 : Int) < (s.size : Int)) = true := decide_eq_true h2
      clear h h2
      go_enter Try.func5, Try.ntmps5
      go_wp2_with (go_at_call 9; refine (awake5_any _).mono ?_; rintro e w1 ⟨rfl, b1⟩; replace hb := hb.trans (b1.mono hb.size))
      go_ret
      exact ⟨rfl, hb⟩
    · have hd2 : decide ((3000 : Int) < (s.size : Int)) = false := decide_eq_false h2
      have hs : s.size ≤ 4611686018427387904 := by omega
      have hl : l.length ≤ 4611686018427387904 := by omega
      have hul : (unrowL s.data.toList x0 x1 x2).length ≤ 4611686018427387904 := by
        by_cases he : unrowE s.data.toList x0 x1 x2 = 0
        · have h3 := (unrow_canon he).2.2.2.2
          have h4 := unrow_fine he
          omega
        · unfold unrowL; rw [if_neg he]; simp
      have H1 : Hid (∀ v, Ints v.heap.size v a l → Calls Try.prog 19 #[.int .i64 x1, .slice a l.length cap] v fun e w' => e = .returned (.tuple #[.string (bt (rowL x1 l)), .int .i64 (rowE x1 l)]) ∧ Below v.heap.size v w') := Lib.hid fun v hv => orow_bt a cap x1 l hlx hl v hv
      have H2 : Hid (∀ v, Ints v.heap.size v a l → Calls Try.prog 20 #[.int .i64 x1, .slice a l.length cap] v fun e w' => e = .returned (.tuple #[.string (bt (rowL x1 l)), .int .i64 (rowE x1 l)]) ∧ Below v.heap.size v w') := Lib.hid fun v hv => rrow_bt a cap x1 l hlx hl v hv
      have H3 := Lib.hid (ounrow_any s hs x0 x1 x2 (by omega) (by omega))
      have H4 := Lib.hid (runrow_any s hs x0 x1 x2 (by omega) (by omega))
      generalize bt (rowL x1 l) = R at *
      generalize rowE x1 l = E at *
      generalize unrowL s.data.toList x0 x1 x2 = UL at *
      generalize unrowT s.data.toList x0 x1 x2 = UT at *
      generalize unrowE s.data.toList x0 x1 x2 = UE at *
      have HS : Hid (∀ (p q : Option Addr) (c d : Nat) (v : World), Ints v.heap.size v p UL → Ints v.heap.size v q UL → Calls Try.prog 23 #[.slice p UL.length c, .slice q UL.length d] v fun e w' => e = .returned (.bool true) ∧ Below v.heap.size v w') := Lib.hid fun p q c d v hp hq => by
        have := same_any p q c d UL UL v hul hp hq
        rw [decide_eq_true rfl] at this
        exact this
      clear h h2 hul
      go_enter Try.func5, Try.ntmps5
      go_upto_region 3 with fail
      generalize w.alloc (Obj.cells #[.int .i64 x0, .int .i64 x1, .int .i64 x2] 47) = V at *
      have c0 := vx.c0
      have c1 := vx.c1
      have c2 := vx.c2
      replace ht := Lib.hid ht
      go_upto_region 6 with (first
        | (go_at_call 19; refine (H1.out _ ht.out).mono ?_; rintro e w1 ⟨rfl, b1⟩; replace hb := hb.trans (b1.mono hb.size); replace vx := vx.step b1; replace ht := Lib.hid (ht.out.step b1); clear b1 c0 c1 c2; have c0 := vx.c0; have c1 := vx.c1; have c2 := vx.c2)
        | (go_at_call 20; refine (H2.out _ ht.out).mono ?_; rintro e w1 ⟨rfl, b1⟩; replace hb := hb.trans (b1.mono hb.size); replace vx := vx.step b1; replace ht := Lib.hid (ht.out.step b1); clear b1 c0 c1 c2; have c0 := vx.c0; have c1 := vx.c1; have c2 := vx.c2)
        | (go_at_call 21; refine (H3.out _).mono ?_; rintro e w3 ⟨a3, d3, rfl, hI3, b1⟩; replace hI3 := Lib.hid hI3; replace hb := hb.trans (b1.mono hb.size); replace vx := vx.step b1; clear b1 c0 c1 c2; have c0 := vx.c0; have c1 := vx.c1; have c2 := vx.c2))
      have v3 := Var2.new w3 (.slice a3 UL.length d3) (.int .i64 UT) 51
      replace vx := vx.alloc (Obj.cells #[.slice a3 UL.length d3, .int .i64 UT] 51)
      replace hI3 := Lib.hid (hI3.out.lit (Obj.cells #[.slice a3 UL.length d3, .int .i64 UT] 51))
      replace hb := hb.alloc hb.size (Obj.cells #[.slice a3 UL.length d3, .int .i64 UT] 51)
      generalize w3.alloc (Obj.cells #[.slice a3 UL.length d3, .int .i64 UT] 51) = V3 at *
      generalize w3.heap.size = n3 at *
      clear c0 c1 c2
      have c0 := vx.c0
      have c1 := vx.c1
      have c2 := vx.c2
      go_upto_region 7 with (go_at_call 22; refine (H4.out _).mono ?_; rintro e w4 ⟨a4, d4, rfl, hI4, b1⟩; replace hI4 := Lib.hid hI4; replace hI3 := Lib.hid (hI3.out.step b1); replace v3 := v3.step b1; replace hb := hb.trans (b1.mono hb.size); clear b1)
      have f0 := v3.c0
      have f1 := v3.c1
      clear c0 c1 c2
      go_wp2_with (first
        | (go_at_call 23; refine (HS.out _ _ _ _ _ hI3.out hI4.out).mono ?_; rintro e w5 ⟨rfl, b1⟩; replace hb := hb.trans (b1.mono hb.size); have f2 := (v3.step b1).c1; clear b1)
        | (go_at_call 9; refine (awake5_any _).mono ?_; rintro e w6 ⟨rfl, b1⟩; replace hb := hb.trans (b1.mono hb.size)))
      go_ret
      exact ⟨rfl, hb⟩
end Go.Proofs.Ytcpaclefogappaa
