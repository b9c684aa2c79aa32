/- The program's two steps, taken in turn: sectors are written, and flushed if that went well. -/
import Derived.Test.YtcbmecpeockdeaaGreatDoorMRef8f
import Derived.Test.YtcbmecpeockdeaaGreatDoorMWrite8
import Derived.Test.YtcbmecpeockdeaaGreatDoorTrA11
namespace Go.Proofs.YtcbmecpeockdeaaGreatDoor
open Go.RowKit Go.Maps

/-- A device in a world that has only changed where it lies. -/
structure Held (w0 : World) (b g cap m : Nat) (d : Dv) (wr : World) : Prop where
  dev : PDev wr b g cap m d
  ok : d.Ok
  but : But b g m w0 wr
theorem Held.start {w : World} {b g cap m : Nat} {d : Dv} (h : PDev w b g cap m d) (ok : d.Ok) : Held w b g cap m d w := ⟨h, ok, But.refl _ _ _ _⟩
theorem Held.step {w0 wr w' : World} {b g cap m : Nat} {d : Dv} (h : Held w0 b g cap m d wr) (hb : Below wr.heap.size wr w') : Held w0 b g cap m d w' := ⟨h.dev.step hb, h.ok, h.but.step hb⟩
theorem Held.drew {w0 wr : World} {b g cap m : Nat} {d : Dv} (h : Held w0 b g cap m d wr) : Held w0 b g cap m d wr.drew := ⟨h.dev.drew, h.ok, h.but.drew⟩
theorem Held.call {w0 wr w' : World} {b g cap m : Nat} {d d' : Dv} (h : Held w0 b g cap m d wr) (hp : PDev w' b g cap m d') (hb : But b g m wr w') (ok : d'.Ok) : Held w0 b g cap m d' w' := ⟨hp, ok, h.but.trans hb⟩
theorem Held.obj {w0 wr : World} {b g cap m : Nat} {d : Dv} (h : Held w0 b g cap m d wr) {k : Nat} {o : Obj} (ho : w0.heap[k]? = some o) (hk : k ≠ b ∧ k ≠ g ∧ k ≠ m) : wr.heap[k]? = some o := h.but.obj ho hk.1 hk.2.1 hk.2.2
theorem Held.below {w0 wr : World} {b g cap m : Nat} {d : Dv} (h : Held w0 b g cap m d wr) {w : World} (h0 : Below w.heap.size w w0) (hb : w.heap.size ≤ b) (hg : w.heap.size ≤ g) (hm : w.heap.size ≤ m) : Below w.heap.size w wr :=
  h0.trans (h.but.below hb hg hm h0.size)
theorem lasting_ok {d : Dv} (h : d.Ok) (p : Int) (t : ByteArray) : (d.lasting p t).Ok := by
  unfold Dv.lasting
  split
  · exact (h.write p t).flush
  · exact h.write p t
theorem app_ok {d : Dv} (h : d.Ok) (f s p ep sq : Int) (b : List UInt8) : (d.app f s p ep sq b).Ok := by
  unfold Dv.app
  split
  · exact lasting_ok h _ _
  · exact h

/-- The step that writes: a closure over three cells. -/
theorem pwriting_any (n : Fn) (u v : Array Value) (p : Int) (t : ByteArray) (w : World) :
    Calls Tryz.prog 76 #[.func n u v, .int .i64 p, .string t] w fun e w' => e = .returned (.func (.func 101) #[] #[.pointer (some ⟨w.heap.size, 0, none⟩), .pointer (some ⟨w.heap.size + 1, 0, none⟩), .pointer (some ⟨w.heap.size + 2, 0, none⟩)]) ∧
      w' = ((w.alloc (.cells #[.func n u v] 86 (0, 0))).alloc (.cells #[.int .i64 p] 3 (0, 0))).alloc (.cells #[.string t] 9 (0, 0)) := by
  go_enter Tryz.func76, Tryz.ntmps76
  go_wp2
  go_ret
  exact ⟨rfl, rfl⟩
/-- What the closure has in its three cells. -/
structure Step11 (x y z b : Nat) (p : Int) (t : ByteArray) (w : World) : Prop where
  fn : w.cell? ⟨x, 0, none⟩ = some (.func (.func 40) #[.pointer (some ⟨b, 0, none⟩)] #[])
  at_ : w.cell? ⟨y, 0, none⟩ = some (.int .i64 p)
  txt : w.cell? ⟨z, 0, none⟩ = some (.string t)
theorem pwriting_step (x y z : Nat) {w : World} {b g cap m : Nat} {d : Dv} (p : Int) (t : ByteArray) (hs : Step11 x y z b p t w) (h : PDev w b g cap m d) (hd : d.Ok) (ho : d.ops < 9223372036854773807) (ht : t.size ≤ 4611686018427387904) :
    Calls Tryz.prog 101 #[.pointer (some ⟨x, 0, none⟩), .pointer (some ⟨y, 0, none⟩), .pointer (some ⟨z, 0, none⟩)] w fun e w' => e = .returned (.int .i64 (d.writeE p t)) ∧ PDev w' b g cap m (d.write p t) ∧ But b g m w w' := by
  obtain ⟨c0, c1, c2⟩ := hs
  have hw := pwrite_any h hd ho p t ht
  generalize d.writeE p t = E at *
  generalize d.write p t = d' at *
  clear h hd ho ht
  go_enter Tryz.func101, Tryz.ntmps101
  go_wp2_with (go_at_call 40; refine hw.mono ?_; rintro e w1 ⟨rfl, hp, hb⟩)
  go_ret
  exact ⟨rfl, hp, hb⟩
/-- Both steps in a row of two. -/
structure Turn11 (q x y z b g m : Nat) (p : Int) (t : ByteArray) (w : World) : Prop where
  row : w.heap[q]? = some (.cells #[.func (.func 101) #[] #[.pointer (some ⟨x, 0, none⟩), .pointer (some ⟨y, 0, none⟩), .pointer (some ⟨z, 0, none⟩)], .func (.func 41) #[.pointer (some ⟨b, 0, none⟩)] #[]] 123 (0, 0))
  step : Step11 x y z b p t w
  far : q ≠ b ∧ q ≠ g ∧ q ≠ m
set_option maxHeartbeats 1000000 in
theorem pturn_any (q x y z : Nat) {w : World} {b g cap m : Nat} {d : Dv} (p : Int) (t : ByteArray) (hq : Turn11 q x y z b g m p t w) (h : PDev w b g cap m d) (hd : d.Ok) (ho : d.ops < 9223372036854771807) (ht : t.size ≤ 4611686018427387904) (ho2 : (d.write p t).ops < 9223372036854775807) :
    Calls Tryz.prog 75 #[.slice (some ⟨q, 0, none⟩) 2 2] w fun e w' => e = .returned (.int .i64 (d.lastingE p t)) ∧ PDev w' b g cap m (d.lasting p t) ∧ But b g m w w' := by
  have hst := pwriting_step x y z p t hq.step h hd (by omega) ht
  have hfl := fun (v : World) (hv : PDev v b g cap m (d.write p t)) => pflush_any hv (hd.write p t) ho2
  have hR := Lib.hid hq.row
  have hF := Lib.hid hq.far
  have c0 := cell_of (j := 0) hq.row rfl
  have hLE : d.lastingE p t = if d.writeE p t = 0 then (d.write p t).flushE else d.writeE p t := rfl
  have hLD : d.lasting p t = if d.writeE p t = 0 then (d.write p t).flush else d.write p t := rfl
  rw [hLE, hLD]
  obtain ⟨E, hE⟩ : ∃ E, d.writeE p t = E := ⟨_, rfl⟩
  obtain ⟨D1, hD1⟩ : ∃ D1, d.write p t = D1 := ⟨_, rfl⟩
  simp only [hE, hD1] at hst hfl ⊢
  clear hLE hLD hE hD1 hq h hd ho ht ho2
  by_cases hz : E = 0
  · subst hz
    rw [if_pos rfl, if_pos rfl]
    obtain ⟨E2, hE2⟩ : ∃ E2, D1.flushE = E2 := ⟨_, rfl⟩
    obtain ⟨D2, hD2⟩ : ∃ D2, D1.flush = D2 := ⟨_, rfl⟩
    simp only [hE2, hD2] at hfl ⊢
    clear hE2 hD2
    go_enter Tryz.func75, Tryz.ntmps75
    go_wp2
    go_loopw [8] (fun i wr => (i = .int .i64 0 ∧ wr = w) ∨ (i = .int .i64 1 ∧ Hid (PDev wr b g cap m D1 ∧ But b g m w wr)) ∨ (i = .int .i64 2 ∧ E2 = 0 ∧ Hid (PDev wr b g cap m D2 ∧ But b g m w wr))) (fun i _ => 2 - (intOf i).toNat)
    case atStart => exact Or.inl ⟨rfl, rfl⟩
    case round =>
      rcases hrel with ⟨rfl, rfl⟩ | ⟨rfl, H⟩ | ⟨rfl, hz2, H⟩
      · go_wp2_with (go_at_call 101; refine hst.mono ?_; rintro e w1 ⟨rfl, hp1, hb1⟩)
        go_roundw
        case rel => exact Or.inr (Or.inl ⟨rfl, Lib.hid ⟨hp1, hb1⟩⟩)
        case measure => simp [intOf]
      · have hf := hfl _ H.out.1
        have c1 := cell_of (j := 1) (H.out.2.obj hR.out hF.out.1 hF.out.2.1 hF.out.2.2) rfl
        clear c0
        by_cases hz2 : E2 = 0
        · subst hz2
          go_wp2_with (go_at_call 41; refine hf.mono ?_; rintro e w1 ⟨rfl, hp1, hb1⟩)
          go_roundw
          case rel => exact Or.inr (Or.inr ⟨rfl, by first | trivial | rfl, Lib.hid ⟨hp1, H.out.2.trans hb1⟩⟩)
          case measure => simp [intOf]
        · have e2 : (E2 != 0) = true := bne_iff_ne.2 hz2
          go_wp2_with (go_at_call 41; refine hf.mono ?_; rintro e w1 ⟨rfl, hp1, hb1⟩)
          go_ret
          exact ⟨rfl, hp1, H.out.2.trans hb1⟩
      · subst hz2
        go_wp2
        go_ret
        exact ⟨rfl, H.out.1, H.out.2⟩
  · rw [if_neg hz, if_neg hz]
    have e1 : (E != 0) = true := bne_iff_ne.2 hz
    clear hfl
    go_enter Tryz.func75, Tryz.ntmps75
    go_wp2
    go_loopw [8] (fun i wr => i = .int .i64 0 ∧ wr = w) (fun i _ => 2 - (intOf i).toNat)
    case atStart => exact ⟨rfl, rfl⟩
    case round =>
      obtain ⟨rfl, rfl⟩ := hrel
      go_wp2_with (go_at_call 101; refine hst.mono ?_; rintro e w1 ⟨rfl, hp1, hb1⟩)
      go_ret
      exact ⟨rfl, hp1, hb1⟩
theorem PDev.grown3 {w : World} {b g cap m : Nat} {d : Dv} (h : PDev w b g cap m d) (A B C D : Obj) : PDev ((((w.alloc A).alloc B).alloc C).alloc D) b g cap m d ∧ But b g m w ((((w.alloc A).alloc B).alloc C).alloc D) := by
  have hb : Below w.heap.size w ((((w.alloc A).alloc B).alloc C).alloc D) := ((((Below.refl _ w).alloc (Nat.le_refl _) A).alloc (by simp) B).alloc (by simp; omega) C).alloc (by simp; omega) D
  exact ⟨h.step hb, But.of_below hb⟩
/-- The program's store: sectors are written, and flushed if that went well. -/
theorem pstore_any {w : World} {b g cap m : Nat} {d : Dv} (h : PDev w b g cap m d) (hd : d.Ok) (ho : d.ops < 9223372036854771807) (p : Int) (t : ByteArray) (ht : t.size ≤ 4611686018427387904) (ho2 : (d.write p t).ops < 9223372036854775807) :
    Calls Tryz.prog 54 #[.pointer (some ⟨b, 0, none⟩), .int .i64 p, .string t] w fun e w' => e = .returned (.int .i64 (d.lastingE p t)) ∧ PDev w' b g cap m (d.lasting p t) ∧ But b g m w w' := by
  have hlt := h.lt
  have ht1 : ∀ W : World, W = ((((w.alloc (.cells #[.func (.func 40) #[.pointer (some ⟨b, 0, none⟩)] #[]] 86 (0, 0))).alloc (.cells #[.int .i64 p] 3 (0, 0))).alloc (.cells #[.string t] 9 (0, 0))).alloc (.cells #[.func (.func 101) #[] #[.pointer (some ⟨w.heap.size, 0, none⟩), .pointer (some ⟨w.heap.size + 1, 0, none⟩), .pointer (some ⟨w.heap.size + 2, 0, none⟩)], .func (.func 41) #[.pointer (some ⟨b, 0, none⟩)] #[]] 123 (0, 0))) →
      Calls Tryz.prog 75 #[.slice (some ⟨w.heap.size + 3, 0, none⟩) 2 2] W fun e w' => e = .returned (.int .i64 (d.lastingE p t)) ∧ PDev w' b g cap m (d.lasting p t) ∧ But b g m w w' := fun W hW => by
    obtain ⟨A, hA⟩ : ∃ A : Obj, A = .cells #[.func (.func 40) #[.pointer (some ⟨b, 0, none⟩)] #[]] 86 (0, 0) := ⟨_, rfl⟩
    obtain ⟨B, hB⟩ : ∃ B : Obj, B = .cells #[.int .i64 p] 3 (0, 0) := ⟨_, rfl⟩
    obtain ⟨C, hC⟩ : ∃ C : Obj, C = .cells #[.string t] 9 (0, 0) := ⟨_, rfl⟩
    obtain ⟨D, hD⟩ : ∃ D : Obj, D = .cells #[.func (.func 101) #[] #[.pointer (some ⟨w.heap.size, 0, none⟩), .pointer (some ⟨w.heap.size + 1, 0, none⟩), .pointer (some ⟨w.heap.size + 2, 0, none⟩)], .func (.func 41) #[.pointer (some ⟨b, 0, none⟩)] #[]] 123 (0, 0) := ⟨_, rfl⟩
    rw [← hA, ← hB, ← hC, ← hD] at hW
    obtain ⟨g1, g2⟩ := h.grown3 A B C D
    rw [← hW] at g1 g2
    have s3 : (((w.alloc A).alloc B).alloc C).heap.size = w.heap.size + 3 := by simp
    have z3 : W.heap[w.heap.size + 3]? = some D := by rw [hW, ← s3]; exact heap_alloc_new _ _
    have z2 : W.heap[w.heap.size + 2]? = some C := by rw [hW, Below.heap_alloc _ D _ (by rw [s3]; omega), show w.heap.size + 2 = ((w.alloc A).alloc B).heap.size by simp]; exact heap_alloc_new _ _
    have z1 : W.heap[w.heap.size + 1]? = some B := by rw [hW, Below.heap_alloc _ D _ (by rw [s3]; omega), Below.heap_alloc _ C _ (by simp), show w.heap.size + 1 = (w.alloc A).heap.size by simp]; exact heap_alloc_new _ _
    have z0 : W.heap[w.heap.size]? = some A := by rw [hW, Below.heap_alloc _ D _ (by rw [s3]; omega), Below.heap_alloc _ C _ (by simp; omega), Below.heap_alloc _ B _ (by simp)]; exact heap_alloc_new _ _
    rw [hA] at z0; rw [hB] at z1; rw [hC] at z2; rw [hD] at z3
    refine (pturn_any (w.heap.size + 3) w.heap.size (w.heap.size + 1) (w.heap.size + 2) p t ⟨z3, ⟨cell_of (j := 0) z0 rfl, cell_of (j := 0) z1 rfl, cell_of (j := 0) z2 rfl⟩, by omega, by omega, by omega⟩ g1 hd ho ht ho2).mono fun e w' ⟨q1, q2, q3⟩ => ?_
    exact ⟨q1, q2, g2.trans q3⟩
  have hwr := pwriting_any (.func 40) #[.pointer (some ⟨b, 0, none⟩)] #[] p t w
  generalize d.lastingE p t = E at *
  generalize d.lasting p t = D at *
  clear h hd ho ht ho2 hlt
  go_enter Tryz.func54, Tryz.ntmps54
  go_wp2_with (first
    | (go_at_call 76; refine hwr.mono ?_; rintro e w1 ⟨rfl, rfl⟩)
    | (go_at_call 75; refine (ht1 _ rfl).mono ?_; rintro e w2 ⟨rfl, hp, hb⟩))
  go_ret
  exact ⟨rfl, hp, hb⟩
end Go.Proofs.YtcbmecpeockdeaaGreatDoor
