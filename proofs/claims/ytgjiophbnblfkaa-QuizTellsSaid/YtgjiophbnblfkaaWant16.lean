/- What the walks of layer 16 want of quiz's five functions, for every slice of numbers and in every world. -/
import Derived.Test.YtgjiophbnblfkaaQz16
import Derived.Test.YtgjiophbnblfkaaSameInts
namespace Go.Proofs.Ytgjiophbnblfkaa
open Go.RowKit

/-- A slice of numbers and an error are told. -/
def Gives16 (w : World) (e : Ending) (w' : World) (ys : List Int) (E : Int) : Prop :=
  ∃ a c, e = .returned (.tuple #[.slice a ys.length c, .int .i64 E]) ∧ ys.length ≤ c ∧ Ints w'.heap.size w' a ys ∧ Below w.heap.size w w'
structure Quiz16 : Prop where
  check : ∀ (a : Option Addr) (cap : Nat) (xs : List Int) (w : World), xs.length ≤ cap → Ints w.heap.size w a xs → xs.length ≤ 1000000 →
    Calls Try.prog 13 #[.slice a xs.length cap] w fun e w' => e = .returned (.int .i64 (asksE xs)) ∧ Below w.heap.size w w'
  worst : ∀ (a : Option Addr) (cap : Nat) (xs : List Int) (w : World), xs.length ≤ cap → Ints w.heap.size w a xs → xs.length ≤ 1000000 →
    Calls Try.prog 15 #[.slice a xs.length cap] w fun e w' => e = .returned (.int .i64 (worstV xs)) ∧ Below w.heap.size w w'
  score : ∀ (a : Option Addr) (cap : Nat) (xs : List Int) (m : Int) (w : World), xs.length ≤ cap → Ints w.heap.size w a xs → xs.length ≤ 1000000 → (Lit.int .i64 m).wf = true →
    Calls Try.prog 7 #[.slice a xs.length cap, .int .i64 m] w fun e w' => e = .returned (.tuple #[.int .i64 (scoreV xs m), .int .i64 (failE xs m)]) ∧ Below w.heap.size w w'
  failed : ∀ (a : Option Addr) (cap : Nat) (xs : List Int) (m : Int) (w : World), xs.length ≤ cap → Ints w.heap.size w a xs → xs.length ≤ 1000000 → (Lit.int .i64 m).wf = true →
    Calls Try.prog 9 #[.slice a xs.length cap, .int .i64 m] w fun e w' => Gives16 w e w' (failV xs m) (failE xs m)
  answers : ∀ (a : Option Addr) (cap : Nat) (xs : List Int) (b : Option Addr) (cap' : Nat) (fs : List Int) (w : World), xs.length ≤ cap → Ints w.heap.size w a xs → xs.length ≤ 1000000 → fs.length ≤ cap' → Ints w.heap.size w b fs → fs.length ≤ 1000000 →
    Calls Try.prog 11 #[.slice a xs.length cap, .slice b fs.length cap'] w fun e w' => e = .returned (.tuple #[.int .i64 (ansV xs fs), .int .i64 (ansE xs fs)]) ∧ Below w.heap.size w w'

theorem lit16 (W : World) (o : Obj) : Below W.heap.size W (W.alloc o) := (Below.refl _ W).alloc (Nat.le_refl _) o
/-- The law's probes come out true. -/
theorem awake16 (Q : Quiz16) (w : World) : Calls Try.prog 6 #[] w fun e w' => e = .returned (.bool true) ∧ Below w.heap.size w w' := by
  have S1 : Hid (∀ W : World, Calls Try.prog 7 #[.slice (some ⟨W.heap.size, 0, none⟩) 3 3, .int .i64 5] (W.alloc (.cells #[.int .i64 5, .int .i64 3, .int .i64 1] 3)) fun e w' => e = .returned (.tuple #[.int .i64 3, .int .i64 0]) ∧ Below W.heap.size W w') := Lib.hid fun W => by
    refine (Q.score (some ⟨W.heap.size, 0, none⟩) 3 [5, 3, 1] 5 _ (Nat.le_refl _) (lit_three W 5 3 1 _) (by decide) (by decide)).mono ?_
    rintro e w' ⟨rfl, hb⟩
    exact ⟨by rw [show scoreV [5, 3, 1] 5 = 3 from by decide, show failE [5, 3, 1] 5 = 0 from by decide], (lit16 W _).trans (hb.mono (lit16 W _).size)⟩
  have S2 : Hid (∀ W : World, Calls Try.prog 9 #[.slice (some ⟨W.heap.size, 0, none⟩) 3 3, .int .i64 5] (W.alloc (.cells #[.int .i64 5, .int .i64 3, .int .i64 1] 3)) fun e w' => ∃ a c, e = .returned (.tuple #[.slice a 1 c, .int .i64 0]) ∧ Ints w'.heap.size w' a [1] ∧ Below W.heap.size W w') := Lib.hid fun W => by
    refine (Q.failed (some ⟨W.heap.size, 0, none⟩) 3 [5, 3, 1] 5 _ (Nat.le_refl _) (lit_three W 5 3 1 _) (by decide) (by decide)).mono ?_
    rintro e w' ⟨a, c, rfl, _, hi, hb⟩
    rw [show failV [5, 3, 1] 5 = [1] from by decide, show failE [5, 3, 1] 5 = 0 from by decide] at *
    exact ⟨a, c, rfl, hi, (lit16 W _).trans (hb.mono (lit16 W _).size)⟩
  have S3 : Hid (∀ W : World, Calls Try.prog 7 #[.slice (some ⟨W.heap.size, 0, none⟩) 1 1, .int .i64 2] (W.alloc (.cells #[.int .i64 5] 3)) fun e w' => e = .returned (.tuple #[.int .i64 0, .int .i64 2]) ∧ Below W.heap.size W w') := Lib.hid fun W => by
    refine (Q.score (some ⟨W.heap.size, 0, none⟩) 1 [5] 2 _ (Nat.le_refl _) (lit_one W 5 _) (by decide) (by decide)).mono ?_
    rintro e w' ⟨rfl, hb⟩
    exact ⟨by rw [show scoreV [5] 2 = 0 from by decide, show failE [5] 2 = 2 from by decide], (lit16 W _).trans (hb.mono (lit16 W _).size)⟩
  have S4 : Hid (∀ W : World, Calls Try.prog 11 #[.slice (some ⟨W.heap.size, 0, none⟩) 3 3, .slice (some ⟨W.heap.size + 1, 0, none⟩) 1 1] ((W.alloc (.cells #[.int .i64 5, .int .i64 3, .int .i64 1] 3)).alloc (.cells #[.int .i64 1] 3)) fun e w' => e = .returned (.tuple #[.int .i64 5, .int .i64 0]) ∧ Below W.heap.size W w') := Lib.hid fun W => by
    have h1 := (lit_three W 5 3 1 3).lit (.cells #[.int .i64 1] 3)
    have h2 := lit_one (W.alloc (.cells #[.int .i64 5, .int .i64 3, .int .i64 1] 3)) 1 3
    rw [show (W.alloc (.cells #[.int .i64 5, .int .i64 3, .int .i64 1] 3)).heap.size = W.heap.size + 1 from by simp] at h2
    refine (Q.answers (some ⟨W.heap.size, 0, none⟩) 3 [5, 3, 1] (some ⟨W.heap.size + 1, 0, none⟩) 1 [1] _ (Nat.le_refl _) h1 (by decide) (Nat.le_refl _) h2 (by decide)).mono ?_
    rintro e w' ⟨rfl, hb⟩
    have hb0 := (lit16 W (.cells #[.int .i64 5, .int .i64 3, .int .i64 1] 3)).alloc (lit16 W _).size (.cells #[.int .i64 1] 3)
    exact ⟨by rw [show ansV [5, 3, 1] [1] = 5 from by decide, show ansE [5, 3, 1] [1] = 0 from by decide], hb0.trans (hb.mono hb0.size)⟩
  have S5 : Hid (∀ W : World, Calls Try.prog 15 #[.slice (some ⟨W.heap.size, 0, none⟩) 3 3] (W.alloc (.cells #[.int .i64 5, .int .i64 3, .int .i64 1] 3)) fun e w' => e = .returned (.int .i64 9) ∧ Below W.heap.size W w') := Lib.hid fun W => by
    refine (Q.worst (some ⟨W.heap.size, 0, none⟩) 3 [5, 3, 1] _ (Nat.le_refl _) (lit_three W 5 3 1 _) (by decide)).mono ?_
    rintro e w' ⟨rfl, hb⟩
    exact ⟨by rw [show worstV [5, 3, 1] = 9 from by decide], (lit16 W _).trans (hb.mono (lit16 W _).size)⟩
  have S6 : Hid (∀ W : World, Calls Try.prog 13 #[.slice none 0 0] W fun e w' => e = .returned (.int .i64 36) ∧ Below W.heap.size W w') := Lib.hid fun W => by
    refine (Q.check none 0 [] W (Nat.le_refl _) (Or.inl rfl) (by decide)).mono ?_
    rintro e w' ⟨rfl, hb⟩
    exact ⟨by rw [show asksE [] = 36 from by decide], hb⟩
  have S7 : Hid (∀ (W : World) (a : Option Addr) (c : Nat), Ints W.heap.size W a [1] → Calls Try.prog 17 #[.slice a 1 c, .slice (some ⟨W.heap.size, 0, none⟩) 1 1] (W.alloc (.cells #[.int .i64 1] 3)) fun e w' => e = .returned (.bool true) ∧ Below W.heap.size W w') := Lib.hid fun W a c hT => by
    refine (same_any a (some ⟨W.heap.size, 0, none⟩) c 1 [1] [1] _ (by decide) (hT.lit _) (lit_one W 1 _)).mono ?_
    rintro e w' ⟨rfl, hb⟩
    exact ⟨rfl, (lit16 W _).trans (hb.mono (lit16 W _).size)⟩
  clear Q
  go_enter Try.func6, Try.ntmps6
  go_upto_region 2 with (go_at_call 7; refine (S1.out _).mono ?_; rintro e w1 ⟨rfl, hb⟩; have B1 := Lib.hid hb; clear hb S1)
  go_upto_region 3 with (go_at_call 9; refine (S2.out _).mono ?_; rintro e w2 ⟨a2, c2, rfl, hi, hb⟩; have I2 := Lib.hid hi; have B2 := Lib.hid (B1.out.trans (hb.mono B1.out.size)); clear hi hb S2 B1)
  go_upto_region 4 with (go_at_call 7; refine (S3.out _).mono ?_; rintro e w3 ⟨rfl, hb⟩; have I3 := Lib.hid (I2.out.step hb); have B3 := Lib.hid (B2.out.trans (hb.mono B2.out.size)); clear hb S3 B2 I2)
  go_upto_region 5 with (go_at_call 11; refine (S4.out _).mono ?_; rintro e w4 ⟨rfl, hb⟩; have I4 := Lib.hid (I3.out.step hb); have B4 := Lib.hid (B3.out.trans (hb.mono B3.out.size)); clear hb S4 B3 I3)
  go_wp2_with (first
    | (go_at_call 17; refine (S7.out _ _ _ I4.out).mono ?_; rintro e w5 ⟨rfl, hb⟩; have B5 := Lib.hid (B4.out.trans (hb.mono B4.out.size)); clear hb S7 B4 I4)
    | (go_at_call 15; refine (S5.out _).mono ?_; rintro e w6 ⟨rfl, hb⟩; have B6 := Lib.hid (B5.out.trans (hb.mono B5.out.size)); clear hb S5 B5)
    | (go_at_call 13; refine (S6.out _).mono ?_; rintro e w7 ⟨rfl, hb⟩; have B7 := Lib.hid (B6.out.trans (hb.mono B6.out.size)); clear hb S6 B6))
  go_ret
  exact ⟨rfl, B7.out⟩
/-- A slice of numbers that came in: its length is no more than its capacity. -/
theorem ints_cap16 {H : Type} {enc : TypeId × Value → H} {base : Nat} {held : Bool} {t e : TypeId} {fuel : Nat} {a : Option Addr} {len cap : Nat} {W : World} {x : DataW H × List MemPlace} (ht : Try.prog.underlying t = some (.slice e)) (he : Try.prog.underlying e = some (.int .i64)) (hc : Try.prog.cellsOf e = 1)
    (h : DataW.trod enc Try.prog W base (fun _ => true) held fuel t (Value.slice a len cap).cells.toList = some x) :
    ∃ xs : List Int, xs.length = len ∧ len ≤ cap ∧ xs.length ≤ maxLen ∧ Ints W.heap.size W a xs := by
  obtain ⟨xs, h1, h2, h3, _⟩ := ints_of ht he hc h
  refine ⟨xs, h1, ?_, h2, h3⟩
  rcases ChangeShapes.open_ints ht he hc h with ⟨hcs, _⟩ | ⟨y, l, c, zs, hcs, _, hl, hm, hz, _, hcell, hwz⟩
  · simp [Value.cells] at hcs
    obtain ⟨_, rfl, rfl⟩ := hcs
    exact Nat.le_refl _
  · simp [Value.cells] at hcs
    obtain ⟨_, rfl, rfl⟩ := hcs
    first | exact hl | omega
end Go.Proofs.Ytgjiophbnblfkaa
