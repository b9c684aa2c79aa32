/- The document's Check of rules: for all rules, in every world. -/
import Derived.Test.YtifihejogbcbgaaMGr17
import Derived.Test.YtifihejogbcbgaaMRefB19
import Derived.Test.YtifihejogbcbgaaMSum
namespace Go.Proofs.Ytifihejogbcbgaa
open Go.RowKit

def rulesB (ks cs fs : List Int) (l : List Row18) : Bool := asksE ks != 0 || cutsE cs != 0 || checkE fs != 0 || gapB l
def rulesE (ks cs fs : List Int) (l : List Row18) : Int := if rulesB ks cs fs l = true then 36 else 0
theorem asks_two (l : List Int) : asksE l = 0 ∨ asksE l = 36 := by unfold asksE; split <;> simp
theorem cuts_two (l : List Int) : cutsE l = 0 ∨ cutsE l = 36 := by unfold cutsE; split <;> simp
theorem check_two (l : List Int) : checkE l = 0 ∨ checkE l = 36 := by unfold checkE; split <;> simp
def rulesVal (a1 a2 a3 a4 : Option Addr) (n1 c1 n2 c2 n3 c3 n4 c4 : Nat) : Value := .agg #[.slice a1 n1 c1, .slice a2 n2 c2, .slice a3 n3 c3, .slice a4 n4 c4]
set_option maxRecDepth 100000 in
set_option maxHeartbeats 8000000 in
theorem rcheck19_any (a1 a2 a3 a4 : Option Addr) (c1 c2 c3 c4 : Nat) (ks cs fs : List Int) (l : List Row18) (w : World) (h1 : Ints w.heap.size w a1 ks) (h2 : Ints w.heap.size w a2 cs) (h3 : Ints w.heap.size w a3 fs) (h4 : RowsIn w.heap.size w a4 l)
    (n1 : ks.length ≤ 1000000) (n2 : cs.length ≤ 1000000) (n4 : l.length ≤ 1000000) :
    Calls Try.prog 17 #[rulesVal a1 a2 a3 a4 ks.length c1 cs.length c2 fs.length c3 l.length c4] w fun e w' => e = .returned (.int .i64 (rulesE ks cs fs l)) ∧ Below w.heap.size w w' := by
  obtain ⟨W0, hW0⟩ : ∃ W, W = w.alloc (.cells #[.slice a1 ks.length c1, .slice a2 cs.length c2, .slice a3 fs.length c3, .slice a4 l.length c4] 25) := ⟨_, rfl⟩
  have hb0 : Below w.heap.size w W0 := by rw [hW0]; exact lit16 w _
  have k0 := heap_alloc_new w (.cells #[.slice a1 ks.length c1, .slice a2 cs.length c2, .slice a3 fs.length c3, .slice a4 l.length c4] 25)
  rw [← hW0] at k0
  have HB0 := Lib.hid hb0
  have HS : Hid (∀ V, Below W0.heap.size W0 V → V.cell? ⟨w.heap.size, 0, none⟩ = some (.slice a1 ks.length c1) ∧ V.cell? ⟨w.heap.size, 1, none⟩ = some (.slice a2 cs.length c2) ∧ V.cell? ⟨w.heap.size, 2, none⟩ = some (.slice a3 fs.length c3) ∧ V.cell? ⟨w.heap.size, 3, none⟩ = some (.slice a4 l.length c4)) := Lib.hid fun V hV => by
    have k1 := old_obj hV k0
    exact ⟨cell_of (j := 0) k1 rfl, cell_of (j := 1) k1 rfl, cell_of (j := 2) k1 rfl, cell_of (j := 3) k1 rfl⟩
  have HG : Hid (∀ V, Below W0.heap.size W0 V → Calls Try.prog 9 #[.slice a4 l.length c4] V fun e w' => e = .returned (.tuple #[factVal (gapF l), .bool (gapB l)]) ∧ Below V.heap.size V w') := Lib.hid fun V h => rgap19_any a4 c4 l V (rowsIn_step (rowsIn_step h4 hb0) h) n4
  have HQ : Hid (∀ V, Below W0.heap.size W0 V → Calls Try.prog 34 #[.slice a1 ks.length c1] V fun e w' => e = .returned (.int .i64 (asksE ks)) ∧ Below V.heap.size V w') := Lib.hid fun V h => (rcheck16_any a1 c1 ks _ V ((h1.below (hb0.trans (h.mono hb0.size))).up (hb0.trans (h.mono hb0.size)).size) n1).mono (by rintro e w' ⟨rfl, m, rfl⟩; exact ⟨rfl, drawn_below (Below.refl _ _) m⟩)
  have HC : Hid (∀ V, Below W0.heap.size W0 V → Calls Try.prog 35 #[.slice a2 cs.length c2] V fun e w' => e = .returned (.int .i64 (cutsE cs)) ∧ Below V.heap.size V w') := Lib.hid fun V h => (rcheck17_any a2 c2 cs _ V ((h2.below (hb0.trans (h.mono hb0.size))).up (hb0.trans (h.mono hb0.size)).size) n2).mono (by rintro e w' ⟨rfl, m, rfl⟩; exact ⟨rfl, drawn_below (Below.refl _ _) m⟩)
  have HF : Hid (∀ V, Below W0.heap.size W0 V → Calls Try.prog 36 #[.slice a3 fs.length c3] V fun e w' => e = .returned (.int .i64 (checkE fs)) ∧ Below V.heap.size V w') := Lib.hid fun V h => (rcheck04_any a3 c3 fs V ((h3.below (hb0.trans (h.mono hb0.size))).up (hb0.trans (h.mono hb0.size)).size)).mono (by rintro e w' ⟨rfl, m, rfl⟩; exact ⟨rfl, drawn_below (Below.refl _ _) m⟩)
  have HE : Hid (∀ x, rulesB ks cs fs l = x → rulesE ks cs fs l = if x = true then 36 else 0) := Lib.hid fun x h => by unfold rulesE; rw [h]
  have HB : Hid (rulesB ks cs fs l = (asksE ks != 0 || cutsE cs != 0 || checkE fs != 0 || gapB l)) := Lib.hid rfl
  have ha := asks_two ks
  have hc := cuts_two cs
  have hf := check_two fs
  clear h1 h2 h3 h4 hb0 k0
  unfold rulesVal
  generalize rulesE ks cs fs l = E at *
  generalize rulesB ks cs fs l = B at *
  generalize asksE ks = x1 at *
  generalize cutsE cs = x2 at *
  generalize checkE fs = x3 at *
  generalize gapB l = gp at *
  go_enter Try.func17, Try.ntmps17
  go_upto_region 1 with fail
  rw [← hW0]
  clear hW0
  obtain ⟨p0, p1, p2, p3⟩ := HS.out _ (Below.refl _ _)
  go_upto_region 2 with (go_at_call 9; refine (HG.out _ (Below.refl _ _)).mono ?_; rintro e w1 ⟨rfl, hb⟩; have B1 := Lib.hid hb; clear hb)
  have b2 := B1.out.trans ((lit16 w1 (.cells #[.int .i64 (gapF l).g, .bool (gapF l).v, .int .i64 (gapF l).n] 31)).mono B1.out.size)
  obtain ⟨W2, hW2⟩ : ∃ W, W = w1.alloc (.cells #[.int .i64 (gapF l).g, .bool (gapF l).v, .int .i64 (gapF l).n] 31) := ⟨_, rfl⟩
  rw [← hW2] at b2 ⊢
  clear hW2 p0 p1 p2 p3
  obtain ⟨p0, p1, p2, p3⟩ := HS.out _ b2
  have BX := Lib.hid b2
  have HV := Lib.hid (HE.out _ HB.out)
  clear b2 HE HB HG
  generalize gapF l = GF at *
  rcases ha with rfl | rfl <;> rcases hc with rfl | rfl <;> rcases hf with rfl | rfl <;> cases gp
  all_goals
    go_wp2_with (first
      | (go_at_call 34; refine (HQ.out _ BX.out).mono ?_; rintro e w5 ⟨rfl, hb⟩; have BY := Lib.hid (BX.out.trans (hb.mono BX.out.size)); clear BX hb; have BX := BY; clear BY; obtain ⟨p0, p1, p2, p3⟩ := HS.out _ BX.out)
      | (go_at_call 35; refine (HC.out _ BX.out).mono ?_; rintro e w6 ⟨rfl, hb⟩; have BY := Lib.hid (BX.out.trans (hb.mono BX.out.size)); clear BX hb; have BX := BY; clear BY; obtain ⟨p0, p1, p2, p3⟩ := HS.out _ BX.out)
      | (go_at_call 36; refine (HF.out _ BX.out).mono ?_; rintro e w7 ⟨rfl, hb⟩; have BY := Lib.hid (BX.out.trans (hb.mono BX.out.size)); clear BX hb; have BX := BY; clear BY; obtain ⟨p0, p1, p2, p3⟩ := HS.out _ BX.out))
    go_ret
    exact ⟨by rw [HV.out]; rfl, HB0.out.trans (BX.out.mono HB0.out.size)⟩
end Go.Proofs.Ytifihejogbcbgaa
