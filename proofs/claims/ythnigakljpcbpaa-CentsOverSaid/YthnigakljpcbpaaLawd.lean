/- The walk of the law CentsOver: it returns true in every world and leaves what lay there. -/
import Derived.Test.YthnigakljpcbpaaLawc
namespace Go.Proofs.Ythnigakljpcbpaa
open Go.RowKit

theorem add_shut (a : Option Addr) (cap : Nat) (xs : List Int) (w : World) (hn : xs.length ≤ 4611686018427387904) (ht : Ints w.heap.size w a xs) :
    Calls Try.prog 8 #[.slice a xs.length cap] w fun e w' => ∃ (n f : Int), e = .returned (.tuple #[.int .i64 n, .int .i64 f]) ∧ Hid (n = addV xs ∧ f = addE xs) ∧ Below w.heap.size w w' :=
  (cadd_any a cap xs w hn ht).mono fun _ _ ⟨he, hb⟩ => ⟨_, _, he, Lib.hid ⟨rfl, rfl⟩, hb⟩
theorem sub_shut (a b : Int) (_ : (Lit.int .i64 a).wf = true) (_ : (Lit.int .i64 b).wf = true) (w : World) : Calls Try.prog 10 #[.int .i64 a, .int .i64 b] w fun e w' => ∃ (p f : Int), e = .returned (.tuple #[.int .i64 p, .int .i64 f]) ∧ Hid (p = subV a b ∧ f = subE a b) ∧ Below w.heap.size w w' :=
  (csub_any a b w).mono fun _ _ ⟨he, hb⟩ => ⟨_, _, he, Lib.hid ⟨rfl, rfl⟩, hb⟩

/-- What the loop that turns the row round knows at a round's head. -/
def OverAt (xs : List Int) (w : World) (lo v i : Value) (wr : World) : Prop :=
  ∃ m u : Int, lo = .int .i64 m ∧ i = .int .i64 u ∧ -1 ≤ u ∧ u < xs.length ∧ m ≤ 0 ∧ (∀ t : Nat, (u + 1).toNat ≤ t → t < xs.length → m ≤ numAt xs t) ∧
    wr.ownsRow w.heap.size 3 1 v (xs.length - (u + 1).toNat) (intCells (xs.drop (u + 1).toNat).reverse) ∧ Below w.heap.size w wr

theorem over_row (xs : List Int) (n : Nat) (hn : n < xs.length) {w : World} {B : Nat} {v : Value} (h : w.ownsRow B 3 1 v (xs.length - (n + 1) + 1) (intCells (xs.drop (n + 1)).reverse ++ [.int .i64 (numAt xs n)])) :
    w.ownsRow B 3 1 v (xs.length - ((n : Int) - 1 + 1).toNat) (intCells (xs.drop ((n : Int) - 1 + 1).toNat).reverse) := by
  have e2 : ((n : Int) - 1 + 1).toNat = n := by omega
  rw [e2, drop_at xs n hn, List.reverse_cons, show xs.length - n = xs.length - (n + 1) + 1 from by omega]
  unfold intCells at h ⊢
  rw [List.map_append]
  exact h

set_option maxRecDepth 100000 in
set_option maxHeartbeats 8000000 in
theorem over_some (w : World) (b off cap : Nat) (xs : List Int) (hB : b < w.heap.size) (hc : ∀ j, j < xs.length → w.cell? ⟨b, off + j, none⟩ = some (.int .i64 (numAt xs j))) (hw : ∀ n ∈ xs, (Lit.int .i64 n).wf = true) (hl : xs.length ≤ 1000) (k : Int) (wk : (Lit.int .i64 k).wf = true) :
    Calls Try.prog 5 #[.slice (some ⟨b, off, none⟩) xs.length cap, .int .i64 k] w fun e w' => e = .returned (.bool true) ∧ Below w.heap.size w w' := by
  have hb := Below.refl w.heap.size w
  have ht : Ints w.heap.size w (some ⟨b, off, none⟩) xs := Or.inr ⟨b, off, rfl, hB, hc⟩
  have HT := Lib.hid ht
  have HC := Lib.hid hc
  have WK := Lib.hid wk
  have HW := Lib.hid hw
  clear hc ht wk hw
  go_enter Try.func5, Try.ntmps5
  go_wp2_with fail
  refine (add_shut _ _ _ _ (by omega) HT.out).mono ?_
  rintro e w1 ⟨sum, f, rfl, hs, b1⟩
  replace hb := hb.trans (b1.mono hb.size)
  rcases add_none_or xs with g | ⟨g1, g2⟩
  · obtain rfl : f = 0 := by rw [hs.out.2, g]
    have G := Lib.hid g
    clear g
    go_wp2_with fail
    go_loopw [7, 8, 9] (fun lo v i wr => OverAt xs w lo v i wr) (fun _ _ i _ => (intOf i + 1).toNat)
    case atStart =>
      refine ⟨0, (xs.length : Int) - 1, rfl, rfl, by omega, by omega, by omega, fun t h1 h2 => absurd h1 (by omega), ?_, hb⟩
      rw [show ((xs.length : Int) - 1 + 1).toNat = xs.length from by omega, List.drop_length, Nat.sub_self]
      exact World.ownsRow_nil _ _ _ _
    case round =>
      obtain ⟨m, u, rfl, rfl, hu1, hu2, hm1, hlow, hown, hbw⟩ := hrel
      have HL := Lib.hid hlow
      clear hlow
      by_cases hu : 0 ≤ u
      · obtain ⟨n, rfl⟩ : ∃ n : Nat, u = n := ⟨u.toNat, by omega⟩
        have hcell : wr.cell? ⟨b, off + n, none⟩ = some (.int .i64 (numAt xs n)) := (hbw.cell (p := ⟨b, off + n, none⟩) hB).trans (HC.out n (by omega))
        have Hw := Lib.hid hbw
        rcases (by omega : numAt xs n < m ∨ m ≤ numAt xs n) with hlt | hlt
        · have hmin : min m (numAt xs n) = numAt xs n := by omega
          go_wp2_with (at_builtin; refine append_int rfl _ _ rfl w.heap.size _ _ _ rfl hown _ rfl (by omega) Hw.out.size ?_)
          intro v' w2 hown' hgrow
          go_wp2_with fail
          go_roundw
          case rel =>
            refine ⟨numAt xs n, (n : Int) - 1, rfl, rfl, by omega, by omega, by omega, fun t h1 h2 => ?_, over_row xs n (by omega) hown', (Hw.out.alloc Hw.out.size _).grown hgrow (by have := Hw.out.size; simp; omega) (fun g hg => (hown.lt g hg).1)⟩
            rcases (by omega : t = n ∨ n + 1 ≤ t) with rfl | h3
            · exact Int.le_refl _
            · have := HL.out t (by omega) h2; omega
          case measure => simp [intOf]
        · have hmin : min m (numAt xs n) = m := by omega
          go_wp2_with (at_builtin; refine append_int rfl _ _ rfl w.heap.size _ _ _ rfl hown _ rfl (by omega) Hw.out.size ?_)
          intro v' w2 hown' hgrow
          go_wp2_with fail
          go_roundw
          case rel =>
            refine ⟨m, (n : Int) - 1, rfl, rfl, by omega, by omega, by omega, fun t h1 h2 => ?_, over_row xs n (by omega) hown', (Hw.out.alloc Hw.out.size _).grown hgrow (by have := Hw.out.size; simp; omega) (fun g hg => (hown.lt g hg).1)⟩
            rcases (by omega : t = n ∨ n + 1 ≤ t) with rfl | h3
            · exact hlt
            · exact HL.out t (by omega) h2
          case measure => simp [intOf]
      · obtain rfl : u = -1 := by omega
        have hz : ((-1 : Int) + 1).toNat = 0 := rfl
        rw [hz, List.drop_zero, Nat.sub_zero] at hown
        obtain ⟨ys, hys⟩ : ∃ ys : List Int, ys = xs.reverse := ⟨_, rfl⟩
        have hlen : ys.length = xs.length := by rw [hys]; exact List.length_reverse
        rw [← hys, ← hlen] at hown
        have Hys := Lib.hid hys
        obtain ⟨ra, rc, rfl, hrt⟩ := ints_own hown
        have Hrt := Lib.hid hrt
        have Hlen := Lib.hid hlen
        have hlow2 : Hid (∀ t : Nat, t < xs.length → m ≤ numAt xs t) := Lib.hid fun t h => HL.out t (by omega) h
        have Hin := Lib.hid (add_okay G.out).2
        replace hb := hbw
        clear hz hlen hu hu1 hu2 hrt hown hys
        go_wp2_with fail
        refine (add_shut _ _ ys _ (by rw [Hlen.out]; omega) Hrt.out).mono ?_
        rintro e w2 ⟨other, f2, rfl, hs2, b2⟩
        replace hb := hb.trans (b2.mono hb.size)
        have hinS : inB sum = true := by rw [hs.out.1]; exact Hin.out
        have hfine : m < 0 ∨ (0 ≤ m ∧ sum = other ∧ f2 = 0) := by
          rcases (by omega : m < 0 ∨ 0 ≤ m) with h | h
          · exact Or.inl h
          · have hall : ∀ x ∈ xs, 0 ≤ x := by
              intro x hx
              obtain ⟨t, ht1, ht2⟩ := List.getElem_of_mem hx
              have := hlow2.out t ht1
              unfold numAt at this
              rw [List.getD_eq_getElem?_getD, List.getElem?_eq_getElem ht1] at this
              simp only [Option.getD_some, ht2] at this
              omega
            have ht := add_turned G.out hall
            exact Or.inr ⟨h, by rw [hs2.out.1, hs.out.1, Hys.out, ht.1], by rw [hs2.out.2, Hys.out, ht.2]⟩
        have HI := Lib.hid hinS
        obtain ⟨hs1, hs3⟩ := (inB_iff sum).1 hinS
        have HS : Hid ((Lit.int .i64 sum).wf = true) := Lib.hid (WalkArith.wf_i64 (by omega))
        rcases hfine with hm | ⟨hm, rfl, rfl⟩
        · by_cases hin : 0 ≤ k ∧ k < xs.length
          · obtain ⟨n, rfl⟩ : ∃ n : Nat, k = n := ⟨k.toNat, by omega⟩
            have hn : n < xs.length := by omega
            have hwn : Hid ((Lit.int .i64 (numAt xs n)).wf = true) := Lib.hid (HW.out (numAt xs n) (by
              unfold numAt
              rw [List.getD_eq_getElem?_getD, List.getElem?_eq_getElem hn]
              exact List.getElem_mem _))
            have hcell2 : w2.cell? ⟨b, off + n, none⟩ = some (.int .i64 (numAt xs n)) := (hb.cell (p := ⟨b, off + n, none⟩) hB).trans (HC.out n hn)
            clear hin
            go_wp2_with (go_at_call 14; refine (cin_any _ _).mono ?_; rintro e w8 ⟨rfl, rfl⟩)
            refine (sub_shut _ _ HS.out hwn.out _).mono ?_
            rintro e w3 ⟨less, g, rfl, h3, b3⟩
            replace hb := hb.trans (b3.mono hb.size)
            have hcell3 : w3.cell? ⟨b, off + n, none⟩ = some (.int .i64 (numAt xs n)) := (hb.cell (p := ⟨b, off + n, none⟩) hB).trans (HC.out n hn)
            go_wp2_with fail
            refine (add_shut _ _ [less, numAt xs n] _ (by simp) (ints_two _ _ _)).mono ?_
            rintro e w4 ⟨more, h, rfl, h4, b4⟩
            replace hb := (hb.alloc hb.size _).trans (b4.mono (hb.alloc hb.size _).size)
            rcases sub_two sum (numAt xs n) with g0 | g0
            · have hq := sub_back HI.out g0
              obtain rfl : g = 0 := by rw [h3.out.2, g0]
              obtain rfl : more = sum := by rw [h4.out.1, h3.out.1, hq.1]
              obtain rfl : h = 0 := by rw [h4.out.2, h3.out.1, hq.2]
              clear g0 hq
              go_wp2_with (go_at_call 7; refine (awake_any _).mono ?_; rintro e w9 ⟨rfl, b9⟩; replace hb := hb.trans (b9.mono hb.size))
              go_ret
              exact ⟨rfl, hb⟩
            · obtain rfl : g = 8 := by rw [h3.out.2, g0]
              clear g0
              go_wp2_with (go_at_call 7; refine (awake_any _).mono ?_; rintro e w9 ⟨rfl, b9⟩; replace hb := hb.trans (b9.mono hb.size))
              go_ret
              exact ⟨rfl, hb⟩
          · have hin' : k < 0 ∨ (xs.length : Int) ≤ k := by omega
            clear hin
            rcases hin' with hin' | hin'
            · go_wp2_with (first | (go_at_call 14; refine (cin_any _ _).mono ?_; rintro e w8 ⟨rfl, rfl⟩) | (go_at_call 7; refine (awake_any _).mono ?_; rintro e w9 ⟨rfl, b9⟩; replace hb := hb.trans (b9.mono hb.size)))
              go_ret
              exact ⟨rfl, hb⟩
            · go_wp2_with (first | (go_at_call 14; refine (cin_any _ _).mono ?_; rintro e w8 ⟨rfl, rfl⟩) | (go_at_call 7; refine (awake_any _).mono ?_; rintro e w9 ⟨rfl, b9⟩; replace hb := hb.trans (b9.mono hb.size)))
              go_ret
              exact ⟨rfl, hb⟩
        · by_cases hin : 0 ≤ k ∧ k < xs.length
          · obtain ⟨n, rfl⟩ : ∃ n : Nat, k = n := ⟨k.toNat, by omega⟩
            have hn : n < xs.length := by omega
            have hwn : Hid ((Lit.int .i64 (numAt xs n)).wf = true) := Lib.hid (HW.out (numAt xs n) (by
              unfold numAt
              rw [List.getD_eq_getElem?_getD, List.getElem?_eq_getElem hn]
              exact List.getElem_mem _))
            have hcell2 : w2.cell? ⟨b, off + n, none⟩ = some (.int .i64 (numAt xs n)) := (hb.cell (p := ⟨b, off + n, none⟩) hB).trans (HC.out n hn)
            clear hin
            go_wp2_with (go_at_call 14; refine (cin_any _ _).mono ?_; rintro e w8 ⟨rfl, rfl⟩)
            refine (sub_shut _ _ HS.out hwn.out _).mono ?_
            rintro e w3 ⟨less, g, rfl, h3, b3⟩
            replace hb := hb.trans (b3.mono hb.size)
            have hcell3 : w3.cell? ⟨b, off + n, none⟩ = some (.int .i64 (numAt xs n)) := (hb.cell (p := ⟨b, off + n, none⟩) hB).trans (HC.out n hn)
            go_wp2_with fail
            refine (add_shut _ _ [less, numAt xs n] _ (by simp) (ints_two _ _ _)).mono ?_
            rintro e w4 ⟨more, h, rfl, h4, b4⟩
            replace hb := (hb.alloc hb.size _).trans (b4.mono (hb.alloc hb.size _).size)
            rcases sub_two sum (numAt xs n) with g0 | g0
            · have hq := sub_back HI.out g0
              obtain rfl : g = 0 := by rw [h3.out.2, g0]
              obtain rfl : more = sum := by rw [h4.out.1, h3.out.1, hq.1]
              obtain rfl : h = 0 := by rw [h4.out.2, h3.out.1, hq.2]
              clear g0 hq
              go_wp2_with (go_at_call 7; refine (awake_any _).mono ?_; rintro e w9 ⟨rfl, b9⟩; replace hb := hb.trans (b9.mono hb.size))
              go_ret
              exact ⟨rfl, hb⟩
            · obtain rfl : g = 8 := by rw [h3.out.2, g0]
              clear g0
              go_wp2_with (go_at_call 7; refine (awake_any _).mono ?_; rintro e w9 ⟨rfl, b9⟩; replace hb := hb.trans (b9.mono hb.size))
              go_ret
              exact ⟨rfl, hb⟩
          · have hin' : k < 0 ∨ (xs.length : Int) ≤ k := by omega
            clear hin
            rcases hin' with hin' | hin'
            · go_wp2_with (first | (go_at_call 14; refine (cin_any _ _).mono ?_; rintro e w8 ⟨rfl, rfl⟩) | (go_at_call 7; refine (awake_any _).mono ?_; rintro e w9 ⟨rfl, b9⟩; replace hb := hb.trans (b9.mono hb.size)))
              go_ret
              exact ⟨rfl, hb⟩
            · go_wp2_with (first | (go_at_call 14; refine (cin_any _ _).mono ?_; rintro e w8 ⟨rfl, rfl⟩) | (go_at_call 7; refine (awake_any _).mono ?_; rintro e w9 ⟨rfl, b9⟩; replace hb := hb.trans (b9.mono hb.size)))
              go_ret
              exact ⟨rfl, hb⟩
  · obtain rfl : f = 8 := by rw [hs.out.2, g1]
    obtain rfl : sum = 0 := by rw [hs.out.1, g2]
    go_wp2_with (go_at_call 7; refine (awake_any _).mono ?_; rintro e w9 ⟨rfl, b9⟩; replace hb := hb.trans (b9.mono hb.size))
    go_ret
    exact ⟨rfl, hb⟩

set_option maxRecDepth 100000 in
set_option maxHeartbeats 4000000 in
theorem over_none (w : World) (a : Option Addr) (cap : Nat) (k : Int) :
    Calls Try.prog 5 #[.slice a 0 cap, .int .i64 k] w fun e w' => e = .returned (.bool true) ∧ Below w.heap.size w w' := by
  have hb := Below.refl w.heap.size w
  have hin' : k < 0 ∨ 0 ≤ k := by omega
  go_enter Try.func5, Try.ntmps5
  go_wp2_with fail
  refine (add_shut _ _ [] _ (by simp) (Or.inl rfl)).mono ?_
  rintro e w1 ⟨sum, f, rfl, hs, b1⟩
  replace hb := hb.trans (b1.mono hb.size)
  obtain rfl : sum = 0 := hs.out.1
  obtain rfl : f = 0 := hs.out.2
  go_wp2_with fail
  go_loopw [7, 8, 9] (fun lo v i wr => lo = .int .i64 0 ∧ v = .slice none 0 0 ∧ i = .int .i64 (-1) ∧ wr = w1) (fun _ _ _ _ => 0)
  case atStart => exact ⟨rfl, rfl, rfl, rfl⟩
  case round =>
    obtain ⟨rfl, rfl, rfl, rfl⟩ := hrel
    go_wp2_with fail
    refine (add_shut _ _ [] _ (by simp) (Or.inl rfl)).mono ?_
    rintro e w2 ⟨other, f2, rfl, hs2, b2⟩
    replace hb := hb.trans (b2.mono hb.size)
    obtain rfl : other = 0 := hs2.out.1
    obtain rfl : f2 = 0 := hs2.out.2
    have hi0 : inB 0 = true := by decide
    rcases hin' with hin' | hin'
    · go_wp2_with (first | (go_at_call 14; refine (cin_any _ _).mono ?_; rintro e w8 ⟨rfl, rfl⟩) | (go_at_call 7; refine (awake_any _).mono ?_; rintro e w9 ⟨rfl, b9⟩; replace hb := hb.trans (b9.mono hb.size)))
      go_ret
      exact ⟨rfl, hb⟩
    · go_wp2_with (first | (go_at_call 14; refine (cin_any _ _).mono ?_; rintro e w8 ⟨rfl, rfl⟩) | (go_at_call 7; refine (awake_any _).mono ?_; rintro e w9 ⟨rfl, b9⟩; replace hb := hb.trans (b9.mono hb.size)))
      go_ret
      exact ⟨rfl, hb⟩

set_option maxRecDepth 100000 in
theorem centsOver_walk (w : World) (s : Option Addr) (cap : Nat) (xs : List Int) (hm : xs.length ≤ maxLen) (ht : Ints w.heap.size w s xs) (hw : ∀ n ∈ xs, (Lit.int .i64 n).wf = true) (k : Int) (wk : (Lit.int .i64 k).wf = true) :
    Calls Try.prog 5 #[.slice s xs.length cap, .int .i64 k] w fun e w' => e = .returned (.bool true) ∧ Below w.heap.size w w' := by
  unfold maxLen at hm
  by_cases h : (1000 : Int) < (xs.length : Int)
  · have hb := Below.refl w.heap.size w
    go_enter Try.func5, Try.ntmps5
    go_wp2_with (go_at_call 7; refine (awake_any _).mono ?_; rintro e w9 ⟨rfl, b9⟩; replace hb := hb.trans (b9.mono hb.size))
    go_ret
    exact ⟨rfl, hb⟩
  · rcases ht with rfl | ⟨b, off, rfl, hB, hc⟩
    · exact over_none w s cap k
    · exact over_some w b off cap xs hB hc hw (by omega) k wk
end Go.Proofs.Ythnigakljpcbpaa
