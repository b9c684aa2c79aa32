/- The library's Repeat, of a slice of one number, and the functions that tell the least and the greatest of a row. -/
import Derived.Test.YtmdonhkdkapjpaaPlace
import Derived.Test.YtmdonhkdkapjpaaShelf
import Derived.Laws.CopyOwn
import Derived.StillTailTactics
import Derived.Deep.RegionLaw
namespace Go.Proofs.Ytmdonhkdkapjpaa
open Go.RowKit

/-- k cells of x, then zeros. -/
def filled (x : Int) (n k : Nat) : List Value := List.replicate k (.int .i64 x) ++ List.replicate (n - k) (.int .i64 0)
theorem filled_len (x : Int) {n k : Nat} (h : k ≤ n) : (filled x n k).length = n := by unfold filled; simp; omega
theorem filled_at (x : Int) {n k j : Nat} (h : j < k) : (filled x n k)[j]? = some (.int .i64 x) := by
  unfold filled
  rw [List.getElem?_append_left (by simp; exact h)]
  simp [h]
theorem filled_more (x : Int) {n k c : Nat} (h : k + c ≤ n) : splice (filled x n k) k (List.replicate c (.int .i64 x)) = filled x n (k + c) := by
  unfold splice filled
  rw [List.take_append_of_le_length (by simp), List.take_of_length_le (by simp), List.drop_append]
  simp only [List.length_replicate, List.drop_replicate]
  rw [show k - (k + c) = 0 by omega, show n - k - (k + c - k) = n - (k + c) by omega, List.replicate_zero, List.nil_append, ← List.append_assoc, List.replicate_append_replicate]
theorem filled_all (x : Int) (n : Nat) : filled x n n = intCells (List.replicate n x) := by
  unfold filled intCells
  rw [Nat.sub_self, List.replicate_zero, List.append_nil, List.map_replicate]
theorem filled_none (x : Int) (n : Nat) : intCells (List.replicate n 0) = filled x n 0 := by
  unfold filled intCells
  rw [Nat.sub_zero, List.replicate_zero, List.nil_append, List.map_replicate]
/-- A row that a call made whole, as its block holds it. -/
theorem row_block {w : World} {B g n : Nat} {l : List Value} (h : w.ownsRow B 3 1 (.slice (some ⟨g, 0, none⟩) n n) n l) : B ≤ g ∧ w.heap[g]? = some (.cells l.toArray 3 (0, 0)) := by
  rcases h.2 with ⟨h1, _⟩ | ⟨g', cap, cur, h1, h2, h3, _, _, h4, h5⟩
  · cases h1
  · cases h1
    refine ⟨h2, ?_⟩
    rw [h3, ← h5, List.take_of_length_le (by rw [Array.length_toList, h4]; omega)]
theorem block_row {w : World} {B g n : Nat} {l : List Value} (hB : B ≤ g) (hn : n ≤ maxLen) (hl : l.length = n) (h : w.heap[g]? = some (.cells l.toArray 3 (0, 0))) : w.ownsRow B 3 1 (.slice (some ⟨g, 0, none⟩) n n) n l :=
  ⟨by omega, Or.inr ⟨g, n, l.toArray, rfl, hB, h, Nat.le_refl _, hn, by simp; omega, by rw [List.take_of_length_le (by simp; omega)]⟩⟩

set_option maxRecDepth 100000 in
set_option maxHeartbeats 2000000 in
theorem repeat_any (b cap n : Nat) (x : Int) (w : World) (hb : b < w.heap.size) (h0 : w.cell? ⟨b, 0, none⟩ = some (.int .i64 x)) (h1 : 1 ≤ n) (hn : n ≤ 1000000) :
    Calls Try.prog 30 #[.slice (some ⟨b, 0, none⟩) 1 cap, .int .i64 n] w fun e w' => ∃ g, e = .returned (.slice (some ⟨g, 0, none⟩) n n) ∧ w'.ownsRow w.heap.size 3 1 (.slice (some ⟨g, 0, none⟩) n n) n (intCells (List.replicate n x)) ∧ Below w.heap.size w w' := by
  have HM : Hid (∀ v, Calls Try.prog 38 #[.int .u64 1, .int .u64 n] v fun e w' => e = .returned (.tuple #[.int .u64 0, .int .u64 n]) ∧ v = w') := Lib.hid fun v => by
    have h := Try.bits_Mul 1 n (by omega) (by omega) v
    rw [show 1 * n / 18446744073709551616 = 0 by omega, show 1 * n % 18446744073709551616 = n by omega] at h
    exact h.mono fun _ _ hh => ⟨hh.1, hh.2.symm⟩
  obtain ⟨i0, hi, hz0, hz1, hz2⟩ := info_parts infoInt
  have g1 : decide (9223372036854775807 < (n : Int)) = false := decide_eq_false (by omega)
  go_enter Try.func30, Try.ntmps30
  go_wp2_with (first | (go_at_call 38; refine (HM.out _).mono ?_; rintro e w1 ⟨rfl, rfl⟩) | (at_make; refine wpList_make_full _ rfl _ _ 22 rfl w.heap.size 3 i0 (.int .i64 0) 1 Try.underlying22 hi hz0 hz1 .i64 .i64 _ _ n rfl rfl rfl rfl (by rw [hz2]; omega) (by unfold maxLen; omega) (Nat.le_refl _) ?_))
  intro w1 hown hg
  rw [made_zero, filled_none x n] at hown
  obtain ⟨hB, hrow⟩ := row_block hown
  have hb1 : Below w.heap.size w w1 := (Below.refl _ w).grown hg (Nat.le_refl _) (by simp)
  have h01 := (hb1.cell (p := ⟨b, 0, none⟩) hb).trans h0
  have HR := Lib.hid hrow
  have HB1 := Lib.hid hb1
  clear hown hg hrow hb1
  have hn1 : (List.replicate 1 (Value.int .i64 x)).length = Nat.min 1 n := by rw [List.length_replicate]; exact (Nat.min_eq_left h1).symm
  have hs1 : ∀ j v, (List.replicate 1 (Value.int .i64 x))[j]? = some v → w1.cell? ((⟨b, 0, none⟩ : Addr).add j) = some v := by
    intro j v hj
    obtain ⟨hj1, hj2⟩ := List.getElem?_eq_some_iff.1 hj
    obtain rfl : j = 0 := by simp at hj1; omega
    simp at hj2
    subst hj2
    simpa [Addr.add] using h01
  have hf1 : 0 + (List.replicate 1 (Value.int .i64 x)).length ≤ (filled x n 0).length := by rw [filled_len x (Nat.zero_le n), List.length_replicate]; omega
  have ho1 : ∀ k, ∀ v ∈ List.replicate k (Value.int .i64 x), v.oneCell' = true := fun k v hv => by rw [List.eq_of_mem_replicate hv]; rfl
  go_wp2_with (refine wpList_copy_splice rfl _ _ 22 22 rfl 3 Try.underlying22 (by kernel_rfl) _ _ _ _ _ _ rfl rfl w.heap.size 0 (filled x n 0) 3 HR.out (List.replicate 1 (.int .i64 x)) hn1 (fun _ => ⟨rfl, _, rfl, hs1⟩) hf1 (ho1 1) w.heap.size w HB1.out (Nat.le_refl _) ?_)
  intro w2 hr2 hb2
  have HR2 : Hid (w2.heap[w.heap.size]? = some (.cells (filled x n 1).toArray 3 (0, 0))) := by
    have h3 := hr2.out
    have h4 := filled_more x (n := n) (k := 0) (c := 1) (by omega)
    rw [show List.replicate 1 (Value.int .i64 x) = [Value.int .i64 x] from rfl] at h4
    rw [h4] at h3
    exact Lib.hid h3
  have HB2 := Lib.hid hb2
  clear hr2 hb2 hn1 hs1 hf1 HR HB1 h01 h0
  go_wp2
  go_loopw [8] (fun k' wr => ∃ k : Nat, k' = .int .i64 k ∧ 1 ≤ k ∧ k ≤ n ∧ Hid (wr.heap[w.heap.size]? = some (.cells (filled x n k).toArray 3 (0, 0))) ∧ Hid (Below w.heap.size w wr)) (fun k _ => n - (intOf k).toNat)
  case atStart => exact ⟨1, by first | rfl | go_num, by omega, h1, HR2, HB2⟩
  case round =>
    clear HR2 HB2
    obtain ⟨k, rfl, hk1, hk2, hr, hbl⟩ := hrel
    by_cases hlt : k < n
    · obtain ⟨c, hc⟩ : ∃ c, Nat.min k (n - k) = c := ⟨_, rfl⟩
      have hc1 : 1 ≤ c ∧ c ≤ k ∧ k + c ≤ n := by
        have h4 : Nat.min k (n - k) = min k (n - k) := rfl
        omega
      have hnk : ¬ n = k := by omega
      have i1 : (k : Int) ≤ (n : Int) := by omega
      have i2 : (0 : Int) ≤ (k : Int) := by omega
      have hr' : wr.drew.heap[w.heap.size]? = some (.cells (filled x n k).toArray 3 (0, 0)) := hr.out
      have hlen : (List.replicate c (Value.int .i64 x)).length = Nat.min k (n - k) := by rw [List.length_replicate, hc]
      have hsrc : ∀ j v, (List.replicate c (Value.int .i64 x))[j]? = some v → wr.drew.cell? ((⟨w.heap.size, 0, none⟩ : Addr).add j) = some v := by
        intro j v hj
        obtain ⟨hj1, hj2⟩ := List.getElem?_eq_some_iff.1 hj
        rw [List.length_replicate] at hj1
        rw [List.getElem_replicate] at hj2
        subst hj2
        rw [Addr.add_lit, cell_of_row _ _ _ _ _ _ hr', Nat.zero_add]
        have := filled_at x (n := n) (k := k) (j := j) (by omega)
        simpa using this
      have hfit : k + (List.replicate c (Value.int .i64 x)).length ≤ (filled x n k).length := by rw [filled_len x hk2, List.length_replicate]; omega
      have HCP := Lib.hid hr'
      have HLN := Lib.hid hlen
      have HSC := Lib.hid hsrc
      have HFT := Lib.hid hfit
      have HO := Lib.hid (ho1 c)
      have HBd := Lib.hid hbl.out.drew
      have HF := Lib.hid (filled_more x (n := n) (k := k) (c := c) (by omega))
      have HZ : Hid ((List.replicate c (Value.int .i64 x)).length = c) := Lib.hid (List.length_replicate)
      clear hr' hlen hsrc hfit hr hbl hc
      generalize List.replicate c (Value.int .i64 x) = cs at HLN HSC HFT HO HF HZ
      go_upto_region 9 with fail
      go_region_law (refine step_copy_splice rfl (.tmp 41) (.tmp 44) 22 22 rfl 3 Try.underlying22 ?h0 (some ⟨w.heap.size, k, none⟩) (some ⟨w.heap.size, 0, none⟩) (n - k) (n - k) k n ?h1 ?h2 w.heap.size k (filled x n k) 3 ?h3 cs ?h4 ?h5 ?h6 ?h7 w.heap.size w ?h8 ?h9 ?h10; (case h1 => go_simp); (case h2 => go_simp); (case h0 => kernel_rfl);  (case h3 => exact HCP.out); (case h4 => exact HLN.out); (case h5 => exact fun _ => ⟨rfl, _, rfl, HSC.out⟩); (case h6 => exact HFT.out); (case h7 => exact HO.out); (case h8 => exact HBd.out); (case h9 => exact Nat.le_refl _); intro w4 hg4 hb4)
      have HR5 : Hid (w4.heap[w.heap.size]? = some (.cells (filled x n (k + c)).toArray 3 (0, 0))) := by
        have h3 := hg4.out
        rw [HF.out] at h3
        exact Lib.hid h3
      have HB5 := Lib.hid hb4
      have hz := HZ.out
      have hw : IntKind.i64.wrap ((k : Int) + (c : Int)) = ((k + c : Nat) : Int) := by rw [IntKind.wrap_i64]; omega
      rw [hz, hw]
      clear hz hw hg4 hb4 HCP HBd HLN HSC HFT HO HF HZ
      go_simp
      go_wp2
      go_roundw
      case rel => exact ⟨k + c, by first | rfl | go_num, by omega, by omega, HR5, HB5⟩
      case measure => simp [intOf]; omega
    · obtain rfl : k = n := by omega
      have HX : Hid (wr.ownsRow w.heap.size 3 1 (.slice (some ⟨w.heap.size, 0, none⟩) k k) k (intCells (List.replicate k x))) := by
        have h3 := hr.out
        rw [filled_all] at h3
        exact Lib.hid (block_row (Nat.le_refl _) (by unfold maxLen; omega) (by unfold intCells; simp) h3)
      go_wp2
      go_ret
      exact ⟨_, rfl, HX.out, hbl.out⟩

theorem min_low {l : List Int} {m : Int} (h : ∀ x ∈ l, x ≤ m → 0 ≤ x) (hm : 0 ≤ m) : 0 ≤ l.foldl min m := by
  induction l generalizing m with
  | nil => exact hm
  | cons x l ih =>
    refine ih (fun y hy hle => h y (List.mem_cons_of_mem _ hy) (by omega)) ?_
    rcases (by omega : x ≤ m ∨ m < x) with h1 | h1
    · have := h x (List.mem_cons_self ..) h1; omega
    · omega
end Go.Proofs.Ytmdonhkdkapjpaa
