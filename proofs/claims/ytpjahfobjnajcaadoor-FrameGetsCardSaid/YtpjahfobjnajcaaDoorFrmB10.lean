/- The program's sectors divided and joined, for every text, in every world. -/
import Derived.Test.YtpjahfobjnajcaaDoorFrmA10
namespace Go.Proofs.YtpjahfobjnajcaaDoor
open Go.RowKit

set_option maxRecDepth 100000 in
set_option maxHeartbeats 1000000 in
theorem divided_any (k : Nat) (hk : k ≤ 1000000) (L : List UInt8) (hL : L.length = 63 * k) (w : World) :
    Calls Tryd.prog 29 #[.string (tx L)] w fun e w' => e = .returned (.string (tx (chop 1 k L))) ∧ Below w.heap.size w w' := by
  have HK := Lib.hid hk
  have HLL := Lib.hid hL
  clear hk hL
  go_enter Tryd.func29, Tryd.ntmps29
  go_upto_region 3 with fail
  go_loopw [0, 4] (fun p' m' wr => ∃ (i : Nat) (r D : List UInt8) (h : UInt8), p' = .string (tx r) ∧ m' = .int .u8 h.toNat ∧ Hid (r.length = 63 * i ∧ i ≤ k ∧ D.length + 64 * i = 64 * k ∧ D ++ chop h i r = chop 1 k L) ∧ Lib.IsBuilderF 67 5 w.heap.size w.heap.size (Lib.byteCells D) wr ∧ Hid (Below w.heap.size w wr)) (fun p' _ _ => match p' with | .string t => t.size | _ => 0)
  case atStart =>
    refine ⟨k, L, [], 1, rfl, rfl, Lib.hid ⟨HLL.out, Nat.le_refl _, by simp, by simp⟩, ?_, Lib.hid ((Below.refl _ w).alloc (Nat.le_refl _) _)⟩
    exact Lib.IsBuilderF.of (Lib.fresh_isBuilder 67 5 w)
  case round =>
    obtain ⟨i, r, D, h, rfl, rfl, hr, hI, hb⟩ := hrel
    rcases Nat.eq_zero_or_pos i with h0 | h0
    · subst h0
      obtain ⟨h1, h2, h3, h4⟩ := hr.out
      obtain rfl : r = [] := List.length_eq_zero_iff.1 (by omega)
      have hD : D = chop 1 k L := by rw [← h4]; simp [chop]
      have hD' := Lib.hid hD
      have e2 : ((⟨#[]⟩ : ByteArray).toList == []) = true := by rw [ByteArray.toList_eq]; rfl
      rw [show tx [] = ⟨#[]⟩ from rfl]
      clear h1 h2 h3 h4 hr hD
      go_wp2_with (go_at_call 32; refine (Tryd.Builder_String_any_k w.heap.size w.heap.size D _ hI hb.out.size).mono ?_; rintro e w3 ⟨rfl, g1, b1, k1⟩)
      go_ret
      exact ⟨by rw [← hD'.out]; rfl, hb.out.trans b1⟩
    · obtain ⟨j, rfl⟩ : ∃ j, i = j + 1 := ⟨i - 1, by omega⟩
      obtain ⟨h1, h2, h3, h4⟩ := hr.out
      obtain ⟨T, hT⟩ : ∃ T, tx r = T := ⟨_, rfl⟩
      have hTl : T.data.toList = r := by rw [← hT, tx_list]
      have hTs : T.size = 63 * (j + 1) := by rw [← text_size, hTl, h1]
      have e2 : (T.toList == []) = false := by
        rw [beq_eq_false_iff_ne]
        intro h
        rw [ByteArray.toList_eq, hTl] at h
        rw [h] at h1
        simp at h1
      have hc1 := cut_to T (63 : Int) (by omega) (by omega)
      have hc2 := cut_from T (63 : Int) (by omega) (by omega)
      simp only [show (63 : Int).toNat = 63 from rfl] at hc1 hc2
      have hp1 : T.extract 0 63 = tx (r.take 63) := by
        apply tx_of
        rw [cut_list, hTl]
        simp
      have hp2 : T.extract 63 T.size = tx (r.drop 63) := by
        apply tx_of
        rw [cut_list, hTl, List.take_of_length_le (by rw [List.length_drop]; omega)]
      have hl1 : (r.take 63).length = 63 := by rw [List.length_take]; omega
      have hl2 : (r.drop 63).length = 63 * j := by rw [List.length_drop]; omega
      rw [hp1] at hc1
      rw [hp2] at hc2
      have hnew : (D ++ [h]) ++ r.take 63 ++ chop 2 j (r.drop 63) = chop 1 k L := by
        rw [← h4, divided_step]
        simp
      have hcell1 : Lib.byteCells D ++ [.int .u8 h.toNat] = Lib.byteCells (D ++ [h]) := by simp [Lib.byteCells]
      have hcell2 : Lib.byteCells (D ++ [h]) ++ Lib.byteCells (r.take 63) = Lib.byteCells (D ++ [h] ++ r.take 63) := by simp [Lib.byteCells]
      have hps : (tx (r.take 63)).size = 63 := by rw [tx_size, hl1]
      have hns : (tx (r.drop 63)).size = 63 * j := by rw [tx_size, hl2]
      have hln : D.length + 65 + 64 * j = 64 * k + 1 := by omega
      have HN := Lib.hid (And.intro hl2 (And.intro hl1 (And.intro hln (And.intro hnew (And.intro hcell1 (And.intro hcell2 (And.intro hps (And.intro hns (And.intro hTs h2)))))))))
      obtain ⟨P1, hP1⟩ : ∃ P1, tx (r.take 63) = P1 := ⟨_, rfl⟩
      obtain ⟨P2, hP2⟩ : ∃ P2, tx (r.drop 63) = P2 := ⟨_, rfl⟩
      rw [hP1] at hc1
      rw [hP2] at hc2
      have HP1 := Lib.hid hP1
      have HP2 := Lib.hid hP2
      have HT := Lib.hid hT
      rw [hT]
      clear hTl hTs hp1 hp2 hl1 hl2 hnew hcell1 hcell2 hps hns hln h1 h2 h3 h4 hr hP1 hP2 hT
      go_upto_region 6 with (go_at_call 44; refine (byte_written w.heap.size w.heap.size _ h.toNat wr hI (by rw [Lib.byteCells_length]; have := HN.out; have := HK.out; omega) hb.out.size).mono ?_; rintro e w3 ⟨rfl, g1, b1, k1⟩)
      rw [HN.out.2.2.2.2.1] at g1
      have B3 := Lib.hid (hb.out.trans b1)
      clear k1 b1 hI hb
      go_upto_region 7 with (go_at_call 31; refine (str_written w.heap.size w.heap.size _ P1 w3 (Or.inr g1) (by rw [Lib.byteCells_length, List.length_append, ← HP1.out]; have := HN.out; have := HK.out; simp only [List.length_cons, List.length_nil]; omega) (by rw [← HP1.out]; have := HN.out; omega) B3.out.size).mono ?_; rintro e w4 ⟨rfl, g2, b2⟩)
      rw [← HP1.out, tx_list, HN.out.2.2.2.2.2.1] at g2
      have B4 := Lib.hid (B3.out.trans b2)
      clear g1 b2 B3
      go_wp2
      go_roundw
      case rel =>
        refine ⟨j, r.drop 63, D ++ [h] ++ r.take 63, 2, by rw [HP2.out], rfl, Lib.hid ⟨HN.out.1, by have := HN.out; omega, ?_, HN.out.2.2.2.1⟩, g2, B4⟩
        rw [List.length_append, List.length_append, HN.out.2.1]
        have := HN.out
        simp only [List.length_cons, List.length_nil]
        omega
      case measure =>
        have := HN.out
        simp only [← HP2.out, ← HT.out]
        rw [HT.out]
        omega
end Go.Proofs.YtpjahfobjnajcaaDoor
