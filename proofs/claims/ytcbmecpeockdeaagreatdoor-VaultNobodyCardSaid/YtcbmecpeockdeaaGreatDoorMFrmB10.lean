/- The program's sectors divided and joined, for every text, in every world. -/
import Derived.Test.YtcbmecpeockdeaaGreatDoorFrmA10
namespace Go.Proofs.YtcbmecpeockdeaaGreatDoor
open Go.RowKit

set_option maxRecDepth 100000 in
set_option maxHeartbeats 1000000 in
theorem divided_any (k : Nat) (hk : k ≤ 1000000) (L : List UInt8) (hL : L.length = 63 * k) (w : World) :
    Calls Tryz.prog 74 #[.string (tx L)] w fun e w' => e = .returned (.string (tx (chop 1 k L))) ∧ Below w.heap.size w w' := by
  have HK := Lib.hid hk
  have HLL := Lib.hid hL
  clear hk hL
  go_enter Tryz.func74, Tryz.ntmps74
  go_upto_region 3 with fail
  go_loopw [0, 4] (fun p' m' wr => ∃ (i : Nat) (r D : List UInt8) (h : UInt8), p' = .string (tx r) ∧ m' = .int .u8 h.toNat ∧ Hid (r.length = 63 * i ∧ i ≤ k ∧ D.length + 64 * i = 64 * k ∧ D ++ chop h i r = chop 1 k L) ∧ Lib.IsBuilderF 135 5 w.heap.size w.heap.size (Lib.byteCells D) wr ∧ Hid (Below w.heap.size w wr)) (fun p' _ _ => match p' with | .string t => t.size | _ => 0)
  case atStart =>
    refine ⟨k, L, [], 1, rfl, rfl, Lib.hid ⟨HLL.out, Nat.le_refl _, by simp, by simp⟩, ?_, Lib.hid ((Below.refl _ w).alloc (Nat.le_refl _) _)⟩
    exact Lib.IsBuilderF.of (Lib.fresh_isBuilder 135 5 w)
  case round =>
    obtain ⟨i, r, D, h, rfl, rfl, hr, hI, hb⟩ := hrel
    rcases Nat.eq_zero_or_pos i with h0 | h0
    · subst h0
      obtain ⟨h1, h2, h3, h4⟩ := hr.out
      obtain rfl : r = [] := List.length_eq_zero_iff.1 (by omega)
      have hD : D = chop 1 k L := by rw [← h4]; simp [chop]
      have hD' := Lib.hid hD
      have e2 : ((⟨#[]⟩ : ByteArray).toList == []) = true := by rw [ByteArray.toList_eq]; rfl
      rw [show tx [] = ⟨#[]⟩ from rfl]
      clear h1 h2 h3 h4 hr hD
      go_wp2_with (go_at_call 86; refine (Tryz.Builder_String_any_k w.heap.size w.heap.size D _ hI hb.out.size).mono ?_; rintro e w3 ⟨rfl, g1, b1, k1⟩)
      go_ret
      exact ⟨by rw [← hD'.out]; rfl, hb.out.trans b1⟩
    · obtain ⟨j, rfl⟩ : ∃ j, i = j + 1 := ⟨i - 1, by omega⟩
      obtain ⟨h1, h2, h3, h4⟩ := hr.out
      obtain ⟨T, hT⟩ : ∃ T, tx r = T := ⟨_, rfl⟩
      have hTl : T.data.toList = r := by rw [← hT, tx_list]
      have hTs : T.size = 63 * (j + 1) := by rw [← text_size, hTl, h1]
      have e2 : (T.toList == []) = false := by
        rw [beq_eq_false_iff_ne]
        intro h
        rw [ByteArray.toList_eq, hTl] at h
        rw [h] at h1
        simp at h1
      have hc1 := cut_to T (63 : Int) (by omega) (by omega)
      have hc2 := cut_from T (63 : Int) (by omega) (by omega)
      simp only [show (63 : Int).toNat = 63 from rfl] at hc1 hc2
      have hp1 : T.extract 0 63 = tx (r.take 63) := by
        apply tx_of
        rw [cut_list, hTl]
        simp
      have hp2 : T.extract 63 T.size = tx (r.drop 63) := by
        apply tx_of
        rw [cut_list, hTl, List.take_of_length_le (by rw [List.length_drop]; omega)]
      have hl1 : (r.take 63).length = 63 := by rw [List.length_take]; omega
      have hl2 : (r.drop 63).length = 63 * j := by rw [List.length_drop]; omega
      rw [hp1] at hc1
      rw [hp2] at hc2
      have hnew : (D ++ [h]) ++ r.take 63 ++ chop 2 j (r.drop 63) = chop 1 k L := by
        rw [← h4, divided_step]
        simp
      have hcell1 : Lib.byteCells D ++ [.int .u8 h.toNat] = Lib.byteCells (D ++ [h]) := by simp [Lib.byteCells]
      have hcell2 : Lib.byteCells (D ++ [h]) ++ Lib.byteCells (r.take 63) = Lib.byteCells (D ++ [h] ++ r.take 63) := by simp [Lib.byteCells]
      have hps : (tx (r.take 63)).size = 63 := by rw [tx_size, hl1]
      have hns : (tx (r.drop 63)).size = 63 * j := by rw [tx_size, hl2]
      have hln : D.length + 65 + 64 * j = 64 * k + 1 := by omega
      have HN := Lib.hid (And.intro hl2 (And.intro hl1 (And.intro hln (And.intro hnew (And.intro hcell1 (And.intro hcell2 (And.intro hps (And.intro hns (And.intro hTs h2)))))))))
      obtain ⟨P1, hP1⟩ : ∃ P1, tx (r.take 63) = P1 := ⟨_, rfl⟩
      obtain ⟨P2, hP2⟩ : ∃ P2, tx (r.drop 63) = P2 := ⟨_, rfl⟩
      rw [hP1] at hc1
      rw [hP2] at hc2
      have HP1 := Lib.hid hP1
      have HP2 := Lib.hid hP2
      have HT := Lib.hid hT
      rw [hT]
      clear hTl hTs hp1 hp2 hl1 hl2 hnew hcell1 hcell2 hps hns hln h1 h2 h3 h4 hr hP1 hP2 hT
      go_upto_region 6 with (go_at_call 100; refine (byte_written w.heap.size w.heap.size _ h.toNat wr hI (by rw [Lib.byteCells_length]; have := HN.out; have := HK.out; omega) hb.out.size).mono ?_; rintro e w3 ⟨rfl, g1, b1, k1⟩)
      rw [HN.out.2.2.2.2.1] at g1
      have B3 := Lib.hid (hb.out.trans b1)
      clear k1 b1 hI hb
      go_upto_region 7 with (go_at_call 84; refine (str_written w.heap.size w.heap.size _ P1 w3 (Or.inr g1) (by rw [Lib.byteCells_length, List.length_append, ← HP1.out]; have := HN.out; have := HK.out; simp only [List.length_cons, List.length_nil]; omega) (by rw [← HP1.out]; have := HN.out; omega) B3.out.size).mono ?_; rintro e w4 ⟨rfl, g2, b2⟩)
      rw [← HP1.out, tx_list, HN.out.2.2.2.2.2.1] at g2
      have B4 := Lib.hid (B3.out.trans b2)
      clear g1 b2 B3
      go_wp2
      go_roundw
      case rel =>
        refine ⟨j, r.drop 63, D ++ [h] ++ r.take 63, 2, by rw [HP2.out], rfl, Lib.hid ⟨HN.out.1, by have := HN.out; omega, ?_, HN.out.2.2.2.1⟩, g2, B4⟩
        rw [List.length_append, List.length_append, HN.out.2.1]
        have := HN.out
        simp only [List.length_cons, List.length_nil]
        omega
      case measure =>
        have := HN.out
        simp only [← HP2.out, ← HT.out]
        rw [HT.out]
        omega
end Go.Proofs.YtcbmecpeockdeaaGreatDoor
namespace Go.Proofs.YtcbmecpeockdeaaGreatDoor
open Go.RowKit

def joinE (n : Nat) (r : List UInt8) : Int := if r.length < 64 * n then 4 else if ∃ i, i < n ∧ 1 ≤ i ∧ r.getD (64 * i) 0 ≠ 2 then 5 else 0
def joinL (n : Nat) (r : List UInt8) : List UInt8 := if joinE n r = 0 then join10 n r else []
theorem join_bad {n : Nat} {r : List UInt8} {e : Int} (h : joinE n r = e) (he : e ≠ 0) : joinL n r = [] := by unfold joinL; rw [h, if_neg he]
set_option maxRecDepth 100000 in
set_option maxHeartbeats 1000000 in
theorem joined_any (n : Nat) (hn : n ≤ 1000000) (s : ByteArray) (hs : s.size ≤ 281474976710656) (w : World) :
    Calls Tryz.prog 114 #[.string s, .int .i64 n] w fun e w' => e = .returned (.tuple #[.string (tx (joinL n s.data.toList)), .int .i64 (joinE n s.data.toList)]) ∧ Below w.heap.size w w' := by
  obtain ⟨m, hm⟩ : ∃ m, 64 * n = m := ⟨_, rfl⟩
  have i1 : IntKind.i64.wrap ((n : Int) * 64) = (m : Int) := by rw [show (n : Int) * 64 = (m : Int) by omega]; exact IntWalk.i64_in _ (by omega)
  have hz := text_size s
  obtain ⟨L, hL⟩ : ∃ L, s.data.toList = L := ⟨_, rfl⟩
  rw [hL] at hz ⊢
  by_cases q1 : s.size < m
  · have d1 : decide (s.size < m) = true := decide_eq_true q1
    have d1i : decide ((s.size : Int) < (m : Int)) = true := decide_eq_true (by omega)
    have hE : joinE n L = 4 := by unfold joinE; rw [if_pos (by omega)]
    have HR := Lib.hid (And.intro hE (join_bad hE (by omega)))
    clear q1 hE hz hL hm hn hs
    go_enter Tryz.func114, Tryz.ntmps114
    go_wp2
    go_ret2
    exact ⟨by rw [HR.out.1, HR.out.2]; rfl, Below.refl _ _⟩
  have d1 : decide (s.size < m) = false := decide_eq_false q1
  have d1i : decide ((s.size : Int) < (m : Int)) = false := decide_eq_false (by omega)
  have hEa : joinE n L = if ∃ i, i < n ∧ 1 ≤ i ∧ L.getD (64 * i) 0 ≠ 2 then 5 else 0 := by unfold joinE; rw [if_neg (by omega)]
  have HEA := Lib.hid hEa
  have HN := Lib.hid (And.intro hn (And.intro hs (And.intro hm (And.intro hz (And.intro hL q1)))))
  clear hn hs hm hz hL q1 hEa
  go_enter Tryz.func114, Tryz.ntmps114
  go_upto_region 5 with fail
  go_loopw [15] (fun i' wr => ∃ i : Nat, i' = .int .i64 i ∧ Hid (i ≤ n ∧ ∀ j, j < i → 1 ≤ j → L.getD (64 * j) 0 = 2) ∧ Lib.IsBuilderF 135 5 w.heap.size w.heap.size (Lib.byteCells (join10 i L)) wr ∧ Hid (Below w.heap.size w wr)) (fun i' _ => n - (intOf i').toNat)
  case atStart =>
    refine ⟨0, rfl, Lib.hid ⟨Nat.zero_le _, fun j h => absurd h (by omega)⟩, ?_, Lib.hid ((Below.refl _ w).alloc (Nat.le_refl _) _)⟩
    exact Lib.IsBuilderF.of (Lib.fresh_isBuilder 135 5 w)
  case round =>
    obtain ⟨i, rfl, hi, hI, hb⟩ := hrel
    obtain ⟨hn, hs, hm, hz, hL, q1⟩ := HN.out
    by_cases hlt : i < n
    · have d2 : decide (i < n) = true := decide_eq_true hlt
      have d2i : decide ((i : Int) < (n : Int)) = true := decide_eq_true (by omega)
      obtain ⟨x0, hx0⟩ : ∃ x0, 64 * i = x0 := ⟨_, rfl⟩
      obtain ⟨y, hy⟩ : ∃ y, i + 1 = y := ⟨_, rfl⟩
      obtain ⟨x1, hx1⟩ : ∃ x1, 64 * y = x1 := ⟨_, rfl⟩
      have a0 : IntKind.i64.wrap ((i : Int) * 64) = (x0 : Int) := by rw [show (i : Int) * 64 = (x0 : Int) by omega]; exact IntWalk.i64_in _ (by omega)
      have a1 : IntKind.i64.wrap ((i : Int) + 1) = (y : Int) := by rw [show (i : Int) + 1 = (y : Int) by omega]; exact IntWalk.i64_in _ (by omega)
      have a2 : IntKind.i64.wrap ((y : Int) * 64) = (x1 : Int) := by rw [show (y : Int) * 64 = (x1 : Int) by omega]; exact IntWalk.i64_in _ (by omega)
      have hc1 := cut_mid s (x0 : Int) (x1 : Int) (by omega) (by omega) (by omega)
      simp only [Int.toNat_natCast] at hc1
      obtain ⟨S, hS⟩ : ∃ S, s.extract x0 x1 = S := ⟨_, rfl⟩
      have hSl : S.data.toList = (L.drop (64 * i)).take 64 := by rw [← hS, cut_list, hL, hx0]; congr 1; omega
      have hSs : S.size = 64 := by rw [← text_size, hSl, List.length_take, List.length_drop]; omega
      have hc2 := cut_from S (1 : Int) (by omega) (by omega)
      simp only [show (1 : Int).toNat = 1 from rfl] at hc2
      have hP : S.extract 1 S.size = tx ((L.drop (64 * i + 1)).take 63) := by
        apply tx_of
        rw [cut_list, hSl, hSs, List.drop_take, List.take_take, List.drop_drop, Nat.min_self]
      rw [hS] at hc1
      have hPl : ((L.drop (64 * i + 1)).take 63).length = 63 := by rw [List.length_take, List.length_drop]; omega
      have hsn := join_snoc i L
      have hjl := join_len i L (by omega)
      have hcell : Lib.byteCells (join10 i L) ++ Lib.byteCells ((L.drop (64 * i + 1)).take 63) = Lib.byteCells (join10 (i + 1) L) := by rw [hsn]; simp [Lib.byteCells]
      have b0 : (0 : Nat) < S.size := by omega
      have b1 : (0 : Int) < (S.size : Int) := by omega
      have hS0 : (S[0]'b0).toNat = (L.getD (64 * i) 0).toNat := by
        have h1 : S.data.toList[0]? = L[64 * i]? := by rw [hSl, List.getElem?_take_of_lt (by omega), List.getElem?_drop, Nat.add_zero]
        have h2 : S.data.toList[0]? = some (S[0]'b0) := by rw [List.getElem?_eq_getElem (by rw [text_size]; omega)]; rfl
        rw [List.getD_eq_getElem?_getD, ← h1, h2]
        rfl
      obtain ⟨P, hPP⟩ : ∃ P, S.extract 1 S.size = P := ⟨_, rfl⟩
      rw [hPP] at hc2
      have hPe : P = tx ((L.drop (64 * i + 1)).take 63) := by rw [← hPP, hP]
      have HP := Lib.hid (And.intro hPe (And.intro hPl (And.intro hcell hjl)))
      rcases Nat.eq_zero_or_pos i with hi0 | hi0
      · have d3 : decide (0 < i) = false := decide_eq_false (by omega)
        have d3i : decide ((0 : Int) < (i : Int)) = false := decide_eq_false (by omega)
        have HY := Lib.hid (And.intro hy (And.intro hi0 hlt))
        clear hn hs hm hz hL q1 hlt hx0 hy hx1 hS hSl hP hPl hsn hjl hcell hS0 hPP hPe hi0 hSs
        go_upto_region 11 with (go_at_call 84; refine (str_written w.heap.size w.heap.size _ P wr hI (by rw [Lib.byteCells_length, HP.out.2.2.2, HP.out.1, tx_size, HP.out.2.1]; have := HN.out; have := HY.out; omega) (by rw [HP.out.1, tx_size, HP.out.2.1]; omega) hb.out.size).mono ?_; rintro e w4 ⟨rfl, g2, b2⟩)
        rw [HP.out.1, tx_list, HP.out.2.2.1] at g2
        have B4 := Lib.hid (hb.out.trans b2)
        clear b2 hI hb
        go_wp2
        go_roundw
        case rel => exact ⟨i + 1, by rw [HY.out.1], Lib.hid ⟨by have := HY.out; omega, fun j h1 h2 => by have := HY.out; omega⟩, g2, B4⟩
        case measure => have := HY.out; simp [intOf]; omega
      · have d3 : decide (0 < i) = true := decide_eq_true (by omega)
        have d3i : decide ((0 : Int) < (i : Int)) = true := decide_eq_true (by omega)
        by_cases q9 : L.getD (64 * i) 0 ≠ 2
        · have e9 : (((S[0]'b0).toNat : Int) != 2) = true := by
            rw [bne_iff_ne, hS0]
            intro h
            exact q9 (UInt8.toNat_inj.1 (by rw [show (2 : UInt8).toNat = 2 from rfl]; omega))
          have hE : joinE n L = 5 := by rw [HEA.out, if_pos ⟨i, hlt, hi0, q9⟩]
          have HR := Lib.hid (And.intro hE (join_bad hE (by omega)))
          clear hn hs hm hz hL q1 hlt hx0 hy hx1 hS hSl hP hPl hsn hjl hcell hS0 hPP hPe hi0 hSs q9 hE
          go_wp2
          go_ret2
          exact ⟨by rw [HR.out.1, HR.out.2]; rfl, hb.out⟩
        · have q9 := Decidable.not_not.1 q9
          have e9 : (((S[0]'b0).toNat : Int) != 2) = false := by
            rw [bne_eq_false_iff_eq, hS0, q9]
            rfl
          have HY := Lib.hid (And.intro hy (And.intro hi0 (And.intro hlt q9)))
          clear hn hs hm hz hL q1 hlt hx0 hy hx1 hS hSl hP hPl hsn hjl hcell hS0 hPP hPe hi0 hSs q9
          go_upto_region 11 with (go_at_call 84; refine (str_written w.heap.size w.heap.size _ P wr hI (by rw [Lib.byteCells_length, HP.out.2.2.2, HP.out.1, tx_size, HP.out.2.1]; have := HN.out; have := HY.out; omega) (by rw [HP.out.1, tx_size, HP.out.2.1]; omega) hb.out.size).mono ?_; rintro e w4 ⟨rfl, g2, b2⟩)
          rw [HP.out.1, tx_list, HP.out.2.2.1] at g2
          have B4 := Lib.hid (hb.out.trans b2)
          clear b2 hI hb
          go_wp2
          go_roundw
          case rel =>
            exact ⟨i + 1, by rw [HY.out.1], Lib.hid ⟨by have := HY.out; omega, fun j h1 h2 => by
              rcases (by omega : j < i ∨ j = i) with g | g
              · exact hi.out.2 j g h2
              · rw [g]; exact HY.out.2.2.2⟩, g2, B4⟩
          case measure => have := HY.out; simp [intOf]; omega
    · obtain rfl : i = n := by have := hi.out; omega
      have d2 : decide (i < i) = false := decide_eq_false (by omega)
      have d2i : decide ((i : Int) < (i : Int)) = false := decide_eq_false (by omega)
      have hE : joinE i L = 0 := by
        rw [HEA.out, if_neg]
        rintro ⟨j, h1, h2, h3⟩
        exact h3 (hi.out.2 j h1 h2)
      have HR := Lib.hid (And.intro hE (show joinL i L = join10 i L by unfold joinL; rw [if_pos hE]))
      clear hn hs hm hz hL q1 hlt hE
      go_wp2_with (go_at_call 86; refine (Tryz.Builder_String_any_k w.heap.size w.heap.size _ _ hI hb.out.size).mono ?_; rintro e w3 ⟨rfl, g1, b1, k1⟩)
      go_ret2
      exact ⟨by rw [HR.out.1, HR.out.2]; rfl, hb.out.trans b1⟩
end Go.Proofs.YtcbmecpeockdeaaGreatDoor
