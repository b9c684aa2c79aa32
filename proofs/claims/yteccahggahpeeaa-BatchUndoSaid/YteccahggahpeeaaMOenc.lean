/- The program's isWidth, fits and encode, for all numbers and rows, in every world. -/
import Derived.Test.YteccahggahpeeaaMBits5
import Derived.Test.YteccahggahpeeaaMCells
import Derived.Test.YteccahggahpeeaaMLeaf
namespace Go.Proofs.Yteccahggahpeeaa
open Go.RowKit

theorem oiswidth_any (x : Int) (w : World) : Calls Try.prog 90 #[.int .i64 x] w fun e w' => e = .returned (.bool (decide (wideW x))) ∧ w = w' := by
  by_cases h : wideW x
  · rw [decide_eq_true h]
    rcases h with rfl | rfl | rfl | rfl
    all_goals (go_enter Try.func90, Try.ntmps90; go_wp2; go_ret; exact ⟨rfl, rfl⟩)
  · rw [decide_eq_false h]
    unfold wideW at h
    have h1 : (x == 1) = false := by rw [beq_eq_false_iff_ne]; omega
    have h2 : (x == 2) = false := by rw [beq_eq_false_iff_ne]; omega
    have h4 : (x == 4) = false := by rw [beq_eq_false_iff_ne]; omega
    have h8 : (x == 8) = false := by rw [beq_eq_false_iff_ne]; omega
    clear h
    go_enter Try.func90, Try.ntmps90
    go_wp2
    go_ret
    exact ⟨rfl, rfl⟩

theorem put_fit {n x : Int} (hx : wideW x) (h0 : 0 ≤ n) (K : Int) (hK : (256 : Int) ^ x.toNat = K) (hpos : 0 < K) : (n / K == 0) = decide (putE n x = 0) := by
  unfold putE
  rw [if_pos hx, hK, Bool.eq_iff_iff, beq_iff_eq, decide_eq_true_iff]
  constructor
  · intro h
    have h2 := Int.lt_ediv_add_one_mul_self n hpos
    rw [h] at h2
    rw [if_pos ⟨h0, by omega⟩]
  · intro h
    by_cases h1 : 0 ≤ n ∧ n < K
    · exact Int.ediv_eq_zero_of_lt h0 h1.2
    · rw [if_neg h1] at h; omega
theorem ofits_any (n x : Int) (hx : wideW x) (hn : n ≤ 9223372036854775807) (w : World) : Calls Try.prog 91 #[.int .i64 n, .int .i64 x] w fun e w' => e = .returned (.bool (decide (putE n x = 0))) ∧ w = w' := by
  by_cases h0 : 0 ≤ n
  · have hu : IntKind.u64.wrap n = n := IntWalk.u64_in _ (by omega)
    rcases hx with rfl | rfl | rfl | rfl
    · have HE := Lib.hid (put_fit (n := n) (x := 1) (by unfold wideW; omega) h0 256 rfl (by omega))
      go_enter Try.func91, Try.ntmps91
      go_wp2
      go_ret
      exact ⟨by rw [← HE.out]; rfl, rfl⟩
    · have HE := Lib.hid (put_fit (n := n) (x := 2) (by unfold wideW; omega) h0 65536 rfl (by omega))
      go_enter Try.func91, Try.ntmps91
      go_wp2
      go_ret
      exact ⟨by rw [← HE.out]; rfl, rfl⟩
    · have HE := Lib.hid (put_fit (n := n) (x := 4) (by unfold wideW; omega) h0 4294967296 rfl (by omega))
      go_enter Try.func91, Try.ntmps91
      go_wp2
      go_ret
      exact ⟨by rw [← HE.out]; rfl, rfl⟩
    · have HE := Lib.hid (put_fit (n := n) (x := 8) (by unfold wideW; omega) h0 18446744073709551616 rfl (by omega))
      go_enter Try.func91, Try.ntmps91
      go_wp2
      go_ret
      exact ⟨by rw [← HE.out]; rfl, rfl⟩
  · have hd : decide (0 ≤ n) = false := decide_eq_false h0
    have HE : Hid (decide (putE n x = 0) = false) := Lib.hid (by
      rw [decide_eq_false_iff_not]
      unfold putE
      rw [if_pos hx, if_neg (fun h => h0 h.1)]
      decide)
    clear h0
    go_enter Try.func91, Try.ntmps91
    go_wp2
    go_ret
    exact ⟨by rw [HE.out]; rfl, rfl⟩
end Go.Proofs.Yteccahggahpeeaa
namespace Go.Proofs.Yteccahggahpeeaa
open Go.RowKit

theorem be_take (w n q : Nat) (h : q < w) : (be w n).take (q + 1) = (be w n).take q ++ [UInt8.ofNat (n / 256 ^ (w - 1 - q) % 256)] := by
  induction w generalizing n q with
  | zero => omega
  | succ w ih =>
    unfold be
    have hl := be_len w (n / 256)
    rcases (by omega : q < w ∨ q = w) with g | g
    · rw [List.take_append_of_le_length (by omega), List.take_append_of_le_length (by omega), ih _ _ g, Nat.div_div_eq_div_mul, show w + 1 - 1 - q = (w - 1 - q) + 1 by omega, Nat.pow_succ, Nat.mul_comm 256]
    · subst g
      rw [show q + 1 - 1 - q = 0 by omega, Nat.pow_zero, Nat.div_one, List.take_of_length_le (by simp; omega), List.take_append_of_le_length (by omega), List.take_of_length_le (by omega)]
def encE (x : Int) (l : List Int) : Int := if ∀ y ∈ l, putE y x = 0 then 0 else 8
def encL (x : Int) (l : List Int) : List UInt8 := if encE x l = 0 then flat x.toNat l else []

set_option maxHeartbeats 2000000 in
theorem oenc_some (b off cap : Nat) (x : Int) (l : List Int) (hw : wideW x) (hx : ∀ y ∈ l, y ≤ 9223372036854775807) (hl : l.length ≤ 1000) (w : World) (hB : b < w.heap.size) (hc : ∀ j, j < l.length → w.cell? ⟨b, off + j, none⟩ = some (.int .i64 (numAt l j))) :
    Calls Try.prog 68 #[.int .i64 x, .slice (some ⟨b, off, none⟩) l.length cap] w fun e w' => ∃ t : ByteArray, e = .returned (.tuple #[.string t, .int .i64 (encE x l)]) ∧ Hid (t.data.toList = encL x l) ∧ Below w.heap.size w w' := by
  obtain ⟨w1, w2, w3⟩ := wide_nat hw
  obtain ⟨X, hX⟩ : ∃ X : Nat, x = X := ⟨x.toNat, by omega⟩
  subst hX
  have HC := Lib.hid hc
  have HF : Hid (∀ (j : Nat) (v : World), j < l.length → Calls Try.prog 91 #[.int .i64 (numAt l j), .int .i64 (X : Int)] v fun e w' => e = .returned (.bool (decide (putE (numAt l j) X = 0))) ∧ v = w') :=
    Lib.hid fun j v hj => ofits_any (numAt l j) X hw (hx _ (num_mem l j hj)) v
  have HR8 : Hid (∀ j, j < l.length → putE (numAt l j) X ≠ 0 → encE X l = 8 ∧ encL X l = []) := Lib.hid fun j hj hne => by
    have h8 : encE X l = 8 := by
      unfold encE
      rw [if_neg (fun h => hne (h _ (num_mem l j hj)))]
    exact ⟨h8, by unfold encL; rw [if_neg (by omega)]⟩
  have HR0 : Hid ((∀ j, j < l.length → putE (numAt l j) X = 0) → encE X l = 0 ∧ encL X l = flat X l) := Lib.hid fun h => by
    have h0 : encE X l = 0 := by
      unfold encE
      rw [if_pos]
      intro y hy
      obtain ⟨j, hj, rfl⟩ := List.getElem_of_mem hy
      have := h j hj
      unfold numAt at this
      rw [List.getD_eq_getElem?_getD, List.getElem?_eq_getElem hj] at this
      exact this
    exact ⟨h0, by unfold encL; rw [if_pos h0, Int.toNat_natCast]⟩
  have HX : Hid (∀ j, j < l.length → numAt l j ≤ 9223372036854775807) := Lib.hid fun j hj => hx _ (num_mem l j hj)
  have HX : Hid (∀ j, j < l.length → numAt l j ≤ 9223372036854775807) := Lib.hid fun j hj => hx _ (num_mem l j hj)
  have HX : Hid (∀ j, j < l.length → numAt l j ≤ 9223372036854775807) := Lib.hid fun j hj => hx _ (num_mem l j hj)
  have X1 : 1 ≤ X := by omega
  have X8 : X ≤ 8 := by omega
  have HWX := Lib.hid hw
  clear hc hw hx w1 w2 w3
  go_enter Try.func68, Try.ntmps68
  go_wp2
  go_loopw [12] (fun i' wr => ∃ (k : Nat), i' = .int .i64 k ∧ k ≤ l.length ∧ Lib.IsBuilderF 90 5 w.heap.size w.heap.size (Lib.byteCells (flat X (l.take k))) wr ∧ Hid (∀ j, j < k → putE (numAt l j) X = 0) ∧ Hid (Below w.heap.size w wr)) (fun i _ => l.length - (intOf i).toNat)
  case atStart =>
    refine ⟨0, rfl, by omega, ?_, Lib.hid (fun j h => absurd h (by omega)), Lib.hid ((Below.refl _ w).alloc (Nat.le_refl _) _)⟩
    exact Lib.IsBuilderF.of (Lib.fresh_isBuilder 90 5 w)
  case round =>
    obtain ⟨k, rfl, hk, hI, ha, hb⟩ := hrel
    by_cases hlt : k < l.length
    · have hcell := (hb.out.cell (p := ⟨b, off + k, none⟩) hB).trans (HC.out k hlt)
      have HFk := Lib.hid (HF.out k wr hlt)
      have i1 : (k : Int) < (l.length : Int) := by omega
      by_cases he : putE (numAt l k) X = 0
      · rw [decide_eq_true he] at HFk
        have ha' : ∀ j, j < k + 1 → putE (numAt l j) X = 0 := fun j h => by
          rcases (by omega : j < k ∨ j = k) with g | g
          · exact ha.out j g
          · rw [g]; exact he
        have HA := Lib.hid ha'
        have n0 : 0 ≤ numAt l k := by
          unfold putE at he
          rw [if_pos HWX.out] at he
          by_cases h : 0 ≤ numAt l k ∧ numAt l k < (256 : Int) ^ (X : Int).toNat
          · exact h.1
          · rw [if_neg h] at he; omega
        have n1 := HX.out k hlt
        obtain ⟨n, hn⟩ : ∃ n : Nat, numAt l k = n := ⟨(numAt l k).toNat, by omega⟩
        rw [hn] at hcell HFk n0 n1
        have HN := Lib.hid hn
        obtain ⟨L, hL⟩ : ∃ L, flat X (l.take k) = L := ⟨_, rfl⟩
        rw [hL] at hI
        have hLl : L.length ≤ 8000 := by
          rw [← hL, flat_len, List.length_take, Nat.min_eq_left (by omega)]
          have h9 := Nat.mul_le_mul (show k ≤ 1000 by omega) (show X ≤ 8 by omega)
          omega
        have HL := Lib.hid hL
        have HBT : Hid (∀ q, q < X → (be X n).take (q + 1) = (be X n).take q ++ [UInt8.ofNat (n / 256 ^ (X - 1 - q) % 256)]) := Lib.hid fun q h => be_take X n q h
        clear ha' he hn hL
        go_upto_region 7 with (go_at_call 91; refine HFk.out.mono ?_; rintro e w2 ⟨rfl, rfl⟩)
        go_wp2
        go_loopw [9] (fun p' wq => ∃ (q : Nat) (z : Int), p' = .int .i64 z ∧ Hid (z = (X : Int) - 1 - (q : Int)) ∧ q ≤ X ∧ Lib.IsBuilderF 90 5 w.heap.size w.heap.size (Lib.byteCells (L ++ (be X n).take q)) wq ∧ Hid (Below w.heap.size w wq)) (fun p _ => ((intOf p) + 1).toNat)
        case atStart => exact ⟨0, _, rfl, Lib.hid (by omega), by omega, by simpa using hI, hb⟩
        case round =>
          obtain ⟨q, z, rfl, hz, hq, hIq, hbq⟩ := hrel
          by_cases hql : q < X
          · obtain ⟨m, hm⟩ : ∃ m : Nat, z = m := ⟨z.toNat, by have := hz.out; omega⟩
            subst hm
            have hm8 : m < 8 := by have := hz.out; omega
            have HM : Hid (X - 1 - q = m) := Lib.hid (by have := hz.out; omega)
            obtain ⟨c, hc⟩ : ∃ c : Int, (n : Int) / 2 ^ (8 * m) % 256 = c := ⟨_, rfl⟩
            have hcon : Hid (Lib.byteCells (L ++ (be X n).take q) ++ [Value.int .u8 c] = Lib.byteCells (L ++ (be X n).take (q + 1))) := Lib.hid (by
              rw [HBT.out q hql, HM.out, ← hc, ← List.append_assoc, Lib.byteCells_append]
              have e1 : (n : Int) / 2 ^ (8 * m) % 256 = ((n / 256 ^ m % 256 : Nat) : Int) := by
                rw [Int.natCast_emod, Int.natCast_ediv, Int.natCast_pow, Int.pow_mul]; rfl
              have e2 : (UInt8.ofNat (n / 256 ^ m % 256)).toNat = n / 256 ^ m % 256 := by rw [UInt8.toNat_ofNat']; omega
              rw [e1, Lib.byteCells_append, Lib.byteCells_append]
              simp [Lib.byteCells, e2])
            have hsz : (Lib.byteCells (L ++ (be X n).take q)).length + 1 ≤ 140737488355328 := by
              rw [Lib.byteCells_length, List.length_append, List.length_take, be_len]
              omega
            go_wp2_with (go_at_call 92; refine (byte_written w.heap.size w.heap.size _ c wr hIq hsz hbq.out.size).mono ?_; rintro e w3 ⟨rfl, h1, b1, k1⟩)
            go_roundw
            case rel => exact ⟨q + 1, _, rfl, Lib.hid (by have := hz.out; omega), by omega, Or.inr (by rw [← hcon.out]; exact h1), Lib.hid (hbq.out.trans b1)⟩
            case measure => simp [intOf]
          · obtain rfl : q = X := by omega
            have hzn : z = -1 := by have := hz.out; omega
            subst hzn
            have hfin : Lib.IsBuilderF 90 5 w.heap.size w.heap.size (Lib.byteCells (flat q (l.take (k + 1)))) wr := by
              have e1 : flat q (l.take (k + 1)) = L ++ (be q n).take q := by
                rw [flat_take _ _ _ hlt, HL.out, HN.out, Int.toNat_natCast, List.take_of_length_le (by rw [be_len]; omega)]
              rw [e1]; exact hIq
            have HFI := Lib.hid hfin
            clear hfin hIq
            go_wp2
            go_roundw
            case rel => exact ⟨k + 1, by go_num, by omega, HFI.out, HA, hbq⟩
            case measure => simp [intOf]; omega
      · rw [decide_eq_false he] at HFk
        obtain ⟨h9, h10⟩ := HR8.out k hlt he
        have H9 := Lib.hid h9
        have H10 := Lib.hid h10
        clear h9 h10 he hI
        go_wp2_with (go_at_call 91; refine HFk.out.mono ?_; rintro e w2 ⟨rfl, rfl⟩)
        go_ret2
        exact ⟨_, by rw [H9.out]; rfl, Lib.hid (by rw [H10.out]), hb.out⟩
    · obtain rfl : k = l.length := by omega
      obtain ⟨h9, h10⟩ := HR0.out ha.out
      have H9 := Lib.hid h9
      have H10 := Lib.hid h10
      rw [List.take_length] at hI
      clear h9 h10
      go_wp2_with (go_at_call 44; refine (Try.Builder_String_any_k w.heap.size w.heap.size _ _ hI hb.out.size).mono ?_; rintro e w3 ⟨rfl, h1, b1, k1⟩)
      go_ret2
      exact ⟨_, by rw [H9.out]; rfl, Lib.hid (by rw [H10.out]), hb.out.trans b1⟩
theorem enc_nil (x : Int) : encE x [] = 0 ∧ encL x [] = [] := by
  have h0 : encE x [] = 0 := by unfold encE; rw [if_pos (by simp)]
  exact ⟨h0, by unfold encL; rw [if_pos h0]; rfl⟩
theorem oenc_none (a : Option Addr) (cap : Nat) (x : Int) (w : World) :
    Calls Try.prog 68 #[.int .i64 x, .slice a 0 cap] w fun e w' => ∃ t : ByteArray, e = .returned (.tuple #[.string t, .int .i64 (encE x [])]) ∧ Hid (t.data.toList = encL x []) ∧ Below w.heap.size w w' := by
  have HE := Lib.hid (enc_nil x)
  have hI0 : Lib.IsBuilderF 90 5 w.heap.size w.heap.size (Lib.byteCells []) (w.alloc (.cells #[.pointer none, .slice none 0 0] 90)) := Lib.IsBuilderF.of (Lib.fresh_isBuilder 90 5 w)
  have hb0 : Below w.heap.size w (w.alloc (.cells #[.pointer none, .slice none 0 0] 90)) := (Below.refl _ w).alloc (Nat.le_refl _) _
  have HI := Lib.hid hI0
  have HB := Lib.hid hb0
  clear hI0 hb0
  go_enter Try.func68, Try.ntmps68
  go_wp2
  go_loopw [12] (fun i' wr => i' = .int .i64 0 ∧ wr = w.alloc (.cells #[.pointer none, .slice none 0 0] 90)) (fun _ _ => 0)
  case atStart => exact ⟨rfl, rfl⟩
  case round =>
    obtain ⟨rfl, rfl⟩ := hrel
    go_wp2_with (go_at_call 44; refine (Try.Builder_String_any_k w.heap.size w.heap.size [] _ HI.out HB.out.size).mono ?_; rintro e w3 ⟨rfl, h1, b1, k1⟩)
    go_ret2
    exact ⟨_, by rw [HE.out.1]; rfl, Lib.hid (by rw [HE.out.2]), HB.out.trans b1⟩
theorem oenc_any (a : Option Addr) (cap : Nat) (x : Int) (l : List Int) (hw : wideW x) (hx : ∀ y ∈ l, y ≤ 9223372036854775807) (hl : l.length ≤ 1000) (w : World) (hi : Ints w.heap.size w a l) :
    Calls Try.prog 68 #[.int .i64 x, .slice a l.length cap] w fun e w' => ∃ t : ByteArray, e = .returned (.tuple #[.string t, .int .i64 (encE x l)]) ∧ Hid (t.data.toList = encL x l) ∧ Below w.heap.size w w' := by
  rcases hi with rfl | ⟨b, off, rfl, hB, hc⟩
  · exact oenc_none a cap x w
  · exact oenc_some b off cap x l hw hx hl w hB hc
/-- One number: what Put says. -/
theorem enc_one {n x : Int} (hw : wideW x) : encE x [n] = putE n x ∧ encL x [n] = putL n x := by
  have h1 : encE x [n] = putE n x := by
    unfold encE
    by_cases h : putE n x = 0
    · rw [if_pos (by simpa using h), h]
    · rw [if_neg (fun h2 => h (h2 n (by simp)))]
      rcases put_two hw n with h3 | h3
      · exact absurd h3 h
      · exact h3.symm
  refine ⟨h1, ?_⟩
  unfold encL putL
  rw [h1]
  split
  · rw [flat_one]; simp [flat]
  · rfl
/-- The encode of one number, in a literal that the call has laid. -/
theorem oenc_lit (n x : Int) (hw : wideW x) (hn : n ≤ 9223372036854775807) (w : World) (t : TypeId) :
    Calls Try.prog 68 #[.int .i64 x, .slice (some ⟨w.heap.size, 0, none⟩) 1 1] (w.alloc (.cells #[.int .i64 n] t)) fun e w' => ∃ u : ByteArray, e = .returned (.tuple #[.string u, .int .i64 (putE n x)]) ∧ Hid (u.data.toList = putL n x) ∧ Below w.heap.size w w' := by
  have h := oenc_any (some ⟨w.heap.size, 0, none⟩) 1 x [n] hw (by simpa using hn) (by simp) (w.alloc (.cells #[.int .i64 n] t)) (lit_one w n t)
  refine h.mono ?_
  rintro e w' ⟨u, rfl, hu, hb⟩
  refine ⟨u, by rw [(enc_one hw).1], Lib.hid (by rw [hu.out, (enc_one hw).2]), ?_⟩
  have h0 : Below w.heap.size w (w.alloc (.cells #[.int .i64 n] t)) := (Below.refl _ w).alloc (Nat.le_refl _) _
  exact h0.trans (hb.mono h0.size)
end Go.Proofs.Yteccahggahpeeaa
namespace Go.Proofs.Yteccahggahpeeaa
open Go.RowKit

theorem two_cells {w : World} {g : Nat} {x y : Value} {t : TypeId} (h : w.heap[g]? = some (.cells #[x, y] t (0, 0))) :
    w.cell? ⟨g, 0, none⟩ = some x ∧ w.cell? ⟨g, 1, none⟩ = some y ∧ w.frozen? ⟨g, 0, none⟩ = false ∧ w.frozen? ⟨g, 1, none⟩ = false :=
  ⟨cell_of (j := 0) h rfl, cell_of (j := 1) h rfl, frozen_of_row w g 0 _ _ h, frozen_of_row w g 1 _ _ h⟩
theorem two_stored {w : World} {g : Nat} {x y : Value} {t : TypeId} (h : w.heap[g]? = some (.cells #[x, y] t (0, 0))) (x' y' : Value) :
    ((w.setCell ⟨g, 0, none⟩ x').setCell ⟨g, 1, none⟩ y').heap[g]? = some (.cells #[x', y'] t (0, 0)) := by
  have h0 := heap_setCell_same w g 0 _ t x' h
  exact heap_setCell_same _ g 1 _ t y' h0
theorem two_below {B : Nat} {w w' : World} (h : Below B w w') {g : Nat} (hg : B ≤ g) (x y : Value) :
    Below B w ((w'.setCell ⟨g, 0, none⟩ x).setCell ⟨g, 1, none⟩ y) :=
  (h.setCell (p := ⟨g, 0, none⟩) hg x).setCell (p := ⟨g, 1, none⟩) hg y
theorem pair_load {w : World} {g : Nat} {t : TypeId} {x y : Value} {fr : Nat × Nat} (h : w.heap[g]? = some (.cells #[x, y] t fr)) : (loadVar 161 ⟨g, 0, none⟩).run Try.prog w = .ok (.agg #[x, y]) w :=
  run_loadVar_row (P := Try.prog) w g t 161 #[x, y] fr _ h Try.underlying161 rfl (by kernel_rfl)

theorem or_byte (v c : Nat) (hv : v < 72057594037927936) (hc : c < 256) : bits BinOp.or IntKind.u64 ((v : Int) * 256) (c : Int) = ((256 * v + c : Nat) : Int) := by
  have e1 : (BitVec.ofInt 64 ((v : Int) * 256)).toNat = v * 256 := by rw [BitVec.toNat_ofInt]; omega
  have e2 : (BitVec.ofInt 64 (c : Int)).toNat = c := by rw [BitVec.toNat_ofInt]; omega
  have e3 : v * 256 ||| c = 256 * v + c := by
    have := Nat.shiftLeft_add_eq_or_of_lt (show c < 2 ^ 8 from hc) v
    rw [Nat.shiftLeft_eq, show (2 : Nat) ^ 8 = 256 from rfl] at this
    omega
  show IntKind.u64.wrap ((BitVec.ofInt 64 ((v : Int) * 256) ||| BitVec.ofInt 64 (c : Int)).toNat : Int) = _
  rw [BitVec.toNat_or, e1, e2, e3]
  exact IntWalk.u64_in _ (by omega)

set_option maxHeartbeats 2000000 in
theorem oget_any (s : ByteArray) (hs : s.size ≤ 4611686018427387904) (p x : Int) (hp0 : -9223372036854775808 ≤ p) (hp1 : p ≤ 9223372036854775807) (w : World) :
    Calls Try.prog 94 #[.string s, .int .i64 p, .int .i64 x] w fun e w' => e = .returned (.tuple #[.agg #[.int .i64 (getV s.data.toList p x), .int .i64 (getT s.data.toList p x)], .int .i64 (getE s.data.toList p x)]) ∧ Below w.heap.size w w' := by
  have HW : Hid (∀ v, Calls Try.prog 90 #[.int .i64 x] v fun e w' => e = .returned (.bool (decide (wideW x))) ∧ v = w') := Lib.hid fun v => oiswidth_any x v
  have hz : s.data.toList.length = s.size := by simp
  have hbad : getE s.data.toList p x ≠ 0 → getV s.data.toList p x = 0 ∧ getT s.data.toList p x = 0 := fun h => by unfold getV getT; rw [if_neg h, if_neg h]; exact ⟨rfl, rfl⟩
  by_cases hw : wideW x
  · rw [decide_eq_true hw] at HW
    by_cases h0 : p < 0
    · have he : getE s.data.toList p x = 2 := by unfold getE; rw [if_neg (by omega)]
      obtain ⟨hv, ht⟩ := hbad (by omega)
      have hd : decide (p < 0) = true := decide_eq_true h0
      rw [he, hv, ht]
      clear hz hbad he hv ht h0
      go_enter Try.func94, Try.ntmps94
      go_wp2_with (go_at_call 90; refine (HW.out _).mono ?_; rintro e w1 ⟨rfl, rfl⟩)
      refine bodyPost_ret (results_row_slot rfl _ _ w.heap.size _ rfl (pair_load (heap_alloc_new _ _))) rfl ?_
      exact ⟨rfl, (Below.refl _ w).alloc (Nat.le_refl _) _⟩
    · have hd : decide (p < 0) = false := decide_eq_false h0
      by_cases h1 : (s.size : Int) < p
      · have he : getE s.data.toList p x = 2 := by unfold getE; rw [if_neg (by omega)]
        obtain ⟨hv, ht⟩ := hbad (by omega)
        have hd2 : decide ((s.size : Int) < p) = true := decide_eq_true h1
        rw [he, hv, ht]
        clear hz hbad he hv ht h0 h1
        go_enter Try.func94, Try.ntmps94
        go_wp2_with (go_at_call 90; refine (HW.out _).mono ?_; rintro e w1 ⟨rfl, rfl⟩)
        refine bodyPost_ret (results_row_slot rfl _ _ w.heap.size _ rfl (pair_load (heap_alloc_new _ _))) rfl ?_
        exact ⟨rfl, (Below.refl _ w).alloc (Nat.le_refl _) _⟩
      · obtain ⟨q, rfl⟩ : ∃ q : Nat, p = q := ⟨p.toNat, by omega⟩
        obtain ⟨w1, w2, w3⟩ := wide_nat hw
        obtain ⟨k, rfl⟩ : ∃ k : Nat, x = k := ⟨x.toNat, by omega⟩
        have hd2 : decide ((s.size : Int) < (q : Int)) = false := decide_eq_false h1
        have hd3 : decide (s.size < q) = false := decide_eq_false (by omega)
        by_cases h2 : (s.size : Int) - (q : Int) < (k : Int)
        · have he : getE s.data.toList q k = 4 := by unfold getE; rw [if_pos ⟨hw, by omega, by omega⟩, hz, if_pos h2]
          obtain ⟨hv, ht⟩ := hbad (by omega)
          have hd5 : decide ((s.size : Int) - (q : Int) < (k : Int)) = true := decide_eq_true h2
          rw [he, hv, ht]
          clear hz hbad he hv ht h0 h1 h2
          go_enter Try.func94, Try.ntmps94
          go_wp2_with (go_at_call 90; refine (HW.out _).mono ?_; rintro e w1 ⟨rfl, rfl⟩)
          refine bodyPost_ret (results_row_slot rfl _ _ w.heap.size _ rfl (pair_load (heap_alloc_new _ _))) rfl ?_
          exact ⟨rfl, (Below.refl _ w).alloc (Nat.le_refl _) _⟩
        · have hd5 : decide ((s.size : Int) - (q : Int) < (k : Int)) = false := decide_eq_false h2
          have hlen : ((s.data.toList.drop q).take k).length = k := by simp; omega
          have hV := val_lt ((s.data.toList.drop q).take k)
          rw [hlen] at hV
          have hix : (s.data.toList.getD (q : Int).toNat 0) = ((s.data.toList.drop q).take k).getD 0 0 := by
            rw [Int.toNat_natCast, List.getD_eq_getElem?_getD, List.getD_eq_getElem?_getD, List.getElem?_take_of_lt (by omega), List.getElem?_drop, Nat.add_zero]
          have HGE : Hid (getE s.data.toList q k = if 9223372036854775807 < val ((s.data.toList.drop q).take k) then 8 else 0) := Lib.hid (by
            unfold getE
            rw [if_pos ⟨hw, by omega, by omega⟩, hz, if_neg h2, hix]
            by_cases h8 : (k : Int) = 8
            · have e8 : k = 8 := by omega
              subst e8
              by_cases h9 : 127 < (((s.data.toList.drop q).take 8).getD 0 0).toNat
              · rw [if_pos ⟨h8, h9⟩, if_pos]
                rcases Nat.lt_or_ge 9223372036854775807 (val ((s.data.toList.drop q).take 8)) with g | g
                · exact g
                · exact absurd h9 (by have := first_byte hlen g; omega)
              · rw [if_neg (fun h => h9 h.2), if_neg]
                have := val_eight hlen (by omega)
                omega
            · rw [if_neg (fun h => h8 h.1), if_neg]
              have : 256 ^ k ≤ 256 ^ 7 := Nat.pow_le_pow_right (by decide) (by unfold wideW at hw; omega)
              omega)
          have HVM : Hid (∀ j, (h : q + j < s.size) → val ((s.data.toList.drop q).take (j + 1)) = 256 * val ((s.data.toList.drop q).take j) + (s[q + j]).toNat) := Lib.hid fun j h => val_take_more s.data.toList q j (by omega)
          have HVB : Hid (∀ j, j < k → val ((s.data.toList.drop q).take j) < 72057594037927936) := Lib.hid fun j hj => by
            have h3 := val_lt ((s.data.toList.drop q).take j)
            have h4 : ((s.data.toList.drop q).take j).length = j := by simp; omega
            rw [h4] at h3
            have : 256 ^ j ≤ 256 ^ 7 := Nat.pow_le_pow_right (by decide) (by omega)
            omega
          have HLN : Hid (∀ j, j < k → q + j < s.size) := Lib.hid fun j hj => by omega
          have HVT : Hid (getE s.data.toList q k = 0 → getV s.data.toList q k = (val ((s.data.toList.drop q).take k) : Int) ∧ getT s.data.toList q k = (q : Int) + (k : Int)) := Lib.hid fun he => by
            unfold getV getT; rw [if_pos he, if_pos he, Int.toNat_natCast, Int.toNat_natCast]; exact ⟨rfl, rfl⟩
          have HBD := Lib.hid hbad
          have hqs : q ≤ 4611686018427387904 := by omega
          have hk8 : k ≤ 8 := by omega
          clear hz hbad h0 h1 h2 hix hlen hV
          go_enter Try.func94, Try.ntmps94
          go_wp2_with (go_at_call 90; refine (HW.out _).mono ?_; rintro e w1 ⟨rfl, rfl⟩)
          go_loop [9, 10] (fun n' i' => ∃ j v : Nat, i' = .int .i64 ((q + j : Nat) : Int) ∧ n' = .int .u64 v ∧ j ≤ k ∧ Hid (v = val ((s.data.toList.drop q).take j))) (fun _ i => q + k - (intOf i).toNat)
          case atStart => exact ⟨0, 0, rfl, rfl, by omega, Lib.hid (by simp [val, valOn])⟩
          case round =>
            obtain ⟨j, v, rfl, rfl, hj, hve⟩ := hrel
            by_cases hlt : j < k
            · have hin : q + j < s.size := HLN.out j hlt
              have m1 := HVM.out j hin
              have hv2 := HVB.out j hlt
              rw [← hve.out] at hv2
              have HV3 : Hid (256 * v + (s[q + j]).toNat = val ((s.data.toList.drop q).take (j + 1))) := Lib.hid (by rw [m1, ← hve.out])
              have hcb : (s[q + j]).toNat < 256 := (s[q + j]).toNat_lt
              have hu : IntKind.u64.wrap ((s[q + j]).toNat : Int) = ((s[q + j]).toNat : Int) := IntWalk.u64_in _ (by omega)
              have hor := or_byte v (s[q + j]).toNat hv2 hcb
              clear m1
              obtain ⟨z, hz⟩ : ∃ z, q + j = z := ⟨_, rfl⟩
              have HZ : Hid (q + j = z) := Lib.hid hz
              have hzk : (z : Int) < (q : Int) + (k : Int) := by omega
              subst hz
              go_wp2
              go_round
              case rel => exact ⟨j + 1, 256 * v + (s[q + j]).toNat, by go_num, by go_num, by omega, HV3⟩
              case measure => simp [intOf]; omega
            · obtain rfl : j = k := by omega
              have hx : ¬ ((q + j : Nat) : Int) < (q : Int) + (j : Int) := by omega
              by_cases hbig : 9223372036854775807 < v
              · have he : getE s.data.toList q j = 8 := by have := HGE.out; rw [← hve.out, if_pos hbig] at this; exact this
                obtain ⟨h8, h9⟩ := HBD.out (by omega)
                have H8 := Lib.hid h8
                have H9 := Lib.hid h9
                have HE := Lib.hid he
                clear h8 h9 he
                have hdb : decide ((9223372036854775807 : Int) < (v : Int)) = true := decide_eq_true (by omega)
                go_wp2
                rw [H8.out, H9.out, HE.out]
                refine bodyPost_ret (results_row_slot rfl _ _ w.heap.size _ rfl (pair_load (heap_alloc_new _ _))) rfl ?_
                exact ⟨rfl, (Below.refl _ w).alloc (Nat.le_refl _) _⟩
              · have he : getE s.data.toList q j = 0 := by have := HGE.out; rw [← hve.out, if_neg hbig] at this; exact this
                obtain ⟨h8, h9⟩ := HVT.out he
                have H8 := Lib.hid h8
                have H9 := Lib.hid h9
                have HE := Lib.hid he
                clear h8 h9 he
                have hdb : decide ((9223372036854775807 : Int) < (v : Int)) = false := decide_eq_false (by omega)
                have hwv : IntKind.i64.wrap (v : Int) = (v : Int) := IntWalk.i64_in _ (by omega)
                go_wp2
                rw [H8.out, H9.out, HE.out, ← hve.out]
                refine bodyPost_ret (results_row_slot rfl _ _ w.heap.size _ rfl (pair_load (heap_alloc_new _ _))) rfl ?_
                exact ⟨rfl, (Below.refl _ w).alloc (Nat.le_refl _) _⟩
  · have he : getE s.data.toList p x = 2 := by unfold getE; rw [if_neg (fun h => hw h.1)]
    obtain ⟨hv, ht⟩ := hbad (by omega)
    rw [decide_eq_false hw] at HW
    rw [he, hv, ht]
    clear hz hbad he hv ht
    go_enter Try.func94, Try.ntmps94
    go_wp2_with (go_at_call 90; refine (HW.out _).mono ?_; rintro e w1 ⟨rfl, rfl⟩)
    refine bodyPost_ret (results_row_slot rfl _ _ w.heap.size _ rfl (pair_load (heap_alloc_new _ _))) rfl ?_
    exact ⟨rfl, (Below.refl _ w).alloc (Nat.le_refl _) _⟩
end Go.Proofs.Yteccahggahpeeaa
namespace Go.Proofs.Yteccahggahpeeaa
open Go.RowKit

/-- What count answers: the error, and, where there is none, the number. -/
def cntE (s : List UInt8) (p m : Int) : Int := if m < 0 then 2 else if getE s p 2 = 0 then (if m < getV s p 2 then 3 else 0) else getE s p 2
def cntV (s : List UInt8) (p m : Int) : Int := if cntE s p m = 0 then getV s p 2 else 0
def cntT (s : List UInt8) (p m : Int) : Int := if cntE s p m = 0 then p + 2 else 0
theorem get_none {s : List UInt8} {p x : Int} (h : getE s p x ≠ 0) : getV s p x = 0 ∧ getT s p x = 0 := by unfold getV getT; rw [if_neg h, if_neg h]; exact ⟨rfl, rfl⟩

/-- Behind a call: a block of two cells that was laid ahead of it, another one laid behind it. -/
theorem pair_two {w w1 : World} {T : TypeId} {x y : Value} (b1 : Below (w.alloc (.cells #[x, y] T)).heap.size (w.alloc (.cells #[x, y] T)) w1) (o : Obj) :
    (w1.alloc o).cell? ⟨w.heap.size, 0, none⟩ = some x ∧ (w1.alloc o).cell? ⟨w.heap.size, 1, none⟩ = some y ∧ (w1.alloc o).frozen? ⟨w.heap.size, 0, none⟩ = false ∧ (w1.alloc o).frozen? ⟨w.heap.size, 1, none⟩ = false ∧ Hid (Below w.heap.size w (w1.alloc o)) ∧ Hid ((w1.alloc o).heap[w.heap.size]? = some (.cells #[x, y] T (0, 0))) := by
  have hg : (w1.alloc o).heap[w.heap.size]? = some (.cells #[x, y] T (0, 0)) := by
    have h1 := old_obj b1 (heap_alloc_new w (.cells #[x, y] T))
    exact (Lib.alloc_old w1 o _ (obj_lt h1)).trans h1
  obtain ⟨c0, c1, f0, f1⟩ := two_cells hg
  have h0 : Below w.heap.size w (w.alloc (.cells #[x, y] T)) := (Below.refl _ w).alloc (Nat.le_refl _) _
  have h2 := h0.trans (b1.mono h0.size)
  exact ⟨c0, c1, f0, f1, Lib.hid (h2.alloc h2.size _), Lib.hid hg⟩

set_option maxHeartbeats 2000000 in
theorem ocount_any (s : ByteArray) (hs : s.size ≤ 4611686018427387904) (p m : Int) (hp0 : -9223372036854775808 ≤ p) (hp1 : p ≤ 9223372036854775807) (w : World) :
    Calls Try.prog 101 #[.string s, .int .i64 p, .int .i64 m] w fun e w' => e = .returned (.tuple #[.agg #[.int .i64 (cntV s.data.toList p m), .int .i64 (cntT s.data.toList p m)], .int .i64 (cntE s.data.toList p m)]) ∧ Below w.heap.size w w' := by
  have HG : Hid (∀ v, Calls Try.prog 94 #[.string s, .int .i64 p, .int .i64 2] v fun e w' => e = .returned (.tuple #[.agg #[.int .i64 (getV s.data.toList p 2), .int .i64 (getT s.data.toList p 2)], .int .i64 (getE s.data.toList p 2)]) ∧ Below v.heap.size v w') := Lib.hid fun v => oget_any s hs p 2 hp0 hp1 v
  by_cases hm : m < 0
  · have he : cntE s.data.toList p m = 2 := by unfold cntE; rw [if_pos hm]
    have hv : cntV s.data.toList p m = 0 := by unfold cntV; rw [if_neg (by omega)]
    have ht : cntT s.data.toList p m = 0 := by unfold cntT; rw [if_neg (by omega)]
    have hd : decide (m < 0) = true := decide_eq_true hm
    rw [he, hv, ht]
    clear he hv ht hm
    go_enter Try.func101, Try.ntmps101
    go_wp2
    refine bodyPost_ret (results_row_slot rfl _ _ w.heap.size _ rfl (pair_load (heap_alloc_new _ _))) rfl ?_
    exact ⟨rfl, (Below.refl _ w).alloc (Nat.le_refl _) _⟩
  · have hd : decide (m < 0) = false := decide_eq_false hm
    have HE : Hid (cntE s.data.toList p m = if getE s.data.toList p 2 = 0 then (if m < getV s.data.toList p 2 then 3 else 0) else getE s.data.toList p 2) := Lib.hid (by unfold cntE; rw [if_neg hm])
    have HN : Hid (getE s.data.toList p 2 ≠ 0 → getV s.data.toList p 2 = 0 ∧ getT s.data.toList p 2 = 0) := Lib.hid get_none
    have HT : Hid (getE s.data.toList p 2 = 0 → getT s.data.toList p 2 = p + 2) := Lib.hid fun h => by unfold getT; rw [if_pos h]
    have HV : Hid (cntV s.data.toList p m = if cntE s.data.toList p m = 0 then getV s.data.toList p 2 else 0) := Lib.hid rfl
    have HU : Hid (cntT s.data.toList p m = if cntE s.data.toList p m = 0 then p + 2 else 0) := Lib.hid rfl
    generalize cntV s.data.toList p m = cv at *
    generalize cntT s.data.toList p m = ct at *
    generalize cntE s.data.toList p m = ce at *
    generalize getV s.data.toList p 2 = V at *
    generalize getT s.data.toList p 2 = T at *
    generalize getE s.data.toList p 2 = E at *
    clear hm
    by_cases h0 : E = 0
    · have hde : (E == 0) = true := by rw [h0]; rfl
      by_cases hb : m < V
      · have hdb : decide (m < V) = true := decide_eq_true hb
        have e1 : ce = 3 := by have := HE.out; rw [if_pos h0, if_pos hb] at this; exact this
        have e2 : cv = 0 := by have := HV.out; rw [if_neg (by omega)] at this; exact this
        have e3 : ct = 0 := by have := HU.out; rw [if_neg (by omega)] at this; exact this
        rw [e1, e2, e3]
        subst h0
        clear HE HN HT HV HU e1 e2 e3 hb
        go_enter Try.func101, Try.ntmps101
        go_wp2_with (go_at_call 94; refine (HG.out _).mono ?_; rintro e w1 ⟨rfl, b1⟩; obtain ⟨c0, c1, f0, f1, hb1, hg1⟩ := pair_two b1 (.cells #[.int .i64 V, .int .i64 T] 161))
        refine bodyPost_ret (results_row_slot rfl _ _ w.heap.size _ rfl (pair_load (two_stored hg1.out _ _))) rfl ?_
        exact ⟨rfl, two_below hb1.out (Nat.le_refl _) _ _⟩
      · have hdb : decide (m < V) = false := decide_eq_false hb
        have e1 : ce = 0 := by have := HE.out; rw [if_pos h0, if_neg hb] at this; exact this
        have e2 : cv = V := by have := HV.out; rw [if_pos e1] at this; exact this
        have e3 : ct = T := by have := HU.out; rw [if_pos e1, ← HT.out h0] at this; exact this
        rw [e1, e2, e3]
        subst h0
        clear HE HN HT HV HU e1 e2 e3 hb
        go_enter Try.func101, Try.ntmps101
        go_wp2_with (go_at_call 94; refine (HG.out _).mono ?_; rintro e w1 ⟨rfl, b1⟩; obtain ⟨c0, c1, f0, f1, hb1, hg1⟩ := pair_two b1 (.cells #[.int .i64 V, .int .i64 T] 161))
        refine bodyPost_ret (results_row_slot rfl _ _ w.heap.size _ rfl (pair_load (two_stored hg1.out _ _))) rfl ?_
        exact ⟨rfl, two_below hb1.out (Nat.le_refl _) _ _⟩
    · have hde : (E == 0) = false := beq_eq_false_iff_ne.2 h0
      have e1 : ce = E := by have := HE.out; rw [if_neg h0] at this; exact this
      have e2 : cv = V := by have := HV.out; rw [if_neg (by omega)] at this; rw [this]; exact ((HN.out h0).1).symm
      have e3 : ct = T := by have := HU.out; rw [if_neg (by omega)] at this; rw [this]; exact ((HN.out h0).2).symm
      rw [e1, e2, e3]
      clear HE HN HT HV HU e1 e2 e3 h0
      go_enter Try.func101, Try.ntmps101
      go_wp2_with (go_at_call 94; refine (HG.out _).mono ?_; rintro e w1 ⟨rfl, b1⟩; obtain ⟨c0, c1, f0, f1, hb1, hg1⟩ := pair_two b1 (.cells #[.int .i64 V, .int .i64 T] 161))
      refine bodyPost_ret (results_row_slot rfl _ _ w.heap.size _ rfl (pair_load (two_stored hg1.out _ _))) rfl ?_
      exact ⟨rfl, two_below hb1.out (Nat.le_refl _) _ _⟩
end Go.Proofs.Yteccahggahpeeaa
namespace Go.Proofs.Yteccahggahpeeaa
open Go.RowKit

theorem pairs_load {w : World} {g : Nat} {t : TypeId} {x y : Value} {fr : Nat × Nat} (h : w.heap[g]? = some (.cells #[x, y] t fr)) : (loadVar 165 ⟨g, 0, none⟩).run Try.prog w = .ok (.agg #[x, y]) w :=
  run_loadVar_row (P := Try.prog) w g t 165 #[x, y] fr _ h Try.underlying165 rfl (by kernel_rfl)

theorem oput_any (n x : Int) (hn : n ≤ 9223372036854775807) (w : World) :
    Calls Try.prog 67 #[.int .i64 n, .int .i64 x] w fun e w' => ∃ t : ByteArray, e = .returned (.tuple #[.string t, .int .i64 (putE n x)]) ∧ Hid (t.data.toList = putL n x) ∧ Below w.heap.size w w' := by
  have HW : Hid (∀ v, Calls Try.prog 90 #[.int .i64 x] v fun e w' => e = .returned (.bool (decide (wideW x))) ∧ v = w') := Lib.hid fun v => oiswidth_any x v
  by_cases hw : wideW x
  · rw [decide_eq_true hw] at HW
    have HE := Lib.hid (oenc_lit n x hw hn)
    clear hw
    go_enter Try.func67, Try.ntmps67
    go_wp2_with (first | (go_at_call 90; refine (HW.out _).mono ?_; rintro e w1 ⟨rfl, rfl⟩) | (go_at_call 68; refine (HE.out _ _).mono ?_; rintro e w1 ⟨t, rfl, ht, hb⟩))
    go_ret2
    exact ⟨t, rfl, ht, hb⟩
  · rw [decide_eq_false hw] at HW
    have he : putE n x = 2 := by unfold putE; rw [if_neg hw]
    have hl : putL n x = [] := by unfold putL; rw [if_neg (by omega)]
    rw [he, hl]
    clear he hl
    go_enter Try.func67, Try.ntmps67
    go_wp2_with (go_at_call 90; refine (HW.out _).mono ?_; rintro e w1 ⟨rfl, rfl⟩)
    go_ret2
    exact ⟨_, rfl, Lib.hid rfl, Below.refl _ _⟩

theorem len_put {n : Nat} (h : n ≤ 65535) : putE (n : Int) 2 = 0 ∧ putL (n : Int) 2 = be 2 n := by
  have e : putE (n : Int) 2 = 0 := by unfold putE; rw [if_pos (by unfold wideW; omega), if_pos (by rw [show (2 : Int).toNat = 2 from rfl]; omega)]
  exact ⟨e, by unfold putL; rw [if_pos e]; rfl⟩
theorem two_wide : wideW 2 := by unfold wideW; omega

theorem olay_any (s : ByteArray) (hs : s.size ≤ 4611686018427387904) (w : World) :
    Calls Try.prog 43 #[.string s] w fun e w' => ∃ t : ByteArray, e = .returned (.tuple #[.string t, .int .i64 (layE s.data.toList)]) ∧ Hid (t.data.toList = layL s.data.toList) ∧ Below w.heap.size w w' := by
  have hz : s.data.toList.length = s.size := by simp
  by_cases hb : s.size ≤ 65535
  · have he : layE s.data.toList = 0 := by unfold layE; rw [hz, if_pos hb]
    have HL : Hid (layL s.data.toList = be 2 s.size ++ s.data.toList) := Lib.hid (by unfold layL; rw [if_pos he, hz])
    have hd : decide ((65535 : Int) < (s.size : Int)) = false := decide_eq_false (by omega)
    obtain ⟨l1, l2⟩ := len_put hb
    have HE : Hid (∀ (w : World) (t : TypeId), Calls Try.prog 68 #[.int .i64 2, .slice (some ⟨w.heap.size, 0, none⟩) 1 1] (w.alloc (.cells #[.int .i64 s.size] t)) fun e w' => ∃ u : ByteArray, e = .returned (.tuple #[.string u, .int .i64 0]) ∧ Hid (u.data.toList = be 2 s.size) ∧ Below w.heap.size w w') := Lib.hid fun w t => by
      have h := oenc_lit (s.size : Int) 2 two_wide (by omega) w t
      rw [l1, l2] at h
      exact h
    have HS : Hid (∀ u : ByteArray, u.data.toList = be 2 s.size → ¬ 9223372036854775807 < u.size + s.size) := Lib.hid fun u hu => by
      have := congrArg List.length hu
      rw [be_len] at this
      have : u.size = 2 := by simpa using this
      omega
    rw [he]
    clear he hz l1 l2 hb
    go_enter Try.func43, Try.ntmps43
    go_wp2_with (go_at_call 68; refine (HE.out _ _).mono ?_; rintro e w1 ⟨t, rfl, ht, hb⟩; have hsz := HS.out t ht.out)
    go_ret2
    exact ⟨_, rfl, Lib.hid (by rw [HL.out, ← ht.out]; simp), hb⟩
  · have he : layE s.data.toList = 3 := by unfold layE; rw [hz, if_neg hb]
    have hl : layL s.data.toList = [] := by unfold layL; rw [if_neg (by omega)]
    have hd : decide ((65535 : Int) < (s.size : Int)) = true := decide_eq_true (by omega)
    rw [he, hl]
    clear hb he hl hz
    go_enter Try.func43, Try.ntmps43
    go_wp2
    go_ret2
    exact ⟨_, rfl, Lib.hid rfl, Below.refl _ _⟩

theorem clone_any (s : ByteArray) (hs : s.size ≤ 281474976710656) (w : World) :
    Calls Try.prog 70 #[.string s] w fun e w' => e = .returned (.string s) ∧ Below w.heap.size w w' := by
  have HC : Hid (∀ v, Calls Try.prog 93 #[.string s] v fun e w' => e = .returned (.string s) ∧ Below v.heap.size v w') := Lib.hid fun v => Try.stringslite_Clone s v hs
  go_enter Try.func70, Try.ntmps70
  go_wp2_with (go_at_call 93; refine (HC.out _).mono ?_; rintro e w1 ⟨rfl, hb⟩)
  go_ret
  exact ⟨rfl, hb⟩

theorem take_cnt {s : List UInt8} {p m : Int} : takeE s p m = if cntE s p m = 0 then (if s.length < p + 2 + getV s p 2 then 4 else 0) else cntE s p m := by
  unfold takeE cntE
  by_cases h0 : m < 0
  · rw [if_neg (by omega), if_pos h0, if_neg (by omega)]
  · rw [if_neg h0]
    by_cases hg : getE s p 2 = 0
    · obtain ⟨_, f0, f1, _⟩ := get_fine hg
      rw [if_pos hg, if_pos hg, if_pos ⟨by omega, f0, by omega⟩]
      by_cases h1 : m < getV s p 2
      · rw [if_pos h1, if_pos h1, if_neg (by omega)]
      · rw [if_neg h1, if_neg h1, if_pos rfl]
    · rw [if_neg hg, if_neg hg, if_neg hg]
      by_cases h2 : 0 ≤ m ∧ 0 ≤ p ∧ p ≤ s.length
      · rw [if_pos h2]
      · rw [if_neg h2]
        unfold getE
        rw [if_neg (fun h => h2 ⟨by omega, h.2⟩)]

set_option maxHeartbeats 2000000 in
theorem otake_any (s : ByteArray) (hs : s.size ≤ 4611686018427387904) (p m : Int) (hp0 : -9223372036854775808 ≤ p) (hp1 : p ≤ 9223372036854775807) (w : World) :
    Calls Try.prog 95 #[.string s, .int .i64 p, .int .i64 m] w fun e w' => ∃ t : ByteArray, e = .returned (.tuple #[.agg #[.string t, .int .i64 (takeT s.data.toList p m)], .int .i64 (takeE s.data.toList p m)]) ∧ Hid (t.data.toList = takeL s.data.toList p m) ∧ Below w.heap.size w w' := by
  have HC : Hid (∀ v, Calls Try.prog 101 #[.string s, .int .i64 p, .int .i64 m] v fun e w' => e = .returned (.tuple #[.agg #[.int .i64 (cntV s.data.toList p m), .int .i64 (cntT s.data.toList p m)], .int .i64 (cntE s.data.toList p m)]) ∧ Below v.heap.size v w') := Lib.hid fun v => ocount_any s hs p m hp0 hp1 v
  have hz : s.data.toList.length = s.size := by simp
  have hbad : takeE s.data.toList p m ≠ 0 → takeL s.data.toList p m = [] ∧ takeT s.data.toList p m = 0 := fun h => by unfold takeL takeT; rw [if_neg h, if_neg h]; exact ⟨rfl, rfl⟩
  have htc := take_cnt (s := s.data.toList) (p := p) (m := m)
  rw [hz] at htc
  by_cases h0 : cntE s.data.toList p m = 0
  · rw [if_pos h0] at htc
    have hv : cntV s.data.toList p m = getV s.data.toList p 2 := by unfold cntV; rw [if_pos h0]
    have ht : cntT s.data.toList p m = p + 2 := by unfold cntT; rw [if_pos h0]
    have hg : getE s.data.toList p 2 = 0 := by
      unfold cntE at h0
      split at h0
      · omega
      · split at h0
        · rename_i h; exact h
        · rename_i h; exact absurd h0 h
    obtain ⟨b0, _, _, b3⟩ := get_bound hg
    have b4 := b3 rfl
    obtain ⟨_, f0, f1, _⟩ := get_fine hg
    rw [hz] at f1
    rw [hv, ht, h0] at HC
    obtain ⟨q, rfl⟩ : ∃ q : Nat, p = q := ⟨p.toNat, by omega⟩
    obtain ⟨V, hV⟩ : ∃ V : Nat, getV s.data.toList (q : Int) 2 = V := ⟨(getV s.data.toList (q : Int) 2).toNat, by omega⟩
    rw [hV] at HC htc
    have w1 : IntKind.i64.wrap ((s.size : Int) - ((q : Int) + 2)) = (s.size : Int) - ((q : Int) + 2) := IntWalk.i64_in _ (by omega)
    by_cases h2 : (s.size : Int) < (q : Int) + 2 + (V : Int)
    · rw [if_pos h2] at htc
      obtain ⟨hl, htt⟩ := hbad (by omega)
      have hd : decide ((s.size : Int) - ((q : Int) + 2) < (V : Int)) = true := decide_eq_true (by omega)
      rw [htc, hl, htt]
      clear htc hl htt hbad hv ht hg b0 b3 h2 hV h0
      go_enter Try.func95, Try.ntmps95
      go_wp2_with (go_at_call 101; refine (HC.out _).mono ?_; rintro e w2 ⟨rfl, b1⟩; obtain ⟨c0, c1, g0, g1, hb1, hg1⟩ := pair_two b1 (.cells #[.int .i64 V, .int .i64 ((q : Int) + 2)] 161))
      refine bodyPost_ret (results_row_slot rfl _ _ w.heap.size _ rfl (pairs_load (two_stored hg1.out _ _))) rfl ?_
      exact ⟨_, rfl, Lib.hid rfl, two_below hb1.out (Nat.le_refl _) _ _⟩
    · rw [if_neg h2] at htc
      have htt : takeT s.data.toList q m = (q : Int) + 2 + (V : Int) := by unfold takeT; rw [if_pos htc, hV]
      have HL : Hid ((s.extract (q + 2) (q + 2 + V)).data.toList = takeL s.data.toList (q : Int) m) := Lib.hid (by
        unfold takeL
        rw [if_pos htc, hV, extract_list, Int.toNat_natCast, show ((q : Int) + 2).toNat = q + 2 by omega, show q + 2 + V - (q + 2) = V by omega])
      have hd : decide ((s.size : Int) - ((q : Int) + 2) < (V : Int)) = false := decide_eq_false (by omega)
      have hin : q + 2 + V ≤ s.size := by omega
      have HX : Hid (∀ v, Calls Try.prog 70 #[.string (s.extract (q + 2) (q + 2 + V))] v fun e w' => e = .returned (.string (s.extract (q + 2) (q + 2 + V))) ∧ Below v.heap.size v w') := Lib.hid fun v => clone_any _ (by simp; omega) v
      rw [htc, htt]
      clear htc htt hbad hv ht hg b0 b3 h2 hV h0
      go_enter Try.func95, Try.ntmps95
      go_wp2_with (first | (go_at_call 101; refine (HC.out _).mono ?_; rintro e w2 ⟨rfl, b1⟩; obtain ⟨c0, c1, g0, g1, hb1, hg1⟩ := pair_two b1 (.cells #[.int .i64 V, .int .i64 ((q : Int) + 2)] 161)) | (go_at_call 70; refine (HX.out _).mono ?_; rintro e w3 ⟨rfl, b3⟩; clear c0 c1 g0 g1; have hg3 := old_obj b3 hg1.out; obtain ⟨c0, c1, g0, g1⟩ := two_cells hg3; have HG3 := Lib.hid hg3; clear hg3; have HB3 := Lib.hid (hb1.out.trans (b3.mono hb1.out.size))))
      refine bodyPost_ret (results_row_slot rfl _ _ w.heap.size _ rfl (pairs_load (two_stored HG3.out _ _))) rfl ?_
      exact ⟨_, rfl, HL, two_below HB3.out (Nat.le_refl _) _ _⟩
  · rw [if_neg h0] at htc
    have hv : cntV s.data.toList p m = 0 := by unfold cntV; rw [if_neg h0]
    have ht : cntT s.data.toList p m = 0 := by unfold cntT; rw [if_neg h0]
    obtain ⟨hl, htt⟩ := hbad (by omega)
    rw [hv, ht, ← htc] at HC
    rw [hl, htt]
    have hd : (takeE s.data.toList p m != 0) = true := by rw [bne_iff_ne]; omega
    clear hl htt hv ht hbad
    rw [htc] at HC hd ⊢
    generalize cntE s.data.toList p m = E at *
    clear htc h0
    go_enter Try.func95, Try.ntmps95
    go_wp2_with (go_at_call 101; refine (HC.out _).mono ?_; rintro e w2 ⟨rfl, b1⟩; obtain ⟨c0, c1, g0, g1, hb1, hg1⟩ := pair_two b1 (.cells #[.int .i64 0, .int .i64 0] 161))
    refine bodyPost_ret (results_row_slot rfl _ _ w.heap.size _ rfl (pairs_load (two_stored hg1.out _ _))) rfl ?_
    exact ⟨_, rfl, Lib.hid rfl, two_below hb1.out (Nat.le_refl _) _ _⟩
end Go.Proofs.Yteccahggahpeeaa
