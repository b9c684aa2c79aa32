/- The program's encode, for all rows of at most a thousand numbers, in every world. -/
import Derived.Test.YtpjahfobjnajcaaDoorOenc
import Derived.Test.YtpjahfobjnajcaaDoorCopied
namespace Go.Proofs.YtpjahfobjnajcaaDoor
open Go.RowKit

theorem be_take (w n q : Nat) (h : q < w) : (be w n).take (q + 1) = (be w n).take q ++ [UInt8.ofNat (n / 256 ^ (w - 1 - q) % 256)] := by
  induction w generalizing n q with
  | zero => omega
  | succ w ih =>
    unfold be
    have hl := be_len w (n / 256)
    rcases (by omega : q < w ∨ q = w) with g | g
    · rw [List.take_append_of_le_length (by omega), List.take_append_of_le_length (by omega), ih _ _ g, Nat.div_div_eq_div_mul, show w + 1 - 1 - q = (w - 1 - q) + 1 by omega, Nat.pow_succ, Nat.mul_comm 256]
    · subst g
      rw [show q + 1 - 1 - q = 0 by omega, Nat.pow_zero, Nat.div_one, List.take_of_length_le (by simp; omega), List.take_append_of_le_length (by omega), List.take_of_length_le (by omega)]
def encE (x : Int) (l : List Int) : Int := if ∀ y ∈ l, putE y x = 0 then 0 else 8
def encL (x : Int) (l : List Int) : List UInt8 := if encE x l = 0 then flat x.toNat l else []

set_option maxHeartbeats 2000000 in
theorem oenc_some (b off cap : Nat) (x : Int) (l : List Int) (hw : wideW x) (hx : ∀ y ∈ l, y ≤ 9223372036854775807) (hl : l.length ≤ 1000) (w : World) (hB : b < w.heap.size) (hc : ∀ j, j < l.length → w.cell? ⟨b, off + j, none⟩ = some (.int .i64 (numAt l j))) :
    Calls Tryd.prog 43 #[.int .i64 x, .slice (some ⟨b, off, none⟩) l.length cap] w fun e w' => ∃ t : ByteArray, e = .returned (.tuple #[.string t, .int .i64 (encE x l)]) ∧ Hid (t.data.toList = encL x l) ∧ Below w.heap.size w w' := by
  obtain ⟨w1, w2, w3⟩ := wide_nat hw
  obtain ⟨X, hX⟩ : ∃ X : Nat, x = X := ⟨x.toNat, by omega⟩
  subst hX
  have HC := Lib.hid hc
  have HF : Hid (∀ (j : Nat) (v : World), j < l.length → Calls Tryd.prog 53 #[.int .i64 (numAt l j), .int .i64 (X : Int)] v fun e w' => e = .returned (.bool (decide (putE (numAt l j) X = 0))) ∧ v = w') :=
    Lib.hid fun j v hj => ofits_any (numAt l j) X hw (hx _ (num_mem l j hj)) v
  have HR8 : Hid (∀ j, j < l.length → putE (numAt l j) X ≠ 0 → encE X l = 8 ∧ encL X l = []) := Lib.hid fun j hj hne => by
    have h8 : encE X l = 8 := by
      unfold encE
      rw [if_neg (fun h => hne (h _ (num_mem l j hj)))]
    exact ⟨h8, by unfold encL; rw [if_neg (by omega)]⟩
  have HR0 : Hid ((∀ j, j < l.length → putE (numAt l j) X = 0) → encE X l = 0 ∧ encL X l = flat X l) := Lib.hid fun h => by
    have h0 : encE X l = 0 := by
      unfold encE
      rw [if_pos]
      intro y hy
      obtain ⟨j, hj, rfl⟩ := List.getElem_of_mem hy
      have := h j hj
      unfold numAt at this
      rw [List.getD_eq_getElem?_getD, List.getElem?_eq_getElem hj] at this
      exact this
    exact ⟨h0, by unfold encL; rw [if_pos h0, Int.toNat_natCast]⟩
  have HX : Hid (∀ j, j < l.length → numAt l j ≤ 9223372036854775807) := Lib.hid fun j hj => hx _ (num_mem l j hj)
  have HX : Hid (∀ j, j < l.length → numAt l j ≤ 9223372036854775807) := Lib.hid fun j hj => hx _ (num_mem l j hj)
  have HX : Hid (∀ j, j < l.length → numAt l j ≤ 9223372036854775807) := Lib.hid fun j hj => hx _ (num_mem l j hj)
  have X1 : 1 ≤ X := by omega
  have X8 : X ≤ 8 := by omega
  have HWX := Lib.hid hw
  clear hc hw hx w1 w2 w3
  go_enter Tryd.func43, Tryd.ntmps43
  go_wp2
  go_loopw [12] (fun i' wr => ∃ (k : Nat), i' = .int .i64 k ∧ k ≤ l.length ∧ Lib.IsBuilderF 67 5 w.heap.size w.heap.size (Lib.byteCells (flat X (l.take k))) wr ∧ Hid (∀ j, j < k → putE (numAt l j) X = 0) ∧ Hid (Below w.heap.size w wr)) (fun i _ => l.length - (intOf i).toNat)
  case atStart =>
    refine ⟨0, rfl, by omega, ?_, Lib.hid (fun j h => absurd h (by omega)), Lib.hid ((Below.refl _ w).alloc (Nat.le_refl _) _)⟩
    exact Lib.IsBuilderF.of (Lib.fresh_isBuilder 67 5 w)
  case round =>
    obtain ⟨k, rfl, hk, hI, ha, hb⟩ := hrel
    by_cases hlt : k < l.length
    · have hcell := (hb.out.cell (p := ⟨b, off + k, none⟩) hB).trans (HC.out k hlt)
      have HFk := Lib.hid (HF.out k wr hlt)
      have i1 : (k : Int) < (l.length : Int) := by omega
      by_cases he : putE (numAt l k) X = 0
      · rw [decide_eq_true he] at HFk
        have ha' : ∀ j, j < k + 1 → putE (numAt l j) X = 0 := fun j h => by
          rcases (by omega : j < k ∨ j = k) with g | g
          · exact ha.out j g
          · rw [g]; exact he
        have HA := Lib.hid ha'
        have n0 : 0 ≤ numAt l k := by
          unfold putE at he
          rw [if_pos HWX.out] at he
          by_cases h : 0 ≤ numAt l k ∧ numAt l k < (256 : Int) ^ (X : Int).toNat
          · exact h.1
          · rw [if_neg h] at he; omega
        have n1 := HX.out k hlt
        obtain ⟨n, hn⟩ : ∃ n : Nat, numAt l k = n := ⟨(numAt l k).toNat, by omega⟩
        rw [hn] at hcell HFk n0 n1
        have HN := Lib.hid hn
        obtain ⟨L, hL⟩ : ∃ L, flat X (l.take k) = L := ⟨_, rfl⟩
        rw [hL] at hI
        have hLl : L.length ≤ 8000 := by
          rw [← hL, flat_len, List.length_take, Nat.min_eq_left (by omega)]
          have h9 := Nat.mul_le_mul (show k ≤ 1000 by omega) (show X ≤ 8 by omega)
          omega
        have HL := Lib.hid hL
        have HBT : Hid (∀ q, q < X → (be X n).take (q + 1) = (be X n).take q ++ [UInt8.ofNat (n / 256 ^ (X - 1 - q) % 256)]) := Lib.hid fun q h => be_take X n q h
        clear ha' he hn hL
        go_upto_region 7 with (go_at_call 53; refine HFk.out.mono ?_; rintro e w2 ⟨rfl, rfl⟩)
        go_wp2
        go_loopw [9] (fun p' wq => ∃ (q : Nat) (z : Int), p' = .int .i64 z ∧ Hid (z = (X : Int) - 1 - (q : Int)) ∧ q ≤ X ∧ Lib.IsBuilderF 67 5 w.heap.size w.heap.size (Lib.byteCells (L ++ (be X n).take q)) wq ∧ Hid (Below w.heap.size w wq)) (fun p _ => ((intOf p) + 1).toNat)
        case atStart => exact ⟨0, _, rfl, Lib.hid (by omega), by omega, by simpa using hI, hb⟩
        case round =>
          obtain ⟨q, z, rfl, hz, hq, hIq, hbq⟩ := hrel
          by_cases hql : q < X
          · obtain ⟨m, hm⟩ : ∃ m : Nat, z = m := ⟨z.toNat, by have := hz.out; omega⟩
            subst hm
            have hm8 : m < 8 := by have := hz.out; omega
            have HM : Hid (X - 1 - q = m) := Lib.hid (by have := hz.out; omega)
            obtain ⟨c, hc⟩ : ∃ c : Int, (n : Int) / 2 ^ (8 * m) % 256 = c := ⟨_, rfl⟩
            have hcon : Hid (Lib.byteCells (L ++ (be X n).take q) ++ [Value.int .u8 c] = Lib.byteCells (L ++ (be X n).take (q + 1))) := Lib.hid (by
              rw [HBT.out q hql, HM.out, ← hc, ← List.append_assoc, Lib.byteCells_append]
              have e1 : (n : Int) / 2 ^ (8 * m) % 256 = ((n / 256 ^ m % 256 : Nat) : Int) := by
                rw [Int.natCast_emod, Int.natCast_ediv, Int.natCast_pow, Int.pow_mul]; rfl
              have e2 : (UInt8.ofNat (n / 256 ^ m % 256)).toNat = n / 256 ^ m % 256 := by rw [UInt8.toNat_ofNat']; omega
              rw [e1, Lib.byteCells_append, Lib.byteCells_append]
              simp [Lib.byteCells, e2])
            have hsz : (Lib.byteCells (L ++ (be X n).take q)).length + 1 ≤ 140737488355328 := by
              rw [Lib.byteCells_length, List.length_append, List.length_take, be_len]
              omega
            go_wp2_with (go_at_call 44; refine (byte_written w.heap.size w.heap.size _ c wr hIq hsz hbq.out.size).mono ?_; rintro e w3 ⟨rfl, h1, b1, k1⟩)
            go_roundw
            case rel => exact ⟨q + 1, _, rfl, Lib.hid (by have := hz.out; omega), by omega, Or.inr (by rw [← hcon.out]; exact h1), Lib.hid (hbq.out.trans b1)⟩
            case measure => simp [intOf]
          · obtain rfl : q = X := by omega
            have hzn : z = -1 := by have := hz.out; omega
            subst hzn
            have hfin : Lib.IsBuilderF 67 5 w.heap.size w.heap.size (Lib.byteCells (flat q (l.take (k + 1)))) wr := by
              have e1 : flat q (l.take (k + 1)) = L ++ (be q n).take q := by
                rw [flat_take _ _ _ hlt, HL.out, HN.out, Int.toNat_natCast, List.take_of_length_le (by rw [be_len]; omega)]
              rw [e1]; exact hIq
            have HFI := Lib.hid hfin
            clear hfin hIq
            go_wp2
            go_roundw
            case rel => exact ⟨k + 1, by go_num, by omega, HFI.out, HA, hbq⟩
            case measure => simp [intOf]; omega
      · rw [decide_eq_false he] at HFk
        obtain ⟨h9, h10⟩ := HR8.out k hlt he
        have H9 := Lib.hid h9
        have H10 := Lib.hid h10
        clear h9 h10 he hI
        go_wp2_with (go_at_call 53; refine HFk.out.mono ?_; rintro e w2 ⟨rfl, rfl⟩)
        go_ret2
        exact ⟨_, by rw [H9.out]; rfl, Lib.hid (by rw [H10.out]), hb.out⟩
    · obtain rfl : k = l.length := by omega
      obtain ⟨h9, h10⟩ := HR0.out ha.out
      have H9 := Lib.hid h9
      have H10 := Lib.hid h10
      rw [List.take_length] at hI
      clear h9 h10
      go_wp2_with (go_at_call 32; refine (Tryd.Builder_String_any_k w.heap.size w.heap.size _ _ hI hb.out.size).mono ?_; rintro e w3 ⟨rfl, h1, b1, k1⟩)
      go_ret2
      exact ⟨_, by rw [H9.out]; rfl, Lib.hid (by rw [H10.out]), hb.out.trans b1⟩
theorem enc_nil (x : Int) : encE x [] = 0 ∧ encL x [] = [] := by
  have h0 : encE x [] = 0 := by unfold encE; rw [if_pos (by simp)]
  exact ⟨h0, by unfold encL; rw [if_pos h0]; rfl⟩
theorem oenc_none (a : Option Addr) (cap : Nat) (x : Int) (w : World) :
    Calls Tryd.prog 43 #[.int .i64 x, .slice a 0 cap] w fun e w' => ∃ t : ByteArray, e = .returned (.tuple #[.string t, .int .i64 (encE x [])]) ∧ Hid (t.data.toList = encL x []) ∧ Below w.heap.size w w' := by
  have HE := Lib.hid (enc_nil x)
  have hI0 : Lib.IsBuilderF 67 5 w.heap.size w.heap.size (Lib.byteCells []) (w.alloc (.cells #[.pointer none, .slice none 0 0] 67)) := Lib.IsBuilderF.of (Lib.fresh_isBuilder 67 5 w)
  have hb0 : Below w.heap.size w (w.alloc (.cells #[.pointer none, .slice none 0 0] 67)) := (Below.refl _ w).alloc (Nat.le_refl _) _
  have HI := Lib.hid hI0
  have HB := Lib.hid hb0
  clear hI0 hb0
  go_enter Tryd.func43, Tryd.ntmps43
  go_wp2
  go_loopw [12] (fun i' wr => i' = .int .i64 0 ∧ wr = w.alloc (.cells #[.pointer none, .slice none 0 0] 67)) (fun _ _ => 0)
  case atStart => exact ⟨rfl, rfl⟩
  case round =>
    obtain ⟨rfl, rfl⟩ := hrel
    go_wp2_with (go_at_call 32; refine (Tryd.Builder_String_any_k w.heap.size w.heap.size [] _ HI.out HB.out.size).mono ?_; rintro e w3 ⟨rfl, h1, b1, k1⟩)
    go_ret2
    exact ⟨_, by rw [HE.out.1]; rfl, Lib.hid (by rw [HE.out.2]), HB.out.trans b1⟩
theorem oenc_any (a : Option Addr) (cap : Nat) (x : Int) (l : List Int) (hw : wideW x) (hx : ∀ y ∈ l, y ≤ 9223372036854775807) (hl : l.length ≤ 1000) (w : World) (hi : Ints w.heap.size w a l) :
    Calls Tryd.prog 43 #[.int .i64 x, .slice a l.length cap] w fun e w' => ∃ t : ByteArray, e = .returned (.tuple #[.string t, .int .i64 (encE x l)]) ∧ Hid (t.data.toList = encL x l) ∧ Below w.heap.size w w' := by
  rcases hi with rfl | ⟨b, off, rfl, hB, hc⟩
  · exact oenc_none a cap x w
  · exact oenc_some b off cap x l hw hx hl w hB hc
/-- One number: what Put says. -/
theorem enc_one {n x : Int} (hw : wideW x) : encE x [n] = putE n x ∧ encL x [n] = putL n x := by
  have h1 : encE x [n] = putE n x := by
    unfold encE
    by_cases h : putE n x = 0
    · rw [if_pos (by simpa using h), h]
    · rw [if_neg (fun h2 => h (h2 n (by simp)))]
      rcases put_two hw n with h3 | h3
      · exact absurd h3 h
      · exact h3.symm
  refine ⟨h1, ?_⟩
  unfold encL putL
  rw [h1]
  split
  · rw [flat_one]; simp [flat]
  · rfl
/-- The encode of one number, in a literal that the call has laid. -/
theorem oenc_lit (n x : Int) (hw : wideW x) (hn : n ≤ 9223372036854775807) (w : World) (t : TypeId) :
    Calls Tryd.prog 43 #[.int .i64 x, .slice (some ⟨w.heap.size, 0, none⟩) 1 1] (w.alloc (.cells #[.int .i64 n] t)) fun e w' => ∃ u : ByteArray, e = .returned (.tuple #[.string u, .int .i64 (putE n x)]) ∧ Hid (u.data.toList = putL n x) ∧ Below w.heap.size w w' := by
  have h := oenc_any (some ⟨w.heap.size, 0, none⟩) 1 x [n] hw (by simpa using hn) (by simp) (w.alloc (.cells #[.int .i64 n] t)) (lit_one w n t)
  refine h.mono ?_
  rintro e w' ⟨u, rfl, hu, hb⟩
  refine ⟨u, by rw [(enc_one hw).1], Lib.hid (by rw [hu.out, (enc_one hw).2]), ?_⟩
  have h0 : Below w.heap.size w (w.alloc (.cells #[.int .i64 n] t)) := (Below.refl _ w).alloc (Nat.le_refl _) _
  exact h0.trans (hb.mono h0.size)
end Go.Proofs.YtpjahfobjnajcaaDoor
