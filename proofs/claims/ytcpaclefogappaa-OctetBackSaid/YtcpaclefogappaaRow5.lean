/- The document's own Row and Unrow, for every row of numbers and place, in every world. -/
import Derived.Test.YtcpaclefogappaaTexts5
import Derived.Test.YtcpaclefogappaaOwn
namespace Go.Proofs.Ytcpaclefogappaa
open Go.RowKit

theorem put_two {x : Int} (hw : wideW x) (n : Int) : putE n x = 0 ∨ putE n x = 8 := by
  unfold putE; rw [if_pos hw]; split
  · exact Or.inl rfl
  · exact Or.inr rfl
theorem put_len {n x : Int} (h : putE n x = 0) : (putL n x).length = x.toNat := by unfold putL; rw [if_pos h, be_len]
theorem flat_take (w : Nat) (l : List Int) (k : Nat) (h : k < l.length) : flat w (l.take (k + 1)) = flat w (l.take k) ++ be w (numAt l k).toNat := by
  rw [take_more l k h, flat_more]
  simp [flat]

set_option maxHeartbeats 2000000 in
theorem rrow_some (b off cap : Nat) (x : Int) (l : List Int) (hx : ∀ y ∈ l, y ≤ 9223372036854775807) (hl : l.length ≤ 4611686018427387904) (w : World) (hB : b < w.heap.size) (hc : ∀ j, j < l.length → w.cell? ⟨b, off + j, none⟩ = some (.int .i64 (numAt l j))) :
    Calls Try.prog 20 #[.int .i64 x, .slice (some ⟨b, off, none⟩) l.length cap] w fun e w' => ∃ t : ByteArray, e = .returned (.tuple #[.string t, .int .i64 (rowE x l)]) ∧ Hid (t.data.toList = rowL x l) ∧ Below w.heap.size w w' := by
  have HW : Hid (∀ v, Calls Try.prog 26 #[.int .i64 x] v fun e w' => e = .returned (.bool (decide (wideW x))) ∧ v = w') := Lib.hid fun v => rwide_any x v
  have hbad : rowE x l ≠ 0 → rowL x l = [] := fun h => by unfold rowL; rw [if_neg h]
  by_cases hw : wideW x
  · rw [decide_eq_true hw] at HW
    obtain ⟨w1, w2, w3⟩ := wide_nat hw
    by_cases h1 : 1000 < l.length
    · have he : rowE x l = 3 := by unfold rowE; rw [if_pos hw, if_pos h1]
      have hr := hbad (by omega)
      have d1 : decide ((1000 : Int) < (l.length : Int)) = true := decide_eq_true (by omega)
      rw [he, hr]
      clear he hr hbad h1 hc
      go_enter Try.func20, Try.ntmps20
      go_wp2_with (go_at_call 26; refine (HW.out _).mono ?_; rintro e w1 ⟨rfl, rfl⟩)
      go_ret2
      exact ⟨_, rfl, Lib.hid rfl, Below.refl _ _⟩
    · have d1 : decide ((1000 : Int) < (l.length : Int)) = false := decide_eq_false (by omega)
      have hE2 : putE (l.length : Int) 2 = 0 := by unfold putE; rw [if_pos (by unfold wideW; omega), if_pos (by rw [show (2 : Int).toNat = 2 from rfl]; omega)]
      have HP := Lib.hid (rput_any (l.length : Int) 2 (by omega) w)
      have HQ : Hid (∀ (j : Nat) (v : World), j < l.length → Calls Try.prog 11 #[.int .i64 (numAt l j), .int .i64 x] v fun e w' => ∃ t : ByteArray, e = .returned (.tuple #[.string t, .int .i64 (putE (numAt l j) x)]) ∧ Hid (t.data.toList = putL (numAt l j) x) ∧ Below v.heap.size v w') :=
        Lib.hid fun j v hj => rput_any (numAt l j) x (hx _ (num_mem l j hj)) v
      have HC := Lib.hid hc
      have HE2 : Hid (putL (l.length : Int) 2 = be 2 l.length) := Lib.hid (by unfold putL; rw [if_pos hE2]; rfl)
      have HR8 : Hid (∀ j, j < l.length → putE (numAt l j) x ≠ 0 → putE (numAt l j) x = 8 ∧ rowE x l = 8 ∧ rowL x l = []) := Lib.hid fun j hj hne => by
        have h8 : rowE x l = 8 := by
          unfold rowE
          rw [if_pos hw, if_neg h1, if_neg (fun h => hne (h _ (num_mem l j hj)))]
        exact ⟨by rcases put_two hw (numAt l j) with h | h; exact absurd h hne; exact h, h8, hbad (by omega)⟩
      have HR0 : Hid ((∀ j, j < l.length → putE (numAt l j) x = 0) → rowE x l = 0 ∧ rowL x l = be 2 l.length ++ flat x.toNat l) := Lib.hid fun h => by
        have h0 : rowE x l = 0 := by
          unfold rowE
          rw [if_pos hw, if_neg h1, if_pos]
          intro y hy
          obtain ⟨j, hj, rfl⟩ := List.getElem_of_mem hy
          have := h j hj
          unfold numAt at this
          rw [List.getD_eq_getElem?_getD, List.getElem?_eq_getElem hj] at this
          exact this
        exact ⟨h0, by unfold rowL flat; rw [if_pos h0]⟩
      have hn : l.length ≤ 1000 := by omega
      clear hbad hc hE2 h1
      go_enter Try.func20, Try.ntmps20
      go_wp2_with (first | (go_at_call 26; refine (HW.out _).mono ?_; rintro e w1 ⟨rfl, rfl⟩) | (go_at_call 11; refine HP.out.mono ?_; rintro e w1 ⟨t0, rfl, ht0, hb0⟩))
      go_loopw [6, 8] (fun o' i' wr => ∃ (k : Nat) (t : ByteArray), i' = .int .i64 k ∧ o' = .string t ∧ k ≤ l.length ∧ Hid (t.data.toList = be 2 l.length ++ flat x.toNat (l.take k)) ∧ Hid (∀ j, j < k → putE (numAt l j) x = 0) ∧ Hid (Below w.heap.size w wr)) (fun _ i _ => l.length - (intOf i).toNat)
      case atStart => exact ⟨0, t0, rfl, rfl, by omega, Lib.hid (by rw [ht0.out, HE2.out]; simp [flat]), Lib.hid (fun j h => absurd h (by omega)), Lib.hid hb0⟩
      case round =>
        clear ht0 hb0
        obtain ⟨k, t, rfl, rfl, hk, ht, ha, hb⟩ := hrel
        by_cases hlt : k < l.length
        · have hcell := (hb.out.cell (p := ⟨b, off + k, none⟩) hB).trans (HC.out k hlt)
          have HQk := Lib.hid (HQ.out k wr hlt)
          have i1 : (k : Int) < (l.length : Int) := by omega
          by_cases he : putE (numAt l k) x = 0
          · have d2 : (putE (numAt l k) x != 0) = false := by rw [he]; rfl
            have hts : t.size = 2 + k * x.toNat := by
              have := congrArg List.length ht.out
              rw [List.length_append, be_len, flat_len, List.length_take, Nat.min_eq_left (by omega)] at this
              simpa using this
            have hkx : k * x.toNat ≤ 8000 := by
              have h9 := Nat.mul_le_mul (show k ≤ 1000 by omega) (show x.toNat ≤ 8 by omega)
              omega
            have HPL : Hid (putL (numAt l k) x = be x.toNat (numAt l k).toNat) := Lib.hid (by unfold putL; rw [if_pos he])
            have hpl : (putL (numAt l k) x).length ≤ 8 := by rw [put_len he]; omega
            have ha' : ∀ j, j < k + 1 → putE (numAt l j) x = 0 := fun j h => by
              rcases (by omega : j < k ∨ j = k) with g | g
              · exact ha.out j g
              · rw [g]; exact he
            have HA := Lib.hid ha'
            have HPN := Lib.hid hpl
            have htz : t.size ≤ 8002 := by omega
            clear hts hkx hpl ha' he
            generalize putE (numAt l k) x = E at *
            go_wp2_with (go_at_call 11; (refine HQk.out.mono ?_; rintro e w2 ⟨u, rfl, hu, hb2⟩; have hus : u.size ≤ 8 := (by have h9 := HPN.out; rw [← hu.out] at h9; simpa using h9); have hsz : ¬ 9223372036854775807 < t.size + u.size := by omega))
            go_roundw
            case rel => exact ⟨k + 1, t ++ u, by go_num, rfl, by omega, Lib.hid (by rw [flat_take _ _ _ hlt, ← List.append_assoc, ← ht.out, ← HPL.out, ← hu.out]; simp), HA, Lib.hid (hb.out.trans (hb2.mono hb.out.size))⟩
            case measure => simp [intOf]; omega
          · have d2 : (putE (numAt l k) x != 0) = true := by rw [bne_iff_ne]; exact he
            obtain ⟨h8, h9, h10⟩ := HR8.out k hlt he
            have H8 := Lib.hid h8
            have H9 := Lib.hid h9
            have H10 := Lib.hid h10
            clear h8 h9 h10 he
            go_wp2_with (go_at_call 11; refine HQk.out.mono ?_; rintro e w2 ⟨u, rfl, hu, hb2⟩)
            go_ret2
            exact ⟨_, by rw [H9.out, ← H8.out]; rfl, Lib.hid (by rw [H10.out]), hb.out.trans (hb2.mono hb.out.size)⟩
        · obtain rfl : k = l.length := by omega
          obtain ⟨h9, h10⟩ := HR0.out ha.out
          have H9 := Lib.hid h9
          have H10 := Lib.hid h10
          clear h9 h10
          go_wp2
          go_ret2
          exact ⟨t, by rw [H9.out]; rfl, Lib.hid (by rw [H10.out, ht.out, List.take_length]), hb.out⟩
  · have he : rowE x l = 2 := by unfold rowE; rw [if_neg hw]
    have hr := hbad (by omega)
    rw [decide_eq_false hw] at HW
    rw [he, hr]
    clear he hr hbad hc
    go_enter Try.func20, Try.ntmps20
    go_wp2_with (go_at_call 26; refine (HW.out _).mono ?_; rintro e w1 ⟨rfl, rfl⟩)
    go_ret2
    exact ⟨_, rfl, Lib.hid rfl, Below.refl _ _⟩
theorem rrow_none (a : Option Addr) (cap : Nat) (x : Int) (w : World) :
    Calls Try.prog 20 #[.int .i64 x, .slice a 0 cap] w fun e w' => ∃ t : ByteArray, e = .returned (.tuple #[.string t, .int .i64 (rowE x [])]) ∧ Hid (t.data.toList = rowL x []) ∧ Below w.heap.size w w' := by
  have HW : Hid (∀ v, Calls Try.prog 26 #[.int .i64 x] v fun e w' => e = .returned (.bool (decide (wideW x))) ∧ v = w') := Lib.hid fun v => rwide_any x v
  by_cases hw : wideW x
  · rw [decide_eq_true hw] at HW
    have he : rowE x [] = 0 := by unfold rowE; rw [if_pos hw, if_neg (by simp), if_pos (by simp)]
    have HR : Hid (rowL x [] = be 2 0) := Lib.hid (by unfold rowL; rw [if_pos he]; rfl)
    have HP := Lib.hid (rput_any 0 2 (by omega) w)
    have HE2 : Hid (putL 0 2 = be 2 0) := Lib.hid (by decide)
    rw [he]
    clear he
    go_enter Try.func20, Try.ntmps20
    go_wp2_with (first | (go_at_call 26; refine (HW.out _).mono ?_; rintro e w1 ⟨rfl, rfl⟩) | (go_at_call 11; refine HP.out.mono ?_; rintro e w1 ⟨t0, rfl, ht0, hb0⟩))
    go_loopw [6, 8] (fun o' i' wr => i' = .int .i64 0 ∧ o' = .string t0 ∧ w1 = wr) (fun _ _ _ => 0)
    case atStart => exact ⟨rfl, rfl, rfl⟩
    case round =>
      obtain ⟨rfl, rfl, rfl⟩ := hrel
      go_wp2
      go_ret2
      exact ⟨t0, rfl, Lib.hid (by rw [HR.out, ht0.out, HE2.out]), hb0⟩
  · have he : rowE x [] = 2 := by unfold rowE; rw [if_neg hw]
    have hr : rowL x [] = [] := by unfold rowL; rw [if_neg (by omega)]
    rw [decide_eq_false hw] at HW
    rw [he, hr]
    clear he hr
    go_enter Try.func20, Try.ntmps20
    go_wp2_with (go_at_call 26; refine (HW.out _).mono ?_; rintro e w1 ⟨rfl, rfl⟩)
    go_ret2
    exact ⟨_, rfl, Lib.hid rfl, Below.refl _ _⟩
theorem rrow_any (a : Option Addr) (cap : Nat) (x : Int) (l : List Int) (hx : ∀ y ∈ l, y ≤ 9223372036854775807) (hl : l.length ≤ 4611686018427387904) (w : World) (hi : Ints w.heap.size w a l) :
    Calls Try.prog 20 #[.int .i64 x, .slice a l.length cap] w fun e w' => ∃ t : ByteArray, e = .returned (.tuple #[.string t, .int .i64 (rowE x l)]) ∧ Hid (t.data.toList = rowL x l) ∧ Below w.heap.size w w' := by
  rcases hi with rfl | ⟨b, off, rfl, hB, hc⟩
  · exact rrow_none a cap x w
  · exact rrow_some b off cap x l hx hl w hB hc

set_option maxHeartbeats 2000000 in
theorem runrow_new (s : ByteArray) (hs : s.size ≤ 4611686018427387904) (p x m : Int) (hp0 : -9223372036854775808 ≤ p) (hp1 : p ≤ 9223372036854775807) (w : World) :
    Calls Try.prog 22 #[.string s, .int .i64 p, .int .i64 x, .int .i64 m] w fun e w' => ∃ a c, e = .returned (.tuple #[.slice a (unrowL s.data.toList p x m).length c, .int .i64 (unrowT s.data.toList p x m), .int .i64 (unrowE s.data.toList p x m)]) ∧ IntsNew w.heap.size w'.heap.size w' a (unrowL s.data.toList p x m) ∧ Below w.heap.size w w' := by
  have HW : Hid (∀ v, Calls Try.prog 26 #[.int .i64 x] v fun e w' => e = .returned (.bool (decide (wideW x))) ∧ v = w') := Lib.hid fun v => rwide_any x v
  have HG := Lib.hid (rget_any s hs p 2 hp0 hp1 w)
  have hz : s.data.toList.length = s.size := by simp
  have hbad : unrowE s.data.toList p x m ≠ 0 → unrowL s.data.toList p x m = [] ∧ unrowT s.data.toList p x m = 0 := fun h => by unfold unrowL unrowT; rw [if_neg h, if_neg h]; exact ⟨rfl, rfl⟩
  by_cases ha : wideW x ∧ 0 ≤ p ∧ p ≤ s.size ∧ 0 ≤ m
  · rw [decide_eq_true ha.1] at HW
    obtain ⟨w1, w2, w3⟩ := wide_nat ha.1
    have d1 : decide (m < 0) = false := decide_eq_false (by omega)
    have d2 : decide (p < 0) = false := decide_eq_false (by omega)
    have d3 : decide ((s.size : Int) < p) = false := decide_eq_false (by omega)
    by_cases hg : getE s.data.toList p 2 = 0
    · have hv : getT s.data.toList p 2 = p + 2 := by unfold getT; rw [if_pos hg]
      obtain ⟨b0, _, _, _⟩ := get_bound hg
      obtain ⟨_, _, f1, _⟩ := get_fine hg
      rw [hz] at f1
      have hgd : (getE s.data.toList p 2 != 0) = false := by rw [hg]; rfl
      rw [hv] at HG
      obtain ⟨n, hn⟩ : ∃ n : Nat, getV s.data.toList p 2 = n := ⟨(getV s.data.toList p 2).toNat, by omega⟩
      have hE : unrowE s.data.toList p x m = if m < (n : Int) ∨ 1000 < (n : Int) then 3 else match badAt s.data.toList (p + 2) x n with | some i => getE s.data.toList (p + 2 + i * x) x | none => 0 := by
        unfold unrowE; rw [hz, if_pos ⟨ha.1, ha.2.1, ha.2.2.1, ha.2.2.2⟩, if_pos hg, hn, Int.toNat_natCast]
        rfl
      rw [hn] at HG
      by_cases h1 : m < (n : Int) ∨ 1000 < (n : Int)
      · rw [if_pos h1] at hE
        obtain ⟨hl, ht⟩ := hbad (by omega)
        rw [hE, hl, ht]
        clear hbad hE hl ht hz ha hg hv b0 f1 hn
        generalize getE s.data.toList p 2 = E at *
        by_cases h2 : m < (n : Int)
        · have d4 : decide (m < (n : Int)) = true := decide_eq_true h2
          clear h1 h2
          go_enter Try.func22, Try.ntmps22
          go_wp2_with (first | (go_at_call 26; refine (HW.out _).mono ?_; rintro e w1 ⟨rfl, rfl⟩) | (go_at_call 13; refine HG.out.mono ?_; rintro e w1 ⟨rfl, rfl⟩))
          go_ret3
          exact ⟨none, 0, rfl, Or.inl rfl, Below.refl _ _⟩
        · have d4 : decide (m < (n : Int)) = false := decide_eq_false h2
          have d5 : decide (1000 < (n : Int)) = true := decide_eq_true (by omega)
          clear h1 h2
          go_enter Try.func22, Try.ntmps22
          go_wp2_with (first | (go_at_call 26; refine (HW.out _).mono ?_; rintro e w1 ⟨rfl, rfl⟩) | (go_at_call 13; refine HG.out.mono ?_; rintro e w1 ⟨rfl, rfl⟩))
          go_ret3
          exact ⟨none, 0, rfl, Or.inl rfl, Below.refl _ _⟩
      · rw [if_neg h1] at hE
        have d4 : decide (m < (n : Int)) = false := decide_eq_false (by omega)
        have d5 : decide (1000 < (n : Int)) = false := decide_eq_false (by omega)
        have hn2 : n ≤ 1000 := by omega
        -- what comes of the elements
        have HX : Hid (∀ i : Nat, i < n → (∀ j : Nat, j < i → getE s.data.toList (p + 2 + j * x) x = 0) → getE s.data.toList (p + 2 + i * x) x ≠ 0 → unrowE s.data.toList p x m = getE s.data.toList (p + 2 + i * x) x ∧ unrowL s.data.toList p x m = [] ∧ unrowT s.data.toList p x m = 0) := Lib.hid fun i hi hj hne => by
          have e1 : unrowE s.data.toList p x m = getE s.data.toList (p + 2 + i * x) x := by rw [hE, bad_first hi hne hj]
          obtain ⟨hl, ht⟩ := hbad (by rw [e1]; exact hne)
          exact ⟨e1, hl, ht⟩
        have HY : Hid ((∀ j : Nat, j < n → getE s.data.toList (p + 2 + j * x) x = 0) → unrowE s.data.toList p x m = 0 ∧ unrowL s.data.toList p x m = (List.range n).map (fun (i : Nat) => getV s.data.toList (p + 2 + i * x) x) ∧ unrowT s.data.toList p x m = p + 2 + n * x) := Lib.hid fun hj => by
          have e1 : unrowE s.data.toList p x m = 0 := by rw [hE, bad_none hj]
          refine ⟨e1, ?_, ?_⟩
          · unfold unrowL; rw [if_pos e1, hn, Int.toNat_natCast]
          · unfold unrowT; rw [if_pos e1, hn]
        have HQ : Hid (∀ (t : Int) (v : World), -9223372036854775808 ≤ t → t ≤ 9223372036854775807 → Calls Try.prog 13 #[.string s, .int .i64 t, .int .i64 x] v fun e w' => e = .returned (.tuple #[.int .i64 (getV s.data.toList t x), .int .i64 (getT s.data.toList t x), .int .i64 (getE s.data.toList t x)]) ∧ v = w') := Lib.hid fun t v h h' => rget_any s hs t x h h' v
        have HT : Hid (∀ t, getE s.data.toList t x = 0 → getT s.data.toList t x = t + x) := Lib.hid fun t h => by unfold getT; rw [if_pos h]
        have hp2 : 0 ≤ p ∧ p ≤ s.size := ⟨ha.2.1, ha.2.2.1⟩
        clear hbad hE hz ha hg hv b0 f1 hn h1
        generalize getE s.data.toList p 2 = E at *
        go_enter Try.func22, Try.ntmps22
        go_wp2_with (first | (go_at_call 26; refine (HW.out _).mono ?_; rintro e w1 ⟨rfl, rfl⟩) | (go_at_call 13; refine HG.out.mono ?_; rintro e w1 ⟨rfl, rfl⟩))
        go_loopw [12, 14, 15] (fun t' o' i' wr => ∃ k : Nat, i' = .int .i64 k ∧ t' = .int .i64 (p + 2 + k * x) ∧ k ≤ n ∧ wr.ownsRow w.heap.size 3 1 o' k (intCells ((List.range k).map (fun (i : Nat) => getV s.data.toList (p + 2 + i * x) x))) ∧ Hid (∀ j : Nat, j < k → getE s.data.toList (p + 2 + j * x) x = 0) ∧ Hid (Below w.heap.size w wr)) (fun _ _ i _ => n - (intOf i).toNat)
        case atStart => exact ⟨0, rfl, by simp, by omega, World.ownsRow_nil _ _ _ _, Lib.hid (fun j h => absurd h (by omega)), Lib.hid (Below.refl _ _)⟩
        case round =>
          obtain ⟨k, rfl, rfl, hk, ho, hall, hb⟩ := hrel
          by_cases hlt : k < n
          · have hkx : 0 ≤ (k : Int) * x ∧ (k : Int) * x ≤ 8000 := by
              have h9 := Int.mul_le_mul (show (k : Int) ≤ 1000 by omega) (show x ≤ 8 by omega) (by omega) (by omega)
              exact ⟨Int.mul_nonneg (by omega) (by omega), by omega⟩
            obtain ⟨T, hT⟩ : ∃ T, p + 2 + (k : Int) * x = T := ⟨_, rfl⟩
            have HQk := Lib.hid (HQ.out T wr (by omega) (by omega))
            have i1 : (k : Int) < (n : Int) := by omega
            by_cases he : getE s.data.toList T x = 0
            · have d6 : (getE s.data.toList T x != 0) = false := by rw [he]; rfl
              have hnx := HT.out T he
              have HA : Hid (∀ j : Nat, j < k + 1 → getE s.data.toList (p + 2 + j * x) x = 0) := Lib.hid fun j h => by
                rcases (by omega : j < k ∨ j = k) with g | g
                · exact hall.out j g
                · rw [g, hT]; exact he
              have HNX : Hid (T + x = p + 2 + ((k + 1 : Nat) : Int) * x) := Lib.hid (by rw [← hT, Int.natCast_add, Int.add_mul]; omega)
              have HVL : Hid (getV s.data.toList T x = (fun (i : Nat) => getV s.data.toList (p + 2 + i * x) x) k) := Lib.hid (by rw [← hT])
              rw [hnx] at HQk
              have HTT := Lib.hid hT
              rw [hT]
              clear he hnx hkx hT
              generalize getE s.data.toList T x = E2 at *
              go_wp2_with (first
                | (go_at_call 13; refine HQk.out.mono ?_; rintro e w1 ⟨rfl, rfl⟩)
                | (at_builtin; refine append_int rfl _ _ rfl w.heap.size k _ _ rfl ho _ rfl (by omega) hb.out.size ?_))
              intro u2 w2 ho2 hg2
              have hb2 : Below w.heap.size w w2 := (hb.out.alloc hb.out.size _).grown hg2 (by have := hb.out.size; simp; omega) (fun g hg => (ho.lt g hg).1)
              rw [intCells_more, HVL.out, range_more] at ho2
              have HB2 := Lib.hid hb2
              clear hb2 hg2 ho
              go_wp2_with fail
              go_roundw
              case rel => exact ⟨k + 1, by go_num, by rw [HNX.out], by omega, ho2, HA, HB2⟩
              case measure => simp [intOf]; omega
            · obtain ⟨e1, e2, e3⟩ := HX.out k hlt hall.out (by rw [hT]; exact he)
              rw [hT] at e1
              have d6 : (getE s.data.toList T x != 0) = true := by rw [bne_iff_ne]; exact he
              have H1 := Lib.hid e1
              have H2 := Lib.hid e2
              have H3 := Lib.hid e3
              rw [hT]
              clear he e1 e2 e3 hkx hT
              go_wp2_with (go_at_call 13; refine HQk.out.mono ?_; rintro e w1 ⟨rfl, rfl⟩)
              go_ret3
              exact ⟨none, 0, by rw [H1.out, H2.out, H3.out]; rfl, by rw [H2.out]; exact Or.inl rfl, hb.out⟩
          · obtain rfl : k = n := by omega
            obtain ⟨e1, e2, e3⟩ := HY.out hall.out
            have H1 := Lib.hid e1
            have H3 := Lib.hid e3
            rw [← e2] at ho
            have hl : (unrowL s.data.toList p x m).length = k := by rw [e2]; simp
            rw [← hl] at ho
            obtain ⟨a, c, hv, hI⟩ := ints_own_new ho
            subst hv
            have HI := Lib.hid hI
            clear e1 e2 e3 hl hI ho
            go_wp2
            go_ret3
            exact ⟨a, c, by rw [H1.out, H3.out]; rfl, HI.out, hb.out⟩
    · have hgd : (getE s.data.toList p 2 != 0) = true := by rw [bne_iff_ne]; exact hg
      have he : unrowE s.data.toList p x m = getE s.data.toList p 2 := by unfold unrowE; rw [hz, if_pos ⟨ha.1, ha.2.1, ha.2.2.1, ha.2.2.2⟩, if_neg hg]
      obtain ⟨hl, ht⟩ := hbad (by rw [he]; exact hg)
      rw [he, hl, ht]
      clear hbad he hl ht hz ha hg
      go_enter Try.func22, Try.ntmps22
      go_wp2_with (first | (go_at_call 26; refine (HW.out _).mono ?_; rintro e w1 ⟨rfl, rfl⟩) | (go_at_call 13; refine HG.out.mono ?_; rintro e w1 ⟨rfl, rfl⟩))
      go_ret3
      exact ⟨none, 0, rfl, Or.inl rfl, Below.refl _ _⟩
  · have he : unrowE s.data.toList p x m = 2 := by unfold unrowE; rw [hz, if_neg ha]
    obtain ⟨hl, ht⟩ := hbad (by omega)
    rw [he, hl, ht]
    clear hbad he hl ht hz HG
    by_cases hw : wideW x
    · rw [decide_eq_true hw] at HW
      by_cases h2 : p < 0
      · have d2 : decide (p < 0) = true := decide_eq_true h2
        clear ha h2
        go_enter Try.func22, Try.ntmps22
        go_wp2_with (go_at_call 26; refine (HW.out _).mono ?_; rintro e w1 ⟨rfl, rfl⟩)
        go_ret3
        exact ⟨none, 0, rfl, Or.inl rfl, Below.refl _ _⟩
      · have d2 : decide (p < 0) = false := decide_eq_false h2
        by_cases h3 : (s.size : Int) < p
        · have d3 : decide ((s.size : Int) < p) = true := decide_eq_true h3
          clear ha h2 h3
          go_enter Try.func22, Try.ntmps22
          go_wp2_with (go_at_call 26; refine (HW.out _).mono ?_; rintro e w1 ⟨rfl, rfl⟩)
          go_ret3
          exact ⟨none, 0, rfl, Or.inl rfl, Below.refl _ _⟩
        · have d3 : decide ((s.size : Int) < p) = false := decide_eq_false h3
          have d1 : decide (m < 0) = true := decide_eq_true (by
            rcases (by omega : m < 0 ∨ 0 ≤ m) with h4 | h4
            · exact h4
            · exact absurd ⟨hw, by omega, by omega, h4⟩ ha)
          clear ha h2 h3
          go_enter Try.func22, Try.ntmps22
          go_wp2_with (go_at_call 26; refine (HW.out _).mono ?_; rintro e w1 ⟨rfl, rfl⟩)
          go_ret3
          exact ⟨none, 0, rfl, Or.inl rfl, Below.refl _ _⟩
    · rw [decide_eq_false hw] at HW
      clear ha
      go_enter Try.func22, Try.ntmps22
      go_wp2_with (go_at_call 26; refine (HW.out _).mono ?_; rintro e w1 ⟨rfl, rfl⟩)
      go_ret3
      exact ⟨none, 0, rfl, Or.inl rfl, Below.refl _ _⟩
theorem runrow_any (s : ByteArray) (hs : s.size ≤ 4611686018427387904) (p x m : Int) (hp0 : -9223372036854775808 ≤ p) (hp1 : p ≤ 9223372036854775807) (w : World) :
    Calls Try.prog 22 #[.string s, .int .i64 p, .int .i64 x, .int .i64 m] w fun e w' => ∃ a c, e = .returned (.tuple #[.slice a (unrowL s.data.toList p x m).length c, .int .i64 (unrowT s.data.toList p x m), .int .i64 (unrowE s.data.toList p x m)]) ∧ Ints w'.heap.size w' a (unrowL s.data.toList p x m) ∧ Below w.heap.size w w' :=
  (runrow_new s hs p x m hp0 hp1 w).mono fun _ _ ⟨a, c, he, hi, hb⟩ => ⟨a, c, he, hi.ints, hb⟩
end Go.Proofs.Ytcpaclefogappaa
