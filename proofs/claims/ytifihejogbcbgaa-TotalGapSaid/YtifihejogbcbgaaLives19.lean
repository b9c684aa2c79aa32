/- The walk of TotalLives, from what is wanted of rule's and total's functions (written by mk_lives19.py). -/
import Derived.Test.YtifihejogbcbgaaDead19
import Derived.Test.YtifihejogbcbgaaRefA19
namespace Go.Proofs.Ytifihejogbcbgaa
open Go.RowKit

def liv19 (p : Nat → Bool) : Array Value := ((List.range 40).map fun j => Value.bool (p j)).toArray
theorem liv19_start : #[.bool false, .bool false, .bool false, .bool false, .bool false, .bool false, .bool false, .bool false, .bool false, .bool false, .bool false, .bool false, .bool false, .bool false, .bool false, .bool false, .bool false, .bool false, .bool false, .bool false, .bool false, .bool false, .bool false, .bool false, .bool false, .bool false, .bool false, .bool false, .bool false, .bool false, .bool false, .bool false, .bool false, .bool false, .bool false, .bool false, .bool false, .bool false, .bool false, .bool false] = liv19 (fun _ => false) := by rfl
theorem liv19_has (p : Nat → Bool) {j : Nat} (h : j < 40) : (liv19 p)[j]? = some (.bool (p j)) := by
  unfold liv19
  rw [List.getElem?_toArray, List.getElem?_map, List.getElem?_range h]
  rfl
theorem liv19_set (p : Nat → Bool) {q : Nat} (h : q < 40) : (liv19 p).setIfInBounds q (.bool true) = liv19 (fun j => p j || (some q == some j)) := by
  unfold liv19
  rw [List.setIfInBounds_toArray]
  congr 1
  refine List.ext_getElem? fun j => ?_
  rw [List.getElem?_set]
  by_cases hj : j < 40
  · rw [List.getElem?_map, List.getElem?_map, List.getElem?_range hj]
    by_cases hq : q = j
    · subst hq; simp [h]
    · simp [hq]
  · have h1 : ∀ g : Nat → Value, ((List.range 40).map g)[j]? = none := fun g => by rw [List.getElem?_eq_none_iff]; simp; omega
    rw [h1, h1]
    split
    · next hqj => omega
    · rfl
/-- Which rows decide at some of the first c cells, and at the first i amounts of the next one. -/
def hitJ (l : List Row18) (c : Nat) (n : Int) (j : Nat) : Bool := firstTo l (cellF c n) l.length == some j
def livJC (l : List Row18) (c j : Nat) : Bool := (List.range c).any fun c => (amtL l).any fun n => hitJ l c n j
def livJ (l : List Row18) (c i j : Nat) : Bool := livJC l c j || ((amtL l).take i).any fun n => hitJ l c n j
theorem livJ_zero (l : List Row18) : livJ l 0 0 = fun _ => false := by funext j; simp [livJ, livJC]
theorem livJ_more (l : List Row18) (c : Nat) {i : Nat} (hi : i < (amtL l).length) : livJ l c (i + 1) = fun j => livJ l c i j || hitJ l c (numAt (amtL l) i) j := by
  funext j
  unfold livJ
  rw [take_more _ _ hi, List.any_append, Bool.or_assoc]
  simp
theorem livJ_next (l : List Row18) (c : Nat) : livJ l c (amtL l).length = livJ l (c + 1) 0 := by
  funext j
  unfold livJ livJC
  rw [List.take_length, List.range_succ, List.any_append]
  simp
theorem livJ_all {l : List Row18} {j : Nat} (h : j < l.length) : livJ l 8 0 j = livesB l j := by
  have e : (livJ l 8 0 j = true) ↔ (livesB l j = true) := by
    rw [lives_iff h]
    unfold livJ livJC hitJ
    simp only [List.take_zero, List.any_nil, Bool.or_false, List.any_eq_true, List.mem_range, beq_iff_eq]
  cases h1 : livJ l 8 0 j <;> cases h2 : livesB l j <;> simp_all
/-- The array under way. -/
structure Liv19 (w W : World) (p : Nat → Bool) : Prop where
  now : W.heap[w.heap.size]? = some (.cells (liv19 p) 53 (0, 0))
  below : Below w.heap.size w W
theorem Liv19.step {w W W' : World} {p : Nat → Bool} (h : Liv19 w W p) (hb : Below W.heap.size W W') : Liv19 w W' p := ⟨old_obj hb h.now, h.below.trans (hb.mono h.below.size)⟩
theorem Liv19.store {w W : World} {p : Nat → Bool} (h : Liv19 w W p) {q : Nat} (hq : q < 40) : Liv19 w (W.setCell ⟨w.heap.size, q, none⟩ (.bool true)) (fun j => p j || (some q == some j)) :=
  ⟨by rw [← liv19_set p hq]; exact heap_setCell_same W _ q _ _ _ h.now, h.below.setCell (p := ⟨w.heap.size, q, none⟩) (Nat.le_refl _) _⟩
/-- The amounts, which lie apart from the array. -/
def Mb19 (xs : List Int) (mb : Option Addr) (g : Nat) (W : World) : Prop := ∀ i, i < xs.length → ∃ b o, mb = some ⟨b, o, none⟩ ∧ b ≠ g ∧ b < W.heap.size ∧ W.cell? ⟨b, o + i, none⟩ = some (.int .i64 (numAt xs i))
theorem mb19_start {xs : List Int} {mb : Option Addr} {W : World} {g : Nat} {p : Nat → Bool} {t : TypeId} (h : Ints W.heap.size W mb xs) (hg : W.heap[g]? = some (.cells (liv19 p) t (0, 0))) : Mb19 xs mb g W := by
  intro i hi
  rcases h with z | ⟨b, o, rfl, hB, hc⟩
  · rw [z] at hi; simp at hi
  · refine ⟨b, o, rfl, ?_, hB, hc i hi⟩
    rintro rfl
    have h1 := hc i hi
    unfold World.cell? at h1
    rw [hg] at h1
    have h2 : (liv19 p)[o + i]? = some (.int .i64 (numAt xs i)) := h1
    by_cases hj : o + i < 40
    · rw [liv19_has p hj] at h2; cases h2
    · unfold liv19 at h2
      rw [List.getElem?_toArray, List.getElem?_eq_none_iff.2 (by simp; omega)] at h2
      cases h2
theorem Mb19.step {xs : List Int} {mb : Option Addr} {g : Nat} {W W' : World} (h : Mb19 xs mb g W) (hb : Below W.heap.size W W') : Mb19 xs mb g W' := fun i hi => by
  obtain ⟨b, o, h1, h2, h3, h4⟩ := h i hi
  exact ⟨b, o, h1, h2, Nat.lt_of_lt_of_le h3 hb.size, (hb.cell (p := ⟨b, o + i, none⟩) h3).trans h4⟩
theorem Mb19.store {xs : List Int} {mb : Option Addr} {g : Nat} {W : World} (h : Mb19 xs mb g W) (q : Nat) (v : Value) : Mb19 xs mb g (W.setCell ⟨g, q, none⟩ v) := fun i hi => by
  obtain ⟨b, o, h1, h2, h3, h4⟩ := h i hi
  refine ⟨b, o, h1, h2, by simpa using h3, ?_⟩
  rw [World.cell?_setCell_other _ ⟨g, q, none⟩ ⟨b, o + i, none⟩ v (fun e => h2 (by injection e with e1; exact e1.symm))]
  exact h4
set_option maxRecDepth 100000 in
set_option maxHeartbeats 8000000 in
theorem totalLives_from (R : Rule19) (H : Total19) (HK : TotalC19) (w : World) (a : Option Addr) (cap : Nat) (l : List Row18) (_ : l.length ≤ maxLen) (hx : RowsIn w.heap.size w a l) (hcap : l.length ≤ cap) :
    Calls Try.prog 6 #[.slice a l.length cap] w fun e w' => e = .returned (.bool true) ∧ Below w.heap.size w w' := by
  have HAW : Hid (∀ W, Calls Try.prog 7 #[] W fun e w' => e = .returned (.bool true) ∧ Below W.heap.size W w') := Lib.hid fun W => awake19 H HK W
  by_cases hl : 40 < l.length
  · have e1 : decide (40 < (l.length : Int)) = true := decide_eq_true (by omega)
    have e1' : decide (40 < l.length) = true := decide_eq_true hl
    clear hl hx hcap R H HK
    go_enter Try.func6, Try.ntmps6
    go_wp2_with (go_at_call 7; refine (HAW.out _).mono ?_; rintro e w2 ⟨rfl, hb⟩; have HB := Lib.hid hb; clear hb)
    go_ret
    exact ⟨rfl, HB.out⟩
  have e1 : decide (40 < (l.length : Int)) = false := decide_eq_false (by omega)
  have e1' : decide (40 < l.length) = false := decide_eq_false hl
  have hn : l.length ≤ 1000000 := by omega
  have HX := Lib.hid hx
  have HC : Hid (Calls Try.prog 18 #[.slice a l.length cap] w fun e w' => e = .returned (.int .i64 (tabE l)) ∧ Below w.heap.size w w') := Lib.hid (R.check a cap l w hcap hx hn)
  by_cases hT : ¬ TabOk l
  · rw [tab_no hT] at HC
    clear hl hx hcap R H HK hT hn
    go_enter Try.func6, Try.ntmps6
    go_wp2_with (first
      | (go_at_call 18; refine HC.out.mono ?_; rintro e w1 ⟨rfl, hb⟩; have BX := Lib.hid hb; clear hb)
      | (go_at_call 7; refine (HAW.out _).mono ?_; rintro e w2 ⟨rfl, hb⟩; have BY := Lib.hid (BX.out.trans (hb.mono BX.out.size)); clear hb))
    go_ret
    exact ⟨rfl, BY.out⟩
  have hT := Decidable.not_not.1 hT
  rw [tab_yes hT] at HC
  have HD : Hid (∀ W, Below w.heap.size w W → Calls Try.prog 14 #[.slice a l.length cap] W fun e w' => ∃ b c, e = .returned (.slice b (deadTo l l.length).length c) ∧ Ints w'.heap.size w' b (deadTo l l.length) ∧ Below W.heap.size W w') := Lib.hid fun W h => by
    have q := H.dead a cap l W hcap (rowsIn_step HX.out h) hn
    rw [show deadV l = deadTo l l.length from if_pos hT] at q
    refine q.mono ?_
    rintro e w' ⟨b, c, rfl, _, hi, hb⟩
    exact ⟨b, c, rfl, hi, hb⟩
  have HA : Hid (∀ W, Below w.heap.size w W → Calls Try.prog 21 #[.slice a l.length cap] W fun e w' => ∃ b c, e = .returned (.slice b (amtL l).length c) ∧ Ints w'.heap.size w' b (amtL l) ∧ Below W.heap.size W w') := Lib.hid fun W h => by
    refine (ramounts19_any a cap l W (rowsIn_step HX.out h) hT).mono ?_
    rintro e w' ⟨b, c, rfl, _, hi, hb⟩
    exact ⟨b, c, rfl, hi, hb⟩
  have HQ : Hid (∀ c i W, c < 8 → i < (amtL l).length → Below w.heap.size w W → ∃ x y E, Calls Try.prog 19 #[.slice a l.length cap, factVal (cellF c (numAt (amtL l) i))] W (fun e w' => e = .returned (.tuple #[.int .i64 x, .int .i64 y, .int .i64 E]) ∧ Below W.heap.size W w') ∧ ((E = 36 ∧ livJ l c (i + 1) = livJ l c i) ∨ (E = 0 ∧ ∃ q : Nat, y = q ∧ q < 40 ∧ livJ l c (i + 1) = fun j => livJ l c i j || (some q == some j)))) := Lib.hid fun c i W hc hi h => by
    have hm : numAt (amtL l) i ∈ amtL l := by
      unfold numAt
      rw [List.getD_eq_getElem?_getD, List.getElem?_eq_getElem hi]
      exact List.getElem_mem hi
    have hin := amt_in hT (Nat.le_refl _) _ hm
    have hF := cell_ok hc hin.1 hin.2
    have q := R.decide a cap l (cellF c (numAt (amtL l) i)) W hcap (rowsIn_step HX.out h) hn
    refine ⟨_, _, _, q, ?_⟩
    rw [livJ_more l c hi]
    unfold hitJ
    cases hf : firstTo l (cellF c (numAt (amtL l) i)) l.length with
    | none => exact Or.inl ⟨(dec_none hT hF hf).1, by funext j; simp⟩
    | some q =>
      have hd := dec_some hT hF hf
      have := (first_some hf).1
      exact Or.inr ⟨hd.1, q, hd.2.1, by omega, rfl⟩
  have HCF : Hid (∀ c n, c < 8 → ∃ G B, cellF c n = ⟨G, B, n⟩ ∧ (((c : Int) = 0 ∧ G = 0 ∧ B = false) ∨ ((c : Int) = 1 ∧ G = 0 ∧ B = true) ∨ ((c : Int) = 2 ∧ G = 1 ∧ B = false) ∨ ((c : Int) = 3 ∧ G = 1 ∧ B = true) ∨ ((c : Int) = 4 ∧ G = 2 ∧ B = false) ∨ ((c : Int) = 5 ∧ G = 2 ∧ B = true) ∨ ((c : Int) = 6 ∧ G = 3 ∧ B = false) ∨ ((c : Int) = 7 ∧ G = 3 ∧ B = true))) := Lib.hid fun c n hc => by
    refine ⟨_, _, rfl, ?_⟩
    rcases (by omega : c = 0 ∨ c = 1 ∨ c = 2 ∨ c = 3 ∨ c = 4 ∨ c = 5 ∨ c = 6 ∨ c = 7) with rfl | rfl | rfl | rfl | rfl | rfl | rfl | rfl <;> decide
  have HDL : Hid (∀ i, (deadTo l i).length ≤ i) := Lib.hid (dead_len l)
  have HML : Hid ((amtL l).length ≤ 1000) := Lib.hid (by have := amt_len l l.length; unfold amtL; omega)
  have hl40 : l.length ≤ 40 := by omega
  clear hl hx hcap R H HK hT hn
  go_enter Try.func6, Try.ntmps6
  go_upto_region 5 with (first
    | (go_at_call 18; refine HC.out.mono ?_; rintro e w1 ⟨rfl, hb⟩; have BX := Lib.hid hb; clear hb)
    | (go_at_call 14; refine (HD.out _ BX.out).mono ?_; rintro e w2 ⟨db, dc, rfl, hi, hb⟩; have I2 := Lib.hid hi; have B2 := Lib.hid (BX.out.trans (hb.mono BX.out.size)); clear hb hi))
  have L3 : Liv19 w2 (w2.alloc (.cells #[.bool false, .bool false, .bool false, .bool false, .bool false, .bool false, .bool false, .bool false, .bool false, .bool false, .bool false, .bool false, .bool false, .bool false, .bool false, .bool false, .bool false, .bool false, .bool false, .bool false, .bool false, .bool false, .bool false, .bool false, .bool false, .bool false, .bool false, .bool false, .bool false, .bool false, .bool false, .bool false, .bool false, .bool false, .bool false, .bool false, .bool false, .bool false, .bool false, .bool false] 53)) (livJ l 0 0) := ⟨by rw [livJ_zero, ← liv19_start]; exact heap_alloc_new w2 _, lit16 w2 _⟩
  obtain ⟨w3, hw3⟩ : ∃ W, W = w2.alloc (.cells #[.bool false, .bool false, .bool false, .bool false, .bool false, .bool false, .bool false, .bool false, .bool false, .bool false, .bool false, .bool false, .bool false, .bool false, .bool false, .bool false, .bool false, .bool false, .bool false, .bool false, .bool false, .bool false, .bool false, .bool false, .bool false, .bool false, .bool false, .bool false, .bool false, .bool false, .bool false, .bool false, .bool false, .bool false, .bool false, .bool false, .bool false, .bool false, .bool false, .bool false] 53) := ⟨_, rfl⟩
  rw [← hw3] at L3 ⊢
  clear hw3
  have HL3 := Lib.hid L3
  have B3 := Lib.hid (B2.out.trans (L3.below.mono B2.out.size))
  clear L3
  go_upto_region 6 with (go_at_call 21; refine (HA.out _ B3.out).mono ?_; rintro e w4 ⟨mb, mc, rfl, hi, hb⟩; have I4 := Lib.hid hi; have HL4 := Lib.hid (HL3.out.step hb); clear hb hi HL3)
  have M4 := Lib.hid (mb19_start I4.out HL4.out.now)
  clear I4
  go_wp2
  go_loopw [6] (fun s6 wr => ∃ c : Nat, s6 = .int .i64 c ∧ c ≤ 8 ∧ Hid (Liv19 w2 wr (livJ l c 0)) ∧ Hid (Mb19 (amtL l) mb w2.heap.size wr)) (fun s6 _ => 8 - (intOf s6).toNat)
  case atStart => exact ⟨0, rfl, Nat.zero_le _, HL4, M4⟩
  case round =>
    clear HL4 M4
    obtain ⟨c, rfl, hc, HL, M⟩ := hrel
    by_cases hcl : c < 8
    · have j1 : decide ((c : Int) < 8) = true := decide_eq_true (by omega)
      have hc1 : c + 1 ≤ 8 := hcl
      go_wp2
      go_loopw [7] (fun s7 wr => ∃ i : Nat, s7 = .int .i64 i ∧ i ≤ (amtL l).length ∧ Hid (Liv19 w2 wr (livJ l c i)) ∧ Hid (Mb19 (amtL l) mb w2.heap.size wr)) (fun s7 _ => (amtL l).length - (intOf s7).toNat)
      case atStart => exact ⟨0, rfl, Nat.zero_le _, HL, M⟩
      case round =>
        clear HL M
        obtain ⟨i, rfl, hi, HL, M⟩ := hrel
        have hml := HML.out
        by_cases hil : i < (amtL l).length
        · have l1 : decide ((i : Int) < ((amtL l).length : Int)) = true := decide_eq_true (by omega)
          have l1' : decide (i < (amtL l).length) = true := decide_eq_true hil
          have l2 : (i : Int) < ((amtL l).length : Int) := by omega
          have l3 : (0 : Int) ≤ (i : Int) := by omega
          have hi1 : i + 1 ≤ (amtL l).length := hil
          obtain ⟨b, o, rfl, _, _, cd⟩ := M.out i hil
          obtain ⟨x, y, E, hdec, hpost⟩ := HQ.out c i wr hcl hil (B2.out.trans (HL.out.below.mono B2.out.size))
          obtain ⟨G, Bv, hcf, hcs⟩ := HCF.out c (numAt (amtL l) i) hcl
          rw [hcf] at hdec
          clear hcf hil hcl
          generalize numAt (amtL l) i = n at *
          have HP : Hid ((E = 36 ∧ livJ l c (i + 1) = livJ l c i) ∨ (E = 0 ∧ ∃ q : Nat, y = q ∧ q < 40 ∧ livJ l c (i + 1) = fun j => livJ l c i j || (some q == some j))) := Lib.hid hpost
          clear hpost
          have HDEC := Lib.hid hdec
          clear hdec
          generalize hCC : (c : Int) = C at *
          clear hCC
          rcases HP.out with ⟨rfl, hp⟩ | ⟨rfl, q, rfl, hq, hp⟩
          · have HL5 : Hid (Liv19 w2 wr (livJ l c (i + 1))) := Lib.hid (by rw [hp]; exact HL.out)
            clear hp HP HL
            rcases hcs with ⟨rfl, rfl, rfl⟩ | ⟨rfl, rfl, rfl⟩ | ⟨rfl, rfl, rfl⟩ | ⟨rfl, rfl, rfl⟩ | ⟨rfl, rfl, rfl⟩ | ⟨rfl, rfl, rfl⟩ | ⟨rfl, rfl, rfl⟩ | ⟨rfl, rfl, rfl⟩
            all_goals
              unfold factVal at HDEC
              dsimp only at HDEC
              go_wp2_with (go_at_call 19; refine HDEC.out.mono ?_; rintro e w5 ⟨rfl, hb⟩; have HL6 := Lib.hid (HL5.out.step hb); have M6 := Lib.hid (M.out.step hb); clear hb HL5 M)
              go_roundw
              case rel => exact ⟨i + 1, by first | rfl | go_num, hi1, HL6, M6⟩
              case measure => first | (simp [intOf]; omega) | simp [intOf]
          · have HL5 : Hid (∀ W, Liv19 w2 W (livJ l c i) → Liv19 w2 (W.setCell ⟨w2.heap.size, q, none⟩ (.bool true)) (livJ l c (i + 1))) := Lib.hid fun W h => by
              rw [hp]; exact h.store hq
            have q1 : (q : Int) < 40 := by omega
            have q0 : (0 : Int) ≤ (q : Int) := by omega
            have q2 : decide ((q : Int) < 40) = true := decide_eq_true q1
            have q3 : decide ((0 : Int) ≤ (q : Int)) = true := decide_eq_true q0
            have HH := Lib.hid (fun W (h : Liv19 w2 W (livJ l c i)) => And.intro (cell_of h.now (liv19_has _ hq)) (frozen_of_row W w2.heap.size q _ _ h.now))
            clear hp HP hq
            rcases hcs with ⟨rfl, rfl, rfl⟩ | ⟨rfl, rfl, rfl⟩ | ⟨rfl, rfl, rfl⟩ | ⟨rfl, rfl, rfl⟩ | ⟨rfl, rfl, rfl⟩ | ⟨rfl, rfl, rfl⟩ | ⟨rfl, rfl, rfl⟩ | ⟨rfl, rfl, rfl⟩
            all_goals
              unfold factVal at HDEC
              dsimp only at HDEC
              go_upto_region 13 with (go_at_call 19; refine HDEC.out.mono ?_; rintro e w5 ⟨rfl, hb⟩; have HL6 := Lib.hid (HL.out.step hb); have M6 := Lib.hid (M.out.step hb); clear hb HL M)
              have HL7 := Lib.hid (HL5.out _ HL6.out)
              have M7 := Lib.hid (M6.out.store q (.bool true))
              obtain ⟨z1, z2⟩ := HH.out _ HL6.out
              clear HL5 HL6 M6
              go_wp2
              go_roundw
              case rel => exact ⟨i + 1, by first | rfl | go_num, hi1, HL7, M7⟩
              case measure => first | (simp [intOf]; omega) | simp [intOf]
        · obtain rfl : i = (amtL l).length := by omega
          have l1 : decide (((amtL l).length : Int) < ((amtL l).length : Int)) = false := decide_eq_false (by omega)
          rw [livJ_next] at HL
          go_wp2
          go_roundw
          case rel => exact ⟨c + 1, by first | rfl | go_num, hc1, HL, M⟩
          case measure => first | (simp [intOf]; omega) | simp [intOf]
    · obtain rfl : c = 8 := by omega
      clear M HQ HCF HA hcl
      go_wp2
      go_loopw [11, 12] (fun s11 s12 wx => ∃ i K : Nat, s11 = .int .i64 (K : Int) ∧ s12 = .int .i64 i ∧ i ≤ l.length ∧ K = (deadTo l i).length ∧ wx = wr) (fun _ s12 _ => l.length - (intOf s12).toNat)
      case atStart => exact ⟨0, 0, rfl, rfl, Nat.zero_le _, rfl, rfl⟩
      case round =>
        obtain ⟨i, K, rfl, rfl, hi, hKK, rfl⟩ := hrel
        have hKi : K ≤ i := by rw [hKK]; exact HDL.out i
        by_cases hlt : i < l.length
        · have i1 : decide ((i : Int) < (l.length : Int)) = true := decide_eq_true (by omega)
          have i1' : decide (i < l.length) = true := decide_eq_true hlt
          have hi1 : i + 1 ≤ l.length := hlt
          have g1 : (i : Int) < 40 := by omega
          have g0 : (0 : Int) ≤ (i : Int) := by omega
          have cl := cell_of HL.out.now (liv19_has (livJ l 8 0) (j := i) (by omega))
          rw [livJ_all hlt] at cl
          have k3 : (0 : Int) ≤ (K : Int) := by omega
          cases hlv : livesB l i with
          | false =>
            obtain ⟨d1, d2, d3⟩ := dead_here hlt hlv
            rw [← hKK] at d1 d2 d3
            rw [hlv] at cl
            have k1 : decide ((K : Int) < ((deadTo l l.length).length : Int)) = true := decide_eq_true (by omega)
            have k1' : decide (K < (deadTo l l.length).length) = true := decide_eq_true d1
            have k2 : (K : Int) < ((deadTo l l.length).length : Int) := by omega
            obtain ⟨b, o, rfl, cd⟩ : ∃ b o, db = some ⟨b, o, none⟩ ∧ wr.cell? ⟨b, o + K, none⟩ = some (.int .i64 (i : Int)) := by
              rcases I2.out with q | ⟨b, o, rfl, hB, hc⟩
              · exfalso; rw [q] at d1; simp at d1
              · exact ⟨b, o, rfl, (HL.out.below.cell (p := ⟨b, o + K, none⟩) hB).trans (by rw [hc K d1, d2])⟩
            have hK3 : Hid (K + 1 = (deadTo l (i + 1)).length) := Lib.hid d3.symm
            have eK : IntKind.i64.wrap ((K : Int) + 1) = (K : Int) + 1 := IntWalk.i64_in _ (by omega)
            clear hlt hlv d1 d2 d3 hKK
            go_wp2
            go_roundw
            case rel => exact ⟨i + 1, K + 1, by first | rfl | go_num, by first | rfl | go_num, hi1, hK3.out, by first | rfl | trivial⟩
            case measure => first | (simp [intOf]; omega) | simp [intOf]
          | true =>
            obtain ⟨hor, d3⟩ := dead_not hlt hlv
            rw [← hKK] at hor d3
            rw [hlv] at cl
            have hK3 : Hid (K = (deadTo l (i + 1)).length) := Lib.hid d3.symm
            have hcase : (decide ((K : Int) < ((deadTo l l.length).length : Int)) = false ∧ decide (K < (deadTo l l.length).length) = false) ∨ ((decide ((K : Int) < ((deadTo l l.length).length : Int)) = true ∧ decide (K < (deadTo l l.length).length) = true) ∧ (K : Int) < ((deadTo l l.length).length : Int) ∧ ∃ b o x, db = some ⟨b, o, none⟩ ∧ wr.cell? ⟨b, o + K, none⟩ = some (.int .i64 x) ∧ (x == (i : Int)) = false) := by
              rcases hor with q | ⟨q, q2⟩
              · exact Or.inl ⟨decide_eq_false (by omega), decide_eq_false (by omega)⟩
              · refine Or.inr ⟨⟨decide_eq_true (by omega), decide_eq_true q⟩, by omega, ?_⟩
                rcases I2.out with z | ⟨b, o, rfl, hB, hc⟩
                · exfalso; rw [z] at q; simp at q
                · exact ⟨b, o, _, rfl, (HL.out.below.cell (p := ⟨b, o + K, none⟩) hB).trans (hc K q), by rw [beq_eq_false_iff_ne]; exact q2⟩
            clear hlt hlv hor d3 hKK
            rcases hcase with ⟨k1, k1'⟩ | ⟨⟨k1, k1'⟩, k2, b2, o2, x, rfl, cd, z⟩
            all_goals
              go_wp2
              go_roundw
              case rel => exact ⟨i + 1, K, by first | rfl | go_num, by first | rfl | go_num, hi1, hK3.out, by first | rfl | trivial⟩
              case measure => first | (simp [intOf]; omega) | simp [intOf]
        · obtain rfl : i = l.length := by omega
          have i1 : decide ((l.length : Int) < (l.length : Int)) = false := decide_eq_false (by omega)
          have hkk : ((K : Int) == ((deadTo l l.length).length : Int)) = true := by rw [hKK]; simp
          have B8 := Lib.hid (B2.out.trans (HL.out.below.mono B2.out.size))
          clear hlt hKK
          go_wp2_with (go_at_call 7; refine (HAW.out _).mono ?_; rintro e w6 ⟨rfl, hb⟩; have B9 := Lib.hid (B8.out.trans (hb.mono B8.out.size)); clear hb)
          go_ret
          exact ⟨by first | rfl | simp, B9.out⟩
end Go.Proofs.Ytifihejogbcbgaa
