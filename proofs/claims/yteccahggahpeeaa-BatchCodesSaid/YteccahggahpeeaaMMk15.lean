/- A row that the call itself makes, filled element by element; the program's ids, and what is wrong with a table. -/
import Derived.Test.YteccahggahpeeaaMIds13
import Derived.Test.YteccahggahpeeaaMInts
import Derived.Test.YteccahggahpeeaaRk15
namespace Go.Proofs.Yteccahggahpeeaa
open Go.RowKit

/-- The first elements of a made row are these. -/
def Mk15 {α : Type} (E : Elt α) (g : Nat) (t : TypeId) (n : Nat) (l : List α) (W : World) : Prop :=
  ∃ arr : Array Value, W.heap[g]? = some (.cells arr t (0, 0)) ∧ arr.size = n * E.k ∧ ∀ (j : Nat) (u : Value), (E.cells l)[j]? = some u → arr[j]? = some u
theorem Mk15.step {α : Type} {E : Elt α} {g : Nat} {t : TypeId} {n : Nat} {l : List α} {W V : World} (h : Mk15 E g t n l W) (hb : Below W.heap.size W V) : Mk15 E g t n l V := by
  obtain ⟨arr, h1, h2, h3⟩ := h
  exact ⟨arr, old_obj hb h1, h2, h3⟩
theorem Mk15.lt {α : Type} {E : Elt α} {g : Nat} {t : TypeId} {n : Nat} {l : List α} {W : World} (h : Mk15 E g t n l W) : g < W.heap.size := by
  obtain ⟨arr, h1, _⟩ := h
  exact obj_lt h1
theorem Mk15.frozen {α : Type} {E : Elt α} {g : Nat} {t : TypeId} {n : Nat} {l : List α} {W : World} (h : Mk15 E g t n l W) (j : Nat) : W.frozen? ⟨g, j, none⟩ = false := by
  obtain ⟨arr, h1, _⟩ := h
  exact frozen_of_row _ _ j _ _ h1
theorem Mk15.cell {α : Type} {E : Elt α} {g : Nat} {t : TypeId} {n : Nat} {l : List α} {W : World} (h : Mk15 E g t n l W) {j : Nat} (hj : j < n * E.k) : ∃ u, W.cell? ⟨g, j, none⟩ = some u := by
  obtain ⟨arr, h1, h2, _⟩ := h
  exact ⟨arr[j]'(by omega), cell_of h1 (Array.getElem?_eq_getElem (by omega))⟩
theorem Mk15.other {α : Type} {E : Elt α} {g : Nat} {t : TypeId} {n : Nat} {l : List α} {W : World} (h : Mk15 E g t n l W) {p : Addr} (hp : p.block ≠ g) (v : Value) : Mk15 E g t n l (W.setCell p v) := by
  obtain ⟨arr, h1, h2, h3⟩ := h
  exact ⟨arr, by rw [heap_setCell_other W p g v (fun e => hp e.symm)]; exact h1, h2, h3⟩
theorem Mk15.put1 {α : Type} {E : Elt α} {g : Nat} {t : TypeId} {n : Nat} {l : List α} {W : World} (h : Mk15 E g t n l W) (hk : E.k = 1) (hl : l.length < n) {x : α} {v : Value} (hv : E.enc x = [v]) : Mk15 E g t n (l ++ [x]) (W.setCell ⟨g, l.length, none⟩ v) := by
  obtain ⟨arr, h1, h2, h3⟩ := h
  refine ⟨arr.setIfInBounds l.length v, heap_setCell_same W g l.length _ _ _ h1, by rw [Array.size_setIfInBounds]; exact h2, fun j u hj => ?_⟩
  have hcl : (E.cells l).length = l.length := by rw [E.cells_len, hk, Nat.mul_one]
  rw [E.cells_append, E.cells_one, hv] at hj
  rw [Array.getElem?_setIfInBounds]
  rcases Nat.lt_trichotomy j l.length with q | q | q
  · rw [if_neg (by omega)]
    rw [List.getElem?_append_left (by omega)] at hj
    exact h3 j u hj
  · subst q
    rw [if_pos rfl, if_pos (by rw [h2, hk]; omega)]
    rw [List.getElem?_append_right (by omega), hcl, Nat.sub_self] at hj
    simpa using hj
  · rw [List.getElem?_eq_none (by simp [hcl]; omega)] at hj
    cases hj
theorem Mk15.put2 {α : Type} {E : Elt α} {g : Nat} {t : TypeId} {n : Nat} {l : List α} {W : World} (h : Mk15 E g t n l W) (hk : E.k = 2) (hl : l.length < n) {x : α} {v u : Value} (hv : E.enc x = [v, u]) : Mk15 E g t n (l ++ [x]) ((W.setCell ⟨g, l.length * 2, none⟩ v).setCell ⟨g, l.length * 2 + 1, none⟩ u) := by
  obtain ⟨arr, h1, h2, h3⟩ := h
  refine ⟨(arr.setIfInBounds (l.length * 2) v).setIfInBounds (l.length * 2 + 1) u, heap_setCell_same _ g (l.length * 2 + 1) _ _ _ (heap_setCell_same W g (l.length * 2) _ _ _ h1), by rw [Array.size_setIfInBounds, Array.size_setIfInBounds]; exact h2, fun j y hj => ?_⟩
  have hcl : (E.cells l).length = l.length * 2 := by rw [E.cells_len, hk]
  rw [E.cells_append, E.cells_one, hv] at hj
  rw [Array.getElem?_setIfInBounds, Array.getElem?_setIfInBounds, Array.size_setIfInBounds]
  rcases (by omega : j < l.length * 2 ∨ j = l.length * 2 ∨ j = l.length * 2 + 1 ∨ l.length * 2 + 1 < j) with q | q | q | q
  · rw [if_neg (by omega), if_neg (by omega)]
    rw [List.getElem?_append_left (by omega)] at hj
    exact h3 j y hj
  · subst q
    rw [if_neg (by omega), if_pos rfl, if_pos (by rw [h2, hk]; omega)]
    rw [List.getElem?_append_right (by omega), hcl, Nat.sub_self] at hj
    simpa using hj
  · subst q
    rw [if_pos rfl, if_pos (by rw [h2, hk]; omega)]
    rw [List.getElem?_append_right (by omega), hcl, show l.length * 2 + 1 - l.length * 2 = 1 by omega] at hj
    simpa using hj
  · rw [List.getElem?_eq_none (by simp [hcl]; omega)] at hj
    cases hj
theorem Mk15.els {α : Type} {E : Elt α} {g : Nat} {t : TypeId} {n : Nat} {l : List α} {W : World} (h : Mk15 E g t n l W) {A : Nat} (hA : A ≤ g) : Els E A W.heap.size W (some ⟨g, 0, none⟩) l := by
  obtain ⟨arr, h1, h2, h3⟩ := h
  refine Or.inr ⟨g, 0, rfl, hA, obj_lt h1, fun j u hj => ?_⟩
  rw [Nat.zero_add]
  exact cell_of h1 (h3 j u hj)
theorem Mk15.start {α : Type} (E : Elt α) {t : TypeId} {n : Nat} {W : World} {g B : Nat} {cs : List Value} (h : W.ownsRow B t E.k (.slice (some ⟨g, 0, none⟩) n n) n cs) : Mk15 E g t n [] W := by
  rcases h.2 with ⟨h1, _⟩ | ⟨g', cap, cur, h1, _, h3, h4, h5, h6, _⟩
  · cases h1
  · cases h1
    exact ⟨cur, h3, h6, fun j u hj => by cases hj⟩
def intE : Elt Int where
  k := 1
  pos := by decide
  enc := fun n => [.int .i64 n]
  len := fun _ => rfl
  one := fun x u hu => by rw [List.mem_singleton.1 hu]; rfl
theorem intE_cells (l : List Int) : intE.cells l = intCells l := by
  unfold Elt.cells intCells
  induction l with
  | nil => rfl
  | cons x l ih => rw [List.flatMap_cons, List.map_cons, ih]; rfl
theorem ints_e {B : Nat} {w : World} {a : Option Addr} {l : List Int} : Ints B w a l ↔ Els intE 0 B w a l := by
  rw [ints_rw, ← intE_cells]; exact Iff.rfl
theorem idsT_take (T : Tb15) {i : Nat} (h : i < T.length) : idsT (T.take (i + 1)) = idsT (T.take i) ++ [(recAt T i).1] := by
  unfold idsT
  rw [List.take_add_one, recAt_get h, List.map_append]; rfl
set_option maxRecDepth 100000 in
set_option maxHeartbeats 4000000 in
theorem pids_any (ao : Option Addr) (cap : Nat) (T : Tb15) (A : Nat) (w : World) (hx : Els recE A w.heap.size w ao T) (hn : T.length ≤ 100000) :
    Calls Try.prog 61 #[.slice ao T.length cap] w fun e w' => ∃ a c, e = .returned (.slice a (idsT T).length c) ∧ Ints w'.heap.size w' a (idsT T) ∧ Below w.heap.size w w' := by
  obtain ⟨i0, hi, hz0, hz1, hz2⟩ := info_parts infoInt
  have HX := Lib.hid hx
  have hbt : T.length * i0.bytes ≤ 281474976710656 := by rw [hz2]; omega
  clear hx
  go_enter Try.func61, Try.ntmps61
  go_wp2_with (at_make; refine wpList_make_full _ rfl _ _ 120 rfl w.heap.size 3 i0 (.int .i64 0) 1 Try.underlying120 hi hz0 hz1 .i64 .i64 _ _ T.length rfl rfl rfl rfl (by rw [hz2]; omega) (by unfold maxLen; omega) (Nat.le_refl _) ?_)
  intro w1 hown hg
  have HB1 : Hid (Below w.heap.size w w1) := (Below.refl _ w).grown hg (Nat.le_refl _) (by simp)
  have HM1 : Hid (Mk15 intE w.heap.size 3 T.length (idsT (T.take 0)) w1) := Lib.hid (Mk15.start intE hown)
  clear hown hg hz0 hz1 hz2 hi hbt
  go_upto_region 3 with fail
  go_loopw [11] (fun s11 wr => ∃ i : Nat, s11 = .int .i64 i ∧ i ≤ T.length ∧ Hid (Below w.heap.size w wr) ∧ Hid (Mk15 intE w.heap.size 3 T.length (idsT (T.take i)) wr)) (fun i _ => T.length + 1 - (intOf i).toNat)
  case atStart => exact ⟨0, rfl, by omega, HB1, HM1⟩
  case round =>
    clear HB1 HM1
    obtain ⟨i, rfl, hi, HB, HM⟩ := hrel
    by_cases hlt : i < T.length
    · have i1 : (i : Int) < (T.length : Int) := by omega
      have i3 : (0 : Int) ≤ (i : Int) := by omega
      obtain ⟨b, off, eb, hbb, o0, o1⟩ := recs_at (HX.out.below HB.out) hlt
      subst eb
      have hw2 := (Below.refl wr.heap.size wr).alloc (Nat.le_refl _) (.cells #[.int .i64 (recAt T i).1, .string (tx (recAt T i).2)] 67)
      have HM2 := Lib.hid (HM.out.step hw2)
      have HB2 := Lib.hid (HB.out.trans (hw2.mono HB.out.size))
      have hlen : (idsT (T.take i)).length = i := by unfold idsT; rw [List.length_map, List.length_take]; omega
      have HP := Lib.hid (HM2.out.put1 (x := (recAt T i).1) (v := .int .i64 (recAt T i).1) rfl (by omega) rfl)
      rw [hlen] at HP
      have HE := Lib.hid (idsT_take T hlt)
      obtain ⟨u, hu⟩ := HM2.out.cell (j := i) (by show i < T.length * 1; omega)
      have hf := HM2.out.frozen i
      have HBS := Lib.hid (HB2.out.setCell (p := ⟨w.heap.size, i, none⟩) (Nat.le_refl _) (.int .i64 (recAt T i).1))
      clear hw2 hlen
      go_wp2
      go_roundw
      case rel => exact ⟨i + 1, by first | rfl | go_num, by omega, HBS, Lib.hid (by rw [HE.out]; exact HP.out)⟩
      case measure => first | (simp [intOf]; omega) | simp [intOf]
    · obtain rfl : i = T.length := by omega
      have hl : (idsT T).length = T.length := by unfold idsT; rw [List.length_map]
      have HR : Hid (Ints wr.heap.size wr (some ⟨w.heap.size, 0, none⟩) (idsT T)) := Lib.hid (ints_e.2 (by
        have := HM.out.els (Nat.zero_le _)
        rw [List.take_length] at this
        exact this))
      have HL := Lib.hid hl
      clear hl
      go_wp2
      go_ret
      exact ⟨_, T.length, by rw [HL.out]; rfl, HR.out, HB.out⟩
end Go.Proofs.Yteccahggahpeeaa
namespace Go.Proofs.Yteccahggahpeeaa
open Go.RowKit

def longTB (T : Tb15) : Bool := T.any fun r => decide (200 < r.2.length)
def wrongB (T : Tb15) : Bool := decide (60 < T.length) || (risingE (idsT T) != 0) || longTB T
def wrongSB (S : St15) : Bool := S.any wrongB
theorem idsT_len (T : Tb15) : (idsT T).length = T.length := by unfold idsT; rw [List.length_map]
theorem idsT_at {T : Tb15} {i : Nat} (h : i < T.length) : numAt (idsT T) i = T[i].1 := by
  rw [numAt_get _ i (by rw [idsT_len]; exact h)]
  unfold idsT
  rw [List.getElem_map]
theorem rising_tab {T : Tb15} : risingE (idsT T) = 0 ↔ SrtT T ∧ ∀ r ∈ T, 1 ≤ r.1 ∧ r.1 ≤ 999999 := by
  rw [rising_iff]
  constructor
  · intro h
    refine ⟨srt_idsT.2 (List.pairwise_iff_getElem.2 fun i j hi hj hij => ?_), fun r hr => ?_⟩
    · have := rises_lt h hij hj
      rw [numAt_get _ i hi, numAt_get _ j hj] at this
      exact this
    · obtain ⟨i, hi, rfl⟩ := List.mem_iff_getElem.1 hr
      have := (h i (by rw [idsT_len]; exact hi)).1
      rw [idsT_at hi] at this
      exact this
  · rintro ⟨h1, h2⟩ i hi
    rw [idsT_len] at hi
    refine ⟨by rw [idsT_at hi]; exact h2 _ (List.getElem_mem hi), fun h0 => ?_⟩
    have h3 := List.pairwise_iff_getElem.1 (srt_idsT.1 h1) (i - 1) i (by rw [idsT_len]; omega) (by rw [idsT_len]; omega) (by omega)
    rw [numAt_get _ (i - 1) (by rw [idsT_len]; omega), numAt_get _ i (by rw [idsT_len]; omega)]
    exact h3
theorem wrong_okT {T : Tb15} : wrongB T = false ↔ OkT T := by
  unfold wrongB longTB
  rw [Bool.or_eq_false_iff, Bool.or_eq_false_iff, decide_eq_false_iff_not, bne_eq_false_iff_eq, rising_tab, List.any_eq_false]
  constructor
  · rintro ⟨⟨h1, h2, h3⟩, h4⟩
    exact ⟨by omega, h2, h3, fun r hr => by have := h4 r hr; simpa using this⟩
  · intro h
    have := h.len
    exact ⟨⟨by omega, h.srt, h.ids⟩, fun r hr => by simpa using h.txt r hr⟩
theorem wrong_okS {S : St15} : (8 < S.length ∨ wrongSB S = true) ↔ checkS S ≠ 0 := by
  rw [Ne, checkS_ok]
  constructor
  · rintro (h | h) hs
    · have := hs.len; omega
    · unfold wrongSB at h
      rw [List.any_eq_true] at h
      obtain ⟨T, hT, hw⟩ := h
      rw [wrong_okT.2 (hs.tab T hT)] at hw
      cases hw
  · intro h
    by_cases h1 : 8 < S.length
    · exact Or.inl h1
    · refine Or.inr ?_
      cases hq : wrongSB S with
      | true => rfl
      | false =>
        exfalso
        refine h ⟨by omega, fun T hT => wrong_okT.1 ?_⟩
        unfold wrongSB at hq
        rw [List.any_eq_false] at hq
        exact Bool.eq_false_iff.2 (hq T hT)
theorem plong_any (r : Rec15) (w : World) : Calls Try.prog 65 #[recVal r] w fun e w' => e = .returned (.bool (decide (200 < r.2.length))) ∧ Below w.heap.size w w' := by
  have HB := Lib.hid ((Below.refl w.heap.size w).alloc (Nat.le_refl _) (.cells #[.int .i64 r.1, .string (tx r.2)] 67))
  by_cases h : 200 < r.2.length
  · have d1 : decide (200 < ((tx r.2).size : Int)) = true := decide_eq_true (by rw [tx_size]; omega)
    have d2 : decide (200 < (tx r.2).size) = true := decide_eq_true (by rw [tx_size]; omega)
    have HD := Lib.hid (decide_eq_true h)
    clear h
    go_enter Try.func65, Try.ntmps65
    go_wp2
    go_ret
    exact ⟨by rw [HD.out]; rfl, HB.out⟩
  · have d1 : decide (200 < ((tx r.2).size : Int)) = false := decide_eq_false (by rw [tx_size]; omega)
    have d2 : decide (200 < (tx r.2).size) = false := decide_eq_false (by rw [tx_size]; omega)
    have HD := Lib.hid (decide_eq_false h)
    clear h
    go_enter Try.func65, Try.ntmps65
    go_wp2
    go_ret
    exact ⟨by rw [HD.out]; rfl, HB.out⟩
abbrev fnLong : Value := .func (.func 65) #[] #[]
abbrev fnWrong : Value := .func (.func 38) #[] #[]
set_option maxHeartbeats 4000000 in
theorem pindexl_any (ao : Option Addr) (cap : Nat) (T : Tb15) (A : Nat) (w : World) (hx : Els recE A w.heap.size w ao T) (hn : T.length ≤ 100000) :
    Calls Try.prog 88 #[.slice ao T.length cap, fnLong] w fun e w' => ∃ n : Int, e = .returned (.int .i64 n) ∧ decide (0 ≤ n) = longTB T ∧ Below w.heap.size w w' := by
  have HX := Lib.hid hx
  have HB0 := Lib.hid (Below.refl w.heap.size w)
  clear hx
  go_enter Try.func88, Try.ntmps88
  go_wp2
  go_loopw [8] (fun s8 wr => ∃ i : Nat, s8 = .int .i64 i ∧ i ≤ T.length ∧ Hid (Below w.heap.size w wr) ∧ Hid (∀ j, j < i → (recAt T j).2.length ≤ 200)) (fun i _ => T.length + 1 - (intOf i).toNat)
  case atStart => exact ⟨0, rfl, by omega, HB0, Lib.hid fun j hj => absurd hj (by omega)⟩
  case round =>
    clear HB0
    obtain ⟨i, rfl, hi, HB, HN⟩ := hrel
    by_cases hlt : i < T.length
    · have i1 : (i : Int) < (T.length : Int) := by omega
      have i3 : (0 : Int) ≤ (i : Int) := by omega
      obtain ⟨b, off, eb, hbb, o0, o1⟩ := recs_at (HX.out.below HB.out) hlt
      subst eb
      have HM := Lib.hid (recAt_get hlt)
      by_cases hq : 200 < (recAt T i).2.length
      · have hc := plong_any (recAt T i) wr
        rw [decide_eq_true hq] at hc
        have HC := Lib.hid hc
        have HL : Hid (longTB T = true) := Lib.hid (by
          unfold longTB
          rw [List.any_eq_true]
          obtain ⟨h1, h2⟩ := List.getElem?_eq_some_iff.1 HM.out
          exact ⟨_, List.getElem_mem h1, by rw [h2]; exact decide_eq_true hq⟩)
        have HD : Hid (decide (0 ≤ (i : Int)) = true) := Lib.hid (decide_eq_true i3)
        clear hc hq
        generalize recAt T i = r at *
        go_wp2_with (go_at_call 65; refine HC.out.mono ?_; rintro e w2 ⟨rfl, hb⟩; have HB2 := Lib.hid (HB.out.trans (hb.mono HB.out.size)); clear hb)
        go_ret
        exact ⟨i, rfl, by rw [HL.out, HD.out], HB2.out⟩
      · have hc := plong_any (recAt T i) wr
        rw [decide_eq_false hq] at hc
        have HC := Lib.hid hc
        have HN2 : Hid (∀ j, j < i + 1 → (recAt T j).2.length ≤ 200) := Lib.hid fun j hj => by
          rcases (by omega : j < i ∨ j = i) with z | z
          · exact HN.out j z
          · rw [z]; omega
        clear hc hq HM
        generalize recAt T i = r at *
        go_wp2_with (go_at_call 65; refine HC.out.mono ?_; rintro e w2 ⟨rfl, hb⟩; have HB2 := Lib.hid (HB.out.trans (hb.mono HB.out.size)); clear hb)
        go_roundw
        case rel => exact ⟨i + 1, by first | rfl | go_num, by omega, HB2, HN2⟩
        case measure => first | (simp [intOf]; omega) | simp [intOf]
    · obtain rfl : i = T.length := by omega
      have HL : Hid (longTB T = false) := Lib.hid (by
        unfold longTB
        rw [List.any_eq_false]
        intro r hr
        obtain ⟨j, hj, rfl⟩ := List.mem_iff_getElem.1 hr
        have := HN.out j hj
        have e := recAt_get hj
        rw [List.getElem?_eq_getElem hj] at e
        rw [← Option.some.inj e] at this
        simpa using this)
      go_wp2
      go_ret
      exact ⟨-1, rfl, by rw [HL.out]; rfl, HB.out⟩
theorem pcontl_any (ao : Option Addr) (cap : Nat) (T : Tb15) (A : Nat) (w : World) (hx : Els recE A w.heap.size w ao T) (hn : T.length ≤ 100000) :
    Calls Try.prog 64 #[.slice ao T.length cap, fnLong] w fun e w' => e = .returned (.bool (longTB T)) ∧ Below w.heap.size w w' := by
  have HC := Lib.hid (pindexl_any ao cap T A w hx hn)
  clear hx
  go_enter Try.func64, Try.ntmps64
  go_wp2_with (go_at_call 88; refine HC.out.mono ?_; rintro e w2 ⟨n, rfl, hn2, hb⟩; have HB := Lib.hid hb; clear hb)
  go_ret
  exact ⟨by first | rfl | (rw [hn2]; rfl) | simp, HB.out⟩
set_option maxHeartbeats 4000000 in
theorem pwrong_any (ao : Option Addr) (cap : Nat) (T : Tb15) (A : Nat) (w : World) (hx : Els recE A w.heap.size w ao T) (hn : T.length ≤ 100000) :
    Calls Try.prog 38 #[.slice ao T.length cap] w fun e w' => e = .returned (.bool (wrongB T)) ∧ Below w.heap.size w w' := by
  by_cases h1 : 60 < T.length
  · have e1 : decide (60 < (T.length : Int)) = true := decide_eq_true (by omega)
    have e1' : decide (60 < T.length) = true := decide_eq_true h1
    have HR : Hid (wrongB T = true) := Lib.hid (by unfold wrongB; rw [decide_eq_true h1]; rfl)
    clear h1 hx
    go_enter Try.func38, Try.ntmps38
    go_wp2
    go_ret
    exact ⟨by rw [HR.out]; rfl, Below.refl _ _⟩
  · have e1 : decide (60 < (T.length : Int)) = false := decide_eq_false (by omega)
    have e1' : decide (60 < T.length) = false := decide_eq_false h1
    have HI := Lib.hid (pids_any ao cap T A w hx hn)
    have HIL := Lib.hid (idsT_len T)
    have HS : Hid (∀ (W : World) (a : Option Addr) (c : Nat), Ints W.heap.size W a (idsT T) → Calls Try.prog 63 #[.slice a (idsT T).length c] W fun e w' => e = .returned (.int .i64 (risingE (idsT T))) ∧ Below W.heap.size W w') := Lib.hid fun W a c h => (prising_any a c (idsT T) W.heap.size W h (by rw [HIL.out]; omega)).mono (by rintro e w' ⟨rfl, m, rfl⟩; exact ⟨rfl, drawn_below (Below.refl _ _) _⟩)
    by_cases h2 : risingE (idsT T) = 0
    · rw [h2] at HS
      have HC : Hid (∀ W, Below w.heap.size w W → Calls Try.prog 64 #[.slice ao T.length cap, fnLong] W fun e w' => e = .returned (.bool (longTB T)) ∧ Below W.heap.size W w') := Lib.hid fun W hW => pcontl_any ao cap T A W ((hx.below hW).wide (Nat.le_refl _) hW.size) hn
      have HR : Hid (wrongB T = longTB T) := Lib.hid (by unfold wrongB; rw [decide_eq_false h1, h2]; rfl)
      clear h1 hx h2
      go_enter Try.func38, Try.ntmps38
      go_wp2_with (first
        | (go_at_call 61; refine HI.out.mono ?_; rintro e w2 ⟨a2, c2, rfl, h2, hb⟩; have HB2 := Lib.hid hb; have HI2 := Lib.hid h2; clear h2 hb)
        | (go_at_call 63; refine (HS.out _ _ _ HI2.out).mono ?_; rintro e w3 ⟨rfl, hb⟩; have HB3 := Lib.hid (HB2.out.trans (hb.mono HB2.out.size)); clear hb)
        | (go_at_call 64; refine (HC.out _ HB3.out).mono ?_; rintro e w4 ⟨rfl, hb⟩; have HB4 := Lib.hid (HB3.out.trans (hb.mono HB3.out.size)); clear hb))
      go_ret
      exact ⟨by rw [HR.out]; first | rfl | simp, HB4.out⟩
    · have d1 : (risingE (idsT T) != 0) = true := by rw [bne_iff_ne]; exact h2
      have d2 : (risingE (idsT T) == 0) = false := beq_eq_false_iff_ne.2 h2
      have HR : Hid (wrongB T = true) := Lib.hid (by unfold wrongB; rw [d1]; simp)
      clear h1 hx h2
      generalize risingE (idsT T) = E at *
      go_enter Try.func38, Try.ntmps38
      go_wp2_with (first
        | (go_at_call 61; refine HI.out.mono ?_; rintro e w2 ⟨a2, c2, rfl, h2, hb⟩; have HB2 := Lib.hid hb; have HI2 := Lib.hid h2; clear h2 hb)
        | (go_at_call 63; refine (HS.out _ _ _ HI2.out).mono ?_; rintro e w3 ⟨rfl, hb⟩; have HB3 := Lib.hid (HB2.out.trans (hb.mono HB2.out.size)); clear hb))
      go_ret
      exact ⟨by rw [HR.out]; first | rfl | simp, HB3.out⟩
set_option maxHeartbeats 4000000 in
theorem pindexw_any (ao : Option Addr) (cap : Nat) (S : St15) (w : World) (hx : TabsV 0 w.heap.size w ao S) (hn : Small15 S) :
    Calls Try.prog 62 #[.slice ao S.length cap, fnWrong] w fun e w' => ∃ n : Int, e = .returned (.int .i64 n) ∧ decide (0 ≤ n) = wrongSB S ∧ Below w.heap.size w w' := by
  have HX := Lib.hid hx
  have HB0 := Lib.hid (Below.refl w.heap.size w)
  have HN1 := Lib.hid hn
  have hs := hn.1
  clear hx hn
  go_enter Try.func62, Try.ntmps62
  go_wp2
  go_loopw [8] (fun s8 wr => ∃ i : Nat, s8 = .int .i64 i ∧ i ≤ S.length ∧ Hid (Below w.heap.size w wr) ∧ Hid (∀ j : Nat, j < i → wrongB (tab S (j : Int)) = false)) (fun i _ => S.length + 1 - (intOf i).toNat)
  case atStart => exact ⟨0, rfl, by omega, HB0, Lib.hid fun j hj => absurd hj (by omega)⟩
  case round =>
    clear HB0
    obtain ⟨i, rfl, hi, HB, HN⟩ := hrel
    by_cases hlt : i < S.length
    · have i1 : (i : Int) < (S.length : Int) := by omega
      have i3 : (0 : Int) ≤ (i : Int) := by omega
      obtain ⟨b, off, eb, hbb, aj, cj, o0, _, hT⟩ := (HX.out.below HB.out).at hlt
      subst eb
      have hc := pwrong_any aj cj (tab S (i : Int)) 0 wr (hT.wide (Nat.le_refl _) HB.out.size) (by have := HN1.out.tab hlt; omega)
      have HM : Hid (tab S (i : Int) ∈ S) := Lib.hid (by rw [tab_at hlt]; exact List.getElem_mem hlt)
      cases hq : wrongB (tab S (i : Int)) with
      | true =>
        rw [hq] at hc
        have HC := Lib.hid hc
        have HL : Hid (wrongSB S = true) := Lib.hid (List.any_eq_true.2 ⟨_, HM.out, hq⟩)
        have HD : Hid (decide (0 ≤ (i : Int)) = true) := Lib.hid (decide_eq_true i3)
        clear hc hq hT
        generalize tab S (i : Int) = T at *
        go_wp2_with (go_at_call 38; refine HC.out.mono ?_; rintro e w2 ⟨rfl, hb⟩; have HB2 := Lib.hid (HB.out.trans (hb.mono HB.out.size)); clear hb)
        go_ret
        exact ⟨i, rfl, by rw [HL.out, HD.out], HB2.out⟩
      | false =>
        rw [hq] at hc
        have HC := Lib.hid hc
        have HN2 : Hid (∀ j : Nat, j < i + 1 → wrongB (tab S (j : Int)) = false) := Lib.hid fun j hj => by
          rcases (by omega : j < i ∨ j = i) with z | z
          · exact HN.out j z
          · rw [z]; exact hq
        clear hc hq hT HM
        generalize tab S (i : Int) = T at *
        go_wp2_with (go_at_call 38; refine HC.out.mono ?_; rintro e w2 ⟨rfl, hb⟩; have HB2 := Lib.hid (HB.out.trans (hb.mono HB.out.size)); clear hb)
        go_roundw
        case rel => exact ⟨i + 1, by first | rfl | go_num, by omega, HB2, HN2⟩
        case measure => first | (simp [intOf]; omega) | simp [intOf]
    · obtain rfl : i = S.length := by omega
      have HL : Hid (wrongSB S = false) := Lib.hid (by
        unfold wrongSB
        rw [List.any_eq_false]
        intro T hT
        obtain ⟨j, hj, rfl⟩ := List.mem_iff_getElem.1 hT
        have := HN.out j hj
        rw [tab_at hj] at this
        rw [this]; simp)
      go_wp2
      go_ret
      exact ⟨-1, rfl, by rw [HL.out]; rfl, HB.out⟩
theorem pcontw_any (ao : Option Addr) (cap : Nat) (S : St15) (w : World) (hx : TabsV 0 w.heap.size w ao S) (hn : Small15 S) :
    Calls Try.prog 37 #[.slice ao S.length cap, fnWrong] w fun e w' => e = .returned (.bool (wrongSB S)) ∧ Below w.heap.size w w' := by
  have HC := Lib.hid (pindexw_any ao cap S w hx hn)
  clear hx
  go_enter Try.func37, Try.ntmps37
  go_wp2_with (go_at_call 62; refine HC.out.mono ?_; rintro e w2 ⟨n, rfl, hn2, hb⟩; have HB := Lib.hid hb; clear hb)
  go_ret
  exact ⟨by first | rfl | (rw [hn2]; rfl) | simp, HB.out⟩
set_option maxHeartbeats 4000000 in
theorem pcheck15_any (a : Option Addr) (c : Nat) (S : St15) (w : World) (h : StV w a c S) : Calls Try.prog 19 #[stVal a c S] w fun e w' => e = .returned (.int .i64 (checkS S)) ∧ Below w.heap.size w w' := by
  obtain ⟨hb, c0⟩ := boxS_start w a c S
  have HB := Lib.hid hb
  have hx := h.1.step hb
  have HCW := Lib.hid (pcontw_any a c S _ hx h.2.2)
  have hs := wrong_okS (S := S)
  by_cases h1 : 8 < S.length
  · have e1 : decide (8 < (S.length : Int)) = true := decide_eq_true (by omega)
    have e1' : decide (8 < S.length) = true := decide_eq_true h1
    have HR : Hid (checkS S = 40) := Lib.hid ((check_two15 S).resolve_left (hs.1 (Or.inl h1)))
    clear h1 hx hs h hb
    go_enter Try.func19, Try.ntmps19
    go_wp2
    go_ret
    exact ⟨by rw [HR.out]; rfl, HB.out⟩
  · have e1 : decide (8 < (S.length : Int)) = false := decide_eq_false (by omega)
    have e1' : decide (8 < S.length) = false := decide_eq_false h1
    cases hq : wrongSB S with
    | true =>
      rw [hq] at HCW
      have HR : Hid (checkS S = 40) := Lib.hid ((check_two15 S).resolve_left (hs.1 (Or.inr hq)))
      clear h1 hx hs h hb hq
      go_enter Try.func19, Try.ntmps19
      go_wp2_with (go_at_call 37; refine HCW.out.mono ?_; rintro e w2 ⟨rfl, hb⟩; have HB2 := Lib.hid (HB.out.trans (hb.mono HB.out.size)); clear hb)
      go_ret
      exact ⟨by rw [HR.out]; rfl, HB2.out⟩
    | false =>
      rw [hq] at HCW
      have HR : Hid (checkS S = 0) := Lib.hid (by
        by_cases z : checkS S = 0
        · exact z
        · rcases hs.2 z with y | y
          · exact absurd y h1
          · rw [hq] at y; cases y)
      clear h1 hx hs h hb hq
      go_enter Try.func19, Try.ntmps19
      go_wp2_with (go_at_call 37; refine HCW.out.mono ?_; rintro e w2 ⟨rfl, hb⟩; have HB2 := Lib.hid (HB.out.trans (hb.mono HB.out.size)); clear hb)
      go_ret
      exact ⟨by rw [HR.out]; rfl, HB2.out⟩
end Go.Proofs.Yteccahggahpeeaa
