/- Shares by the largest remainders, in plain words over numbers: what each gets, that all together get the total, and that who weighs more gets no less. -/
import Derived.Test.YtmdonhkdkapjpaaRank
import Derived.Test.YtmdonhkdkapjpaaQuo
import Derived.Test.YtmdonhkdkapjpaaAdd
namespace Go.Proofs.Ytmdonhkdkapjpaa

def total : List Int → Int
  | [] => 0
  | x :: l => x + total l
theorem total_append (a b : List Int) : total (a ++ b) = total a + total b := by
  induction a with
  | nil => simp [total]
  | cons x l ih => simp only [List.cons_append, total, ih]; omega
theorem total_pos {l : List Int} (h : ∀ x ∈ l, 0 ≤ x) : 0 ≤ total l := by
  induction l with
  | nil => simp [total]
  | cons x l ih =>
    have h1 := h x (List.mem_cons_self ..)
    have h2 := ih (fun y hy => h y (List.mem_cons_of_mem _ hy))
    simp only [total]; omega
theorem total_zero {l : List Int} (h : ∀ x ∈ l, 0 ≤ x) (h0 : total l = 0) : ∀ x ∈ l, x = 0 := by
  induction l with
  | nil => intro x hx; cases hx
  | cons x l ih =>
    have h1 := h x (List.mem_cons_self ..)
    have h2 := total_pos (fun y hy => h y (List.mem_cons_of_mem _ hy))
    simp only [total] at h0
    intro y hy
    rcases List.mem_cons.1 hy with rfl | hy'
    · omega
    · exact ih (fun z hz => h z (List.mem_cons_of_mem _ hz)) (by omega) y hy'
theorem total_one {l : List Int} (h : ∀ x ∈ l, 0 ≤ x) {x : Int} (hx : x ∈ l) : x ≤ total l := by
  induction l with
  | nil => cases hx
  | cons y l ih =>
    have h1 := h y (List.mem_cons_self ..)
    have h2 := total_pos (fun z hz => h z (List.mem_cons_of_mem _ hz))
    simp only [total]
    rcases List.mem_cons.1 hx with rfl | hx'
    · omega
    · have := ih (fun z hz => h z (List.mem_cons_of_mem _ hz)) hx'; omega
theorem total_take {l : List Int} (h : ∀ x ∈ l, 0 ≤ x) (k : Nat) : total (l.take k) ≤ total l := by
  have e := total_append (l.take k) (l.drop k)
  rw [List.take_append_drop] at e
  have := total_pos (l := l.drop k) (fun y hy => h y (List.mem_of_mem_drop hy))
  omega
theorem take_more (l : List Int) (k : Nat) (h : k < l.length) : l.take (k + 1) = l.take k ++ [numAt l k] := by
  rw [List.take_add_one, List.getElem?_eq_getElem h]
  unfold numAt
  rw [List.getD_eq_getElem?_getD, List.getElem?_eq_getElem h]; rfl
theorem total_more (l : List Int) (k : Nat) (h : k < l.length) : total (l.take (k + 1)) = total (l.take k) + numAt l k := by
  rw [take_more l k h, total_append]; simp [total]
theorem num_mem (l : List Int) (k : Nat) (h : k < l.length) : numAt l k ∈ l := by
  unfold numAt
  rw [List.getD_eq_getElem?_getD, List.getElem?_eq_getElem h]
  exact List.getElem_mem h
theorem num_map (f : Nat → Int) (n i : Nat) (h : i < n) : numAt ((List.range n).map f) i = f i := by
  unfold numAt
  rw [List.getD_eq_getElem?_getD]
  simp [h]

/-- What stands at the places 0 to n - 1, added. -/
def sumTo (f : Nat → Int) : Nat → Int
  | 0 => 0
  | n + 1 => sumTo f n + f n
theorem total_map (f : Nat → Int) (n : Nat) : total ((List.range n).map f) = sumTo f n := by
  induction n with
  | zero => rfl
  | succ n ih => rw [List.range_succ, List.map_append, total_append, ih]; simp [total, sumTo]
theorem total_sum (l : List Int) : ∀ k, k ≤ l.length → total (l.take k) = sumTo (numAt l) k := by
  intro k
  induction k with
  | zero => intro _; rfl
  | succ k ih => intro h; rw [total_more l k (by omega), ih (by omega)]; rfl
theorem sum_add (f g : Nat → Int) (n : Nat) : sumTo (fun i => f i + g i) n = sumTo f n + sumTo g n := by
  induction n with
  | zero => rfl
  | succ n ih => simp only [sumTo, ih]; omega
theorem sum_mul (f : Nat → Int) (c : Int) (n : Nat) : sumTo (fun i => f i * c) n = sumTo f n * c := by
  induction n with
  | zero => simp [sumTo]
  | succ n ih => simp only [sumTo, ih, Int.add_mul]
theorem sum_same {f g : Nat → Int} {n : Nat} (h : ∀ i, i < n → f i = g i) : sumTo f n = sumTo g n := by
  induction n with
  | zero => rfl
  | succ n ih => simp only [sumTo]; rw [ih (fun i hi => h i (by omega)), h n (by omega)]
theorem sum_le {f g : Nat → Int} {n : Nat} (h : ∀ i, i < n → f i ≤ g i) : sumTo f n ≤ sumTo g n := by
  induction n with
  | zero => exact Int.le_refl _
  | succ n ih => simp only [sumTo]; have := ih (fun i hi => h i (by omega)); have := h n (by omega); omega
theorem sum_const (c : Int) (n : Nat) : sumTo (fun _ => c) n = n * c := by
  induction n with
  | zero => simp [sumTo]
  | succ n ih => simp only [sumTo, ih]; rw [Int.natCast_add, Int.add_mul]; simp
theorem sum_count (p : Nat → Bool) (n : Nat) : sumTo (fun i => if p i = true then 1 else 0) n = (List.range n).countP p := by
  induction n with
  | zero => rfl
  | succ n ih =>
    simp only [sumTo, ih]
    rw [List.range_succ, List.countP_append, Int.natCast_add]
    cases hp : p n <;> simp [hp]

def wholeE (ws : List Int) : Int := if ws.length = 0 ∨ 200 < ws.length then 2 else if (∀ x ∈ ws, 0 ≤ x) ∧ total ws ≤ 1000000000000 then 0 else 8
def wholeN (ws : List Int) : Int := if total ws = 0 then ws.length else total ws
def wholeV (ws : List Int) : Int := if wholeE ws = 0 then wholeN ws else 0
/-- What counts as the weight that stands at a place. -/
def weighs (ws : List Int) (i : Nat) : Int := if total ws = 0 then 1 else numAt ws i
def quoAt (T : Int) (ws : List Int) (i : Nat) : Int := T * weighs ws i / wholeN ws
def remAt (T : Int) (ws : List Int) (i : Nat) : Int := T * weighs ws i % wholeN ws
def leftOf (T : Int) (ws : List Int) : Int := T - sumTo (quoAt T ws) ws.length
def shareAt (T : Int) (ws : List Int) (i : Nat) : Int := if (rank (remAt T ws) ws.length i : Int) < leftOf T ws then quoAt T ws i + 1 else quoAt T ws i
def outE (T : Int) (ws : List Int) : Int := if wholeE ws = 0 then (if T < 0 ∨ 1000000000000 < T then 8 else 0) else wholeE ws
def outL (T : Int) (ws : List Int) : List Int := if outE T ws = 0 then (List.range ws.length).map (shareAt T ws) else []
def placeE (T : Int) (ws : List Int) (i : Int) : Int := if outE T ws = 0 then (if i < 0 ∨ (ws.length : Int) ≤ i then 2 else 0) else outE T ws
def placeV (T : Int) (ws : List Int) (i : Int) : Int := if placeE T ws i = 0 then shareAt T ws i.toNat else 0
def evenE (T n : Int) : Int := if n < 1 ∨ 200 < n then 2 else outE T (List.replicate n.toNat 0)
def evenL (T n : Int) : List Int := if n < 1 ∨ 200 < n then [] else outL T (List.replicate n.toNat 0)

/-- Weights that are taken, and a total that is. -/
structure Fine (T : Int) (ws : List Int) : Prop where
  len : 1 ≤ ws.length
  len2 : ws.length ≤ 200
  pos : ∀ x ∈ ws, 0 ≤ x
  all : total ws ≤ 1000000000000
  t0 : 0 ≤ T
  t1 : T ≤ 1000000000000
theorem out_fine {T : Int} {ws : List Int} (h : outE T ws = 0) : Fine T ws := by
  unfold outE at h
  split at h
  · rename_i hw
    unfold wholeE at hw
    split at hw
    · cases hw
    · split at hw
      · rename_i h1 h2
        split at h
        · cases h
        · exact ⟨by omega, by omega, h2.1, h2.2, by omega, by omega⟩
      · cases hw
  · rename_i hw; exact absurd h hw
theorem fine_whole {T : Int} {ws : List Int} (h : Fine T ws) : wholeE ws = 0 := by
  unfold wholeE
  rw [if_neg (by have := h.len; have := h.len2; omega), if_pos ⟨h.pos, h.all⟩]
theorem fine_out {T : Int} {ws : List Int} (h : Fine T ws) : outE T ws = 0 := by
  unfold outE
  rw [if_pos (fine_whole h), if_neg (by have := h.t0; have := h.t1; omega)]
theorem whole_pos {T : Int} {ws : List Int} (h : Fine T ws) : 1 ≤ wholeN ws ∧ wholeN ws ≤ 1000000000000 := by
  have h1 := total_pos h.pos
  have h2 := h.all
  have h3 := h.len
  have h4 := h.len2
  unfold wholeN
  split <;> omega
theorem weighs_bd {T : Int} {ws : List Int} (h : Fine T ws) {i : Nat} (hi : i < ws.length) : 0 ≤ weighs ws i ∧ weighs ws i ≤ wholeN ws := by
  have h1 := h.pos _ (num_mem ws i hi)
  have h2 := total_one h.pos (num_mem ws i hi)
  have h3 := h.len
  unfold weighs wholeN
  split <;> omega
theorem weighs_sum {T : Int} {ws : List Int} (_ : Fine T ws) : sumTo (weighs ws) ws.length = wholeN ws := by
  unfold wholeN
  split
  · rename_i h0
    rw [sum_same (g := fun _ => 1) (fun i _ => by unfold weighs; rw [if_pos h0]), sum_const]; omega
  · rename_i h0
    rw [sum_same (g := numAt ws) (fun i _ => by unfold weighs; rw [if_neg h0]), ← total_sum ws ws.length (Nat.le_refl _), List.take_length]
theorem rem_at {T : Int} {ws : List Int} (h : Fine T ws) (i : Nat) : 0 ≤ remAt T ws i ∧ remAt T ws i < wholeN ws := by
  have := (whole_pos h).1
  exact ⟨Int.emod_nonneg _ (by omega), Int.emod_lt_of_pos _ (by omega)⟩
theorem quo_at {T : Int} {ws : List Int} (h : Fine T ws) {i : Nat} (hi : i < ws.length) : 0 ≤ quoAt T ws i ∧ quoAt T ws i ≤ T := by
  have h1 := whole_pos h
  have h2 := weighs_bd h hi
  have h3 := h.t0
  refine ⟨Int.ediv_nonneg (Int.mul_nonneg h3 h2.1) (by omega), ?_⟩
  have h4 : T * weighs ws i ≤ T * wholeN ws := Int.mul_le_mul_of_nonneg_left h2.2 h3
  have h5 := Int.ediv_le_ediv (c := wholeN ws) (by omega) h4
  rw [Int.mul_ediv_cancel _ (by omega)] at h5
  exact h5
/-- The total, put together of quotients and rests. -/
theorem quo_rem (T : Int) (ws : List Int) (i : Nat) : T * weighs ws i = quoAt T ws i * wholeN ws + remAt T ws i := by
  unfold quoAt remAt
  rw [Int.mul_comm (_ / _)]
  exact (Int.mul_ediv_add_emod _ _).symm
theorem left_mul {T : Int} {ws : List Int} (h : Fine T ws) : leftOf T ws * wholeN ws = sumTo (remAt T ws) ws.length := by
  have e1 : sumTo (fun i => weighs ws i * T) ws.length = wholeN ws * T := by rw [sum_mul, weighs_sum h]
  have e2 : sumTo (fun i => weighs ws i * T) ws.length = sumTo (fun i => quoAt T ws i * wholeN ws + remAt T ws i) ws.length := sum_same fun i _ => by rw [Int.mul_comm]; exact quo_rem T ws i
  rw [e1, sum_add, sum_mul] at e2
  unfold leftOf
  rw [Int.sub_mul, Int.mul_comm T]
  omega
theorem left_bd {T : Int} {ws : List Int} (h : Fine T ws) : 0 ≤ leftOf T ws ∧ leftOf T ws < ws.length := by
  have h1 := whole_pos h
  have e := left_mul h
  have hlen := h.len
  have h2 : 0 ≤ sumTo (remAt T ws) ws.length := by
    have := sum_le (f := fun _ => 0) (g := remAt T ws) (n := ws.length) (fun i _ => (rem_at h i).1)
    rw [sum_const] at this; omega
  have h3 : sumTo (remAt T ws) ws.length ≤ ws.length * (wholeN ws - 1) := by
    rw [← sum_const]
    exact sum_le fun i _ => by have := (rem_at h i).2; omega
  constructor
  · rcases (by omega : leftOf T ws < 0 ∨ 0 ≤ leftOf T ws) with h4 | h4
    · have : leftOf T ws * wholeN ws < 0 := Int.mul_neg_of_neg_of_pos h4 (by omega)
      omega
    · exact h4
  · rcases (by omega : (ws.length : Int) ≤ leftOf T ws ∨ leftOf T ws < ws.length) with h4 | h4
    · have : (ws.length : Int) * wholeN ws ≤ leftOf T ws * wholeN ws := Int.mul_le_mul_of_nonneg_right h4 (by omega)
      rw [Int.mul_sub] at h3
      omega
    · exact h4
theorem share_bd (T : Int) (ws : List Int) (i : Nat) : quoAt T ws i ≤ shareAt T ws i ∧ shareAt T ws i ≤ quoAt T ws i + 1 := by
  unfold shareAt; split <;> omega
/-- The shares together are the total. -/
theorem share_sum {T : Int} {ws : List Int} (h : Fine T ws) : sumTo (shareAt T ws) ws.length = T := by
  obtain ⟨h1, h2⟩ := left_bd h
  have e : sumTo (shareAt T ws) ws.length = sumTo (fun i => quoAt T ws i + if decide (rank (remAt T ws) ws.length i < (leftOf T ws).toNat) = true then 1 else 0) ws.length := by
    refine sum_same fun i _ => ?_
    unfold shareAt
    by_cases hr : (rank (remAt T ws) ws.length i : Int) < leftOf T ws
    · rw [if_pos hr, if_pos (decide_eq_true (by omega))]
    · rw [if_neg hr, if_neg (by rw [decide_eq_true_iff]; omega)]; omega
  rw [e, sum_add, sum_count, count_rank _ _ _ (by omega)]
  unfold leftOf at *
  omega
theorem fine_list {T : Int} {ws : List Int} (h : Fine T ws) : outL T ws = (List.range ws.length).map (shareAt T ws) := by unfold outL; rw [if_pos (fine_out h)]
theorem out_total {T : Int} {ws : List Int} (h : Fine T ws) : total (outL T ws) = T := by rw [fine_list h, total_map, share_sum h]
theorem out_len {T : Int} {ws : List Int} (h : Fine T ws) : (outL T ws).length = ws.length := by rw [fine_list h]; simp
theorem out_at {T : Int} {ws : List Int} (h : Fine T ws) {i : Nat} (hi : i < ws.length) : numAt (outL T ws) i = shareAt T ws i := by rw [fine_list h, num_map _ _ _ hi]
theorem share_pos {T : Int} {ws : List Int} (h : Fine T ws) {i : Nat} (hi : i < ws.length) : 0 ≤ shareAt T ws i := by
  have := (quo_at h hi).1
  have := (share_bd T ws i).1
  omega

/-- Who weighs more gets no less. -/
theorem fair_more {T : Int} {ws : List Int} (h : Fine T ws) {i k : Nat} (hi : i < ws.length) (hw : weighs ws k < weighs ws i) : shareAt T ws k ≤ shareAt T ws i := by
  have h1 := whole_pos h
  have e1 : T * weighs ws k ≤ T * weighs ws i := Int.mul_le_mul_of_nonneg_left (by omega) h.t0
  have hq : quoAt T ws k ≤ quoAt T ws i := Int.ediv_le_ediv (by omega) e1
  have q1 := quo_rem T ws k
  have q2 := quo_rem T ws i
  have b1 := share_bd T ws k
  have b2 := share_bd T ws i
  rcases (by omega : quoAt T ws k < quoAt T ws i ∨ quoAt T ws k = quoAt T ws i) with h2 | h2
  · omega
  · rw [h2] at q1
    rcases (by have := h.t0; omega : T = 0 ∨ 0 < T) with h0 | h0
    · subst h0
      have hs : ∀ j, shareAt 0 ws j = 0 := by
        intro j
        have hl : leftOf 0 ws = 0 := by
          unfold leftOf
          rw [sum_same (g := fun _ => 0) (fun i _ => by unfold quoAt; rw [Int.zero_mul, Int.zero_ediv]), sum_const]; omega
        unfold shareAt quoAt
        rw [hl, if_neg (by omega), Int.zero_mul, Int.zero_ediv]
      rw [hs, hs]; exact Int.le_refl _
    · have e2 : T * weighs ws k < T * weighs ws i := Int.mul_lt_mul_of_pos_left hw h0
      have hb : beats (remAt T ws) i k = true := (beats_iff _ _ _).2 (Or.inl (by omega))
      have hr := rank_lt hi hb
      unfold shareAt
      rw [h2]
      split <;> split <;> omega
/-- Of two that weigh the same the first gets as much, or 1 more. -/
theorem fair_same {T : Int} {ws : List Int} {i k : Nat} (hi : i < ws.length) (hik : i < k) (hw : weighs ws i = weighs ws k) : shareAt T ws k ≤ shareAt T ws i ∧ shareAt T ws i ≤ shareAt T ws k + 1 := by
  have hq : quoAt T ws i = quoAt T ws k := by unfold quoAt; rw [hw]
  have hr : remAt T ws i = remAt T ws k := by unfold remAt; rw [hw]
  have hb : beats (remAt T ws) i k = true := (beats_iff _ _ _).2 (Or.inr ⟨hr.symm, hik⟩)
  have hrk := rank_lt hi hb
  unfold shareAt
  rw [hq]
  split <;> split <;> omega
/-- Who weighs nothing gets nothing, unless nobody weighs anything. -/
theorem fair_none {T : Int} {ws : List Int} (h : Fine T ws) {i : Nat} (hw : weighs ws i = 0) : shareAt T ws i = 0 := by
  have h1 := whole_pos h
  have hq : quoAt T ws i = 0 := by unfold quoAt; rw [hw, Int.mul_zero, Int.zero_ediv]
  have hr : remAt T ws i = 0 := by unfold remAt; rw [hw, Int.mul_zero, Int.zero_emod]
  obtain ⟨hl0, hl1⟩ := left_bd h
  have e := left_mul h
  have hc : (List.range ws.length).countP (fun j => decide (0 < remAt T ws j)) ≤ rank (remAt T ws) ws.length i := by
    unfold rank
    refine List.countP_mono_left fun j _ hj => ?_
    rw [beats_iff, hr]
    exact Or.inl (of_decide_eq_true hj)
  have hs : sumTo (remAt T ws) ws.length ≤ sumTo (fun j => (if decide (0 < remAt T ws j) = true then 1 else 0) * wholeN ws) ws.length := by
    refine sum_le fun j _ => ?_
    have hb := rem_at h j
    by_cases hj : 0 < remAt T ws j
    · rw [if_pos (decide_eq_true hj)]; omega
    · rw [if_neg (by rw [decide_eq_true_iff]; omega)]; omega
  rw [sum_mul, sum_count, ← e] at hs
  have hle : leftOf T ws ≤ ((List.range ws.length).countP (fun j => decide (0 < remAt T ws j)) : Int) := Int.le_of_mul_le_mul_right hs (by omega)
  unfold shareAt
  rw [hq, if_neg (by omega)]
end Go.Proofs.Ytmdonhkdkapjpaa
