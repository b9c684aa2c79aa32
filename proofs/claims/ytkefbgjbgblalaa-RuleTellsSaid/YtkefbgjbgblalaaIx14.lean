/- Indexes, in plain words: keys in order, to each its numbers that rise; and their pairs. -/
import Derived.Test.YtkefbgjbgblalaaPairs14
import Derived.Test.YtkefbgjbgblalaaRef13
namespace Go.Proofs.Ytkefbgjbgblalaa
open Go.RowKit

/-- The pairs of keys and their numbers. -/
def pairsK : List (List UInt8) → List (List Int) → List Pr
  | k :: K, l :: I => l.map (fun n => (k, n)) ++ pairsK K I
  | _, _ => []
def numsAt (I : List (List Int)) (k : Nat) : List Int := I.getD k []
theorem numsAt_get (I : List (List Int)) (k : Nat) (h : k < I.length) : I[k]? = some (numsAt I k) := by
  unfold numsAt
  rw [List.getElem?_eq_getElem h, List.getD_eq_getElem?_getD, List.getElem?_eq_getElem h]
  rfl
theorem rowAt_of {K : List (List UInt8)} {k : Nat} {s : List UInt8} (h : K[k]? = some s) : k < K.length ∧ rowAt K k = s := by
  have h1 := (List.getElem?_eq_some_iff.1 h).1
  rw [rowAt_get K k h1] at h
  exact ⟨h1, Option.some.inj h⟩
theorem mem_pairsK : ∀ {K : List (List UInt8)} {I : List (List Int)} {s : List UInt8} {n : Int}, (s, n) ∈ pairsK K I ↔ ∃ k, k < K.length ∧ k < I.length ∧ rowAt K k = s ∧ n ∈ numsAt I k
  | [], I, s, n => by simp [pairsK]
  | k :: K, [], s, n => by simp [pairsK]
  | k :: K, l :: I, s, n => by
    unfold pairsK
    rw [List.mem_append, List.mem_map, mem_pairsK]
    constructor
    · rintro (⟨m, hm, e⟩ | ⟨j, h1, h2, h3, h4⟩)
      · injection e with e1 e2
        subst e1 e2
        exact ⟨0, by simp, by simp, rfl, hm⟩
      · exact ⟨j + 1, by simpa using h1, by simpa using h2, h3, h4⟩
    · rintro ⟨j, h1, h2, h3, h4⟩
      cases j with
      | zero => exact Or.inl ⟨n, h4, by rw [← h3]; rfl⟩
      | succ j => exact Or.inr ⟨j, by simpa using h1, by simpa using h2, h3, h4⟩
def SrtK (K : List (List UInt8)) : Prop := K.Pairwise fun a b => Op.bytesLess a b = true
theorem srtK_lt {K : List (List UInt8)} (h : SrtK K) {i j : Nat} (hij : i < j) (hj : j < K.length) : Op.bytesLess (rowAt K i) (rowAt K j) = true := by
  have := List.pairwise_iff_getElem.1 h i j (by omega) hj hij
  have e1 := rowAt_get K i (by omega)
  have e2 := rowAt_get K j hj
  rw [List.getElem?_eq_getElem (by omega)] at e1 e2
  rw [← Option.some.inj e1, ← Option.some.inj e2]
  exact this
theorem srtK_inj {K : List (List UInt8)} (h : SrtK K) {i j : Nat} (hi : i < K.length) (hj : j < K.length) (e : rowAt K i = rowAt K j) : i = j := by
  rcases Nat.lt_trichotomy i j with h1 | h1 | h1
  · have := srtK_lt h h1 hj
    rw [e, pl_irrefl] at this; cases this
  · exact h1
  · have := srtK_lt h h1 hi
    rw [e, pl_irrefl] at this; cases this
theorem rises_pair {l : List Int} (h : Rises l) : l.Pairwise fun a b => a < b := by
  rw [List.pairwise_iff_getElem]
  intro i j hi hj hij
  have := rises_lt h hij hj
  rw [numAt_get l i hi, numAt_get l j hj] at this
  exact this
theorem srt_pairsK : ∀ {K : List (List UInt8)} {I : List (List Int)}, SrtK K → (∀ l ∈ I, Rises l) → Srt (pairsK K I)
  | [], _, _, _ => List.Pairwise.nil
  | _ :: _, [], _, _ => List.Pairwise.nil
  | k :: K, l :: I, hK, hI => by
    obtain ⟨h1, h2⟩ := List.pairwise_cons.1 hK
    unfold pairsK Srt
    rw [List.pairwise_append]
    refine ⟨?_, srt_pairsK h2 fun l hl => hI l (List.mem_cons_of_mem _ hl), ?_⟩
    · rw [List.pairwise_map]
      refine (rises_pair (hI l (List.mem_cons_self ..))).imp fun h => ?_
      rw [prLt_iff]
      exact Or.inr ⟨rfl, h⟩
    · intro p hp q hq
      obtain ⟨n, _, rfl⟩ := List.mem_map.1 hp
      obtain ⟨q1, q2⟩ := q
      obtain ⟨j, hj, _, e, _⟩ := mem_pairsK.1 hq
      rw [prLt_iff]
      refine Or.inl ?_
      show Op.bytesLess k q1 = true
      rw [← e]
      have e2 := rowAt_get K j hj
      rw [List.getElem?_eq_getElem hj] at e2
      rw [← Option.some.inj e2]
      exact h1 _ (List.getElem_mem hj)
theorem pairsK_take {K : List (List UInt8)} {I : List (List Int)} {i : Nat} (h1 : i < K.length) (h2 : i < I.length) : pairsK (K.take (i + 1)) (I.take (i + 1)) = pairsK (K.take i) (I.take i) ++ (numsAt I i).map fun n => (rowAt K i, n) := by
  induction i generalizing K I with
  | zero =>
    match K, I, h1, h2 with
    | k :: K, l :: I, _, _ => simp [pairsK, numsAt, rowAt]
  | succ i ih =>
    match K, I, h1, h2 with
    | k :: K, l :: I, h1, h2 =>
      have := ih (K := K) (I := I) (by simpa using h1) (by simpa using h2)
      simp only [List.take_succ_cons, pairsK]
      rw [this, List.append_assoc]
      rfl
/-- How many pairs. -/
def sumK (I : List (List Int)) : Nat := (I.map fun l => l.length).sum
theorem len_pairsK : ∀ {K : List (List UInt8)} {I : List (List Int)}, K.length = I.length → (pairsK K I).length = sumK I
  | [], [], _ => rfl
  | [], _ :: _, h => by simp at h
  | _ :: _, [], h => by simp at h
  | k :: K, l :: I, h => by
    unfold pairsK sumK
    rw [List.length_append, List.length_map, len_pairsK (by simpa using h), List.map_cons, List.sum_cons]
    rfl
/-- An index that may be, but for how many pairs it has and what its keys are. -/
structure Ix14 (K : List (List UInt8)) (I : List (List Int)) : Prop where
  len : K.length = I.length
  keys : SrtK K
  some : ∀ l ∈ I, l ≠ []
  rises : ∀ l ∈ I, Rises l
theorem Ix14.srt {K : List (List UInt8)} {I : List (List Int)} (h : Ix14 K I) : Srt (pairsK K I) := srt_pairsK h.keys h.rises
theorem numsAt_mem {I : List (List Int)} {k : Nat} (h : k < I.length) : numsAt I k ∈ I := by
  have := numsAt_get I k h
  exact List.mem_of_getElem? this
/-- The numbers of a key. -/
theorem Ix14.at {K : List (List UInt8)} {I : List (List Int)} (h : Ix14 K I) {k : Nat} (hk : k < K.length) {n : Int} : (rowAt K k, n) ∈ pairsK K I ↔ n ∈ numsAt I k := by
  rw [mem_pairsK]
  constructor
  · rintro ⟨j, h1, _, h3, h4⟩
    rw [srtK_inj h.keys h1 hk h3] at h4
    exact h4
  · intro hn
    exact ⟨k, hk, by have := h.len; omega, rfl, hn⟩
theorem Ix14.none {K : List (List UInt8)} {I : List (List Int)} {s : List UInt8} (hs : ∀ k, k < K.length → rowAt K k ≠ s) (n : Int) : (s, n) ∉ pairsK K I := by
  rw [mem_pairsK]
  rintro ⟨k, h1, _, h3, _⟩
  exact hs k h1 h3
theorem srt_of : ∀ {l : List Pr} {s : List UInt8}, Srt l → (ofP l s).Pairwise fun a b => a < b := by
  intro l s h
  unfold ofP
  rw [List.pairwise_map]
  have h2 : (l.filter fun p => p.1 == s).Pairwise fun p q => prLt p q = true := List.Pairwise.sublist (List.filter_sublist ..) h
  refine List.Pairwise.imp_of_mem (fun {p q} hp hq hpq => ?_) h2
  rw [List.mem_filter, beq_iff_eq] at hp hq
  rw [prLt_iff] at hpq
  rcases hpq with h3 | h3
  · rw [hp.2, hq.2, pl_irrefl] at h3; cases h3
  · exact h3.2
theorem rise_ext : ∀ {l m : List Int}, (l.Pairwise fun a b => a < b) → (m.Pairwise fun a b => a < b) → (∀ n, n ∈ l ↔ n ∈ m) → l = m
  | [], [], _, _, _ => rfl
  | [], q :: m, _, _, h => by have := (h q).2 (List.mem_cons_self ..); cases this
  | p :: l, [], _, _, h => by have := (h p).1 (List.mem_cons_self ..); cases this
  | p :: l, q :: m, hl, hm, h => by
    obtain ⟨hl1, hl2⟩ := List.pairwise_cons.1 hl
    obtain ⟨hm1, hm2⟩ := List.pairwise_cons.1 hm
    have e : p = q := by
      rcases List.mem_cons.1 ((h p).1 (List.mem_cons_self ..)) with e | h1
      · exact e
      · rcases List.mem_cons.1 ((h q).2 (List.mem_cons_self ..)) with e | h2
        · exact e.symm
        · have := hm1 p h1; have := hl1 q h2; omega
    subst e
    have hsub : ∀ r, r ∈ l ↔ r ∈ m := fun r => by
      constructor
      · intro hr
        rcases List.mem_cons.1 ((h r).1 (List.mem_cons_of_mem _ hr)) with e | h1
        · subst e; have := hl1 r hr; omega
        · exact h1
      · intro hr
        rcases List.mem_cons.1 ((h r).2 (List.mem_cons_of_mem _ hr)) with e | h1
        · subst e; have := hm1 r hr; omega
        · exact h1
    rw [rise_ext hl2 hm2 hsub]
theorem Ix14.of {K : List (List UInt8)} {I : List (List Int)} (h : Ix14 K I) {k : Nat} (hk : k < K.length) : ofP (pairsK K I) (rowAt K k) = numsAt I k := by
  refine rise_ext (srt_of h.srt) (rises_pair (h.rises _ (numsAt_mem (by have := h.len; omega)))) fun n => ?_
  rw [mem_ofP, h.at hk]
theorem Ix14.of_none {K : List (List UInt8)} {I : List (List Int)} {s : List UInt8} (hs : ∀ k, k < K.length → rowAt K k ≠ s) : ofP (pairsK K I) s = [] := by
  rw [List.eq_nil_iff_forall_not_mem]
  intro n hn
  exact Ix14.none hs n (mem_ofP.1 hn)
/-- The keys under which a number stands, in their order. -/
theorem under_pairs : ∀ {K : List (List UInt8)} {I : List (List Int)} {n : Int}, K.length = I.length → (∀ l ∈ I, Rises l) → underP (pairsK K I) n = ((List.range K.length).filter fun k => decide (n ∈ numsAt I k)).map fun k => rowAt K k
  | [], [], _, _, _ => rfl
  | [], _ :: _, _, h, _ => by simp at h
  | _ :: _, [], _, h, _ => by simp at h
  | k :: K, l :: I, n, h, hr => by
    have ih := under_pairs (K := K) (I := I) (n := n) (by simpa using h) fun l hl => hr l (List.mem_cons_of_mem _ hl)
    have hl := rises_pair (hr l (List.mem_cons_self ..))
    unfold underP at ih ⊢
    unfold pairsK
    rw [List.filter_append, List.map_append, ih, List.length_cons, List.range_succ_eq_map, List.filter_cons, List.filter_map, List.filter_map]
    have h1 : (l.filter ((fun p : Pr => p.2 == n) ∘ fun n => (k, n))) = if n ∈ l then [n] else [] := by
      have : ((fun p : Pr => p.2 == n) ∘ fun n => (k, n)) = fun m => m == n := rfl
      rw [this]
      refine rise_ext (List.Pairwise.sublist (List.filter_sublist ..) hl) (by split <;> simp) fun m => ?_
      rw [List.mem_filter, beq_iff_eq]
      split
      · rename_i hn
        simp
        rintro rfl
        exact hn
      · rename_i hn
        simp
        rintro q rfl
        exact hn q
    rw [h1]
    have h2 : (((fun k_1 => decide (n ∈ numsAt (l :: I) k_1)) ∘ Nat.succ) : Nat → Bool) = fun j => decide (n ∈ numsAt I j) := rfl
    rw [h2]
    by_cases hn : n ∈ l
    · have h3 : decide (n ∈ numsAt (l :: I) 0) = true := decide_eq_true hn
      rw [if_pos hn, h3, if_pos rfl]
      simp only [List.map_cons, List.map_nil, List.map_map, List.cons_append, List.nil_append]
      rfl
    · have h3 : decide (n ∈ numsAt (l :: I) 0) = false := decide_eq_false hn
      rw [if_neg hn, h3, if_neg (by simp)]
      simp only [List.map_nil, List.nil_append, List.map_map]
      rfl
end Go.Proofs.Ytkefbgjbgblalaa
