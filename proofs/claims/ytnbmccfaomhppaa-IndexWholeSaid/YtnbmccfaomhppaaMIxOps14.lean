/- What becomes of an index's pairs where a number is put in or taken out, in plain words. -/
import Derived.Test.YtnbmccfaomhppaaRefD14
import Derived.Test.YtnbmccfaomhppaaRefE14
namespace Go.Proofs.Ytnbmccfaomhppaa
open Go.RowKit

theorem row_zero (xs : List ByteArray) (n : Nat) : ∀ i, (∀ j, i ≤ j → j < i + n → stepOf xs j = 0) → rowFrom xs n i = 0 := by
  induction n with
  | zero => intro i _; rfl
  | succ n ih =>
    intro i h
    rw [rowFrom_go xs (n + 1) i (by omega) (h i (Nat.le_refl _) (by omega))]
    exact ih (i + 1) fun j h1 h2 => h j (by omega) (by omega)
theorem row_checks {K : List (List UInt8)} (h : rowOf (K.map tx) = 0) {j : Nat} (hj : j < K.length) : checkOf (rowAt K j) = 0 := by
  have hs := row_steps (K.map tx) (K.map tx).length 0 h j (Nat.zero_le _) (by simpa using hj)
  unfold stepOf at hs
  rw [textAt_tx hj, tx_list] at hs
  rcases check_two (rowAt K j) with h0 | h0
  · exact h0
  · rw [if_pos h0] at hs; cases hs
/-- Keys are a row just if each is a serial, and they are in order. -/
theorem row_of {K : List (List UInt8)} (hc : ∀ j, j < K.length → checkOf (rowAt K j) = 0) (hs : SrtK K) : rowOf (K.map tx) = 0 := by
  refine row_zero (K.map tx) (K.map tx).length 0 fun j _ hj => ?_
  have hj' : j < K.length := by simpa using hj
  unfold stepOf
  rw [textAt_tx hj', tx_list, if_neg (by rw [hc j hj']; decide)]
  rw [if_neg]
  rintro ⟨h0, h1⟩
  have h2 := srtK_lt hs (i := j - 1) (j := j) (by omega) hj'
  rw [textAt_tx (show j - 1 < K.length by omega), ByteArray.toList_eq, ByteArray.toList_eq, tx_list, tx_list, Bool.or_eq_true, beq_iff_eq] at h1
  rcases h1 with h1 | h1
  · rw [pl_asymm h2] at h1; cases h1
  · rw [h1, pl_irrefl] at h2; cases h2
theorem fine_mk {K : List (List UInt8)} {I : List (List Int)} (hc : ∀ j, j < K.length → checkOf (rowAt K j) = 0) (hs : SrtK K) (hl : K.length = I.length) (hn : ∀ j, j < I.length → numsAt I j ≠ [] ∧ Rises (numsAt I j)) : fineK K I :=
  ⟨row_of hc hs, hl, fun j hj => ⟨(hn j hj).1, (rising_iff _).2 (hn j hj).2⟩⟩
theorem fine_at {K : List (List UInt8)} {I : List (List Int)} (h : fineK K I) {j : Nat} (hj : j < I.length) : numsAt I j ≠ [] ∧ Rises (numsAt I j) := ⟨(h.2.2 j hj).1, (rising_iff _).1 (h.2.2 j hj).2⟩

theorem numsAt_set (I : List (List Int)) (i j : Nat) (l : List Int) (hi : i < I.length) : numsAt (I.set i l) j = if j = i then l else numsAt I j := by
  unfold numsAt
  rw [List.getD_eq_getElem?_getD, List.getElem?_set]
  by_cases h : i = j
  · subst h; rw [if_pos rfl, if_pos rfl, if_pos hi]; rfl
  · rw [if_neg h, if_neg fun e => h e.symm, List.getD_eq_getElem?_getD]
theorem numsAt_with (I : List (List Int)) (p : Nat) (l : List Int) (h : p ≤ I.length) (i : Nat) : numsAt (with13 I p l) i = if i < p then numsAt I i else if i = p then l else numsAt I (i - 1) := by
  unfold numsAt with13
  rw [List.getD_eq_getElem?_getD]
  have ht : (I.take p).length = p := by rw [List.length_take]; omega
  split
  · rename_i q
    rw [List.getElem?_append_left (by omega), List.getElem?_take_of_lt q, List.getD_eq_getElem?_getD]
  · rename_i q
    rw [List.getElem?_append_right (by omega), ht]
    split
    · rename_i e; subst e; rw [Nat.sub_self]; rfl
    · rename_i e
      obtain ⟨j, hj⟩ : ∃ j, i - p = j + 1 := ⟨i - p - 1, by omega⟩
      rw [hj, List.getElem?_cons_succ, List.getElem?_drop, List.getD_eq_getElem?_getD, show p + j = i - 1 by omega]
theorem rowAt_with (K : List (List UInt8)) (p : Nat) (l : List UInt8) (h : p ≤ K.length) (i : Nat) : rowAt (with13 K p l) i = if i < p then rowAt K i else if i = p then l else rowAt K (i - 1) := by
  unfold rowAt with13
  rw [List.getD_eq_getElem?_getD]
  have ht : (K.take p).length = p := by rw [List.length_take]; omega
  split
  · rename_i q
    rw [List.getElem?_append_left (by omega), List.getElem?_take_of_lt q, List.getD_eq_getElem?_getD]
  · rename_i q
    rw [List.getElem?_append_right (by omega), ht]
    split
    · rename_i e; subst e; rw [Nat.sub_self]; rfl
    · rename_i e
      obtain ⟨j, hj⟩ : ∃ j, i - p = j + 1 := ⟨i - p - 1, by omega⟩
      rw [hj, List.getElem?_cons_succ, List.getElem?_drop, List.getD_eq_getElem?_getD, show p + j = i - 1 by omega]
theorem less_at {α : Type} (l : List α) (p i : Nat) (d : α) (hp : p < l.length) : (less13 l p).getD i d = if i < p then l.getD i d else l.getD (i + 1) d := by
  unfold less13
  have ht : (l.take p).length = p := by rw [List.length_take]; omega
  rw [List.getD_eq_getElem?_getD]
  split
  · rename_i q
    rw [List.getElem?_append_left (by omega), List.getElem?_take_of_lt q, List.getD_eq_getElem?_getD]
  · rename_i q
    rw [List.getElem?_append_right (by omega), ht, List.getElem?_drop, List.getD_eq_getElem?_getD, show p + 1 + (i - p) = i + 1 by omega]
theorem less_len {α : Type} (l : List α) (p : Nat) (hp : p < l.length) : (less13 l p).length = l.length - 1 := by
  unfold less13
  rw [List.length_append, List.length_take, List.length_drop]
  omega
theorem srtK_of {K : List (List UInt8)} (h : ∀ i j, i < j → j < K.length → Op.bytesLess (rowAt K i) (rowAt K j) = true) : SrtK K := by
  unfold SrtK
  rw [List.pairwise_iff_getElem]
  intro i j hi hj hij
  have e1 := rowAt_get K i hi
  have e2 := rowAt_get K j hj
  rw [List.getElem?_eq_getElem hi] at e1
  rw [List.getElem?_eq_getElem hj] at e2
  rw [Option.some.inj e1, Option.some.inj e2]
  exact h i j hij hj
theorem pairs_eq {K' : List (List UInt8)} {I' : List (List Int)} {m : List Pr} (h : fineK K' I') (hm : Srt m) (hmem : ∀ s n, (s, n) ∈ pairsK K' I' ↔ (s, n) ∈ m) : pairsK K' I' = m :=
  srt_ext (fine_ix h).srt hm fun p => by obtain ⟨s, n⟩ := p; exact hmem s n
theorem mem_with (l : List Int) (p : Nat) (n m : Int) : m ∈ with13 l p n ↔ m = n ∨ m ∈ l := by
  unfold with13
  rw [List.mem_append, List.mem_cons]
  conv => rhs; rw [← List.take_append_drop p l, List.mem_append]
  constructor
  · rintro (q | q | q)
    · exact Or.inr (Or.inl q)
    · exact Or.inl q
    · exact Or.inr (Or.inr q)
  · rintro (q | q | q)
    · exact Or.inr (Or.inl q)
    · exact Or.inl q
    · exact Or.inr (Or.inr q)
/-- A number more under a key that is there. -/
theorem add_old {K : List (List UInt8)} {I : List (List Int)} (h : fineK K I) {i : Nat} (hi : i < K.length) {n : Int} (h1 : 1 ≤ n ∧ n ≤ 999999) (hn : n ∉ numsAt I i) :
    fineK K (I.set i (with13 (numsAt I i) (lowTo (numsAt I i) n (numsAt I i).length) n)) ∧ pairsK K (I.set i (with13 (numsAt I i) (lowTo (numsAt I i) n (numsAt I i).length) n)) = insP (pairsK K I) (rowAt K i, n) := by
  have hx := fine_ix h
  have hiI : i < I.length := by have := hx.len; omega
  have hlo := (low_spec (numsAt I i) n (numsAt I i).length).1
  have hr := rises_with (fine_at h hiI).2 h1 (fun j hj e => hn (by rw [← e]; exact num_mem _ j hj))
  generalize lowTo (numsAt I i) n (numsAt I i).length = p at *
  have hf : fineK K (I.set i (with13 (numsAt I i) p n)) := by
    refine fine_mk (fun j hj => row_checks h.1 hj) hx.keys (by rw [List.length_set]; exact hx.len) fun j hj => ?_
    rw [List.length_set] at hj
    rw [numsAt_set I i j _ hiI]
    split
    · refine ⟨fun e => ?_, hr⟩
      have := with_len (numsAt I i) p n hlo
      rw [e] at this
      simp at this
    · exact fine_at h hj
  refine ⟨hf, pairs_eq hf (srt_insP hx.srt fun q => hn ((hx.at hi).1 q)) fun s m => ?_⟩
  rw [mem_insP, mem_pairsK, mem_pairsK]
  constructor
  · rintro ⟨k, a1, a2, a3, a4⟩
    rw [List.length_set] at a2
    rw [numsAt_set I i k _ hiI] at a4
    split at a4
    · rename_i e
      subst e
      rcases (mem_with _ _ _ _).1 a4 with e | a4
      · exact Or.inl (by rw [← a3, e])
      · exact Or.inr ⟨k, a1, a2, a3, a4⟩
    · exact Or.inr ⟨k, a1, a2, a3, a4⟩
  · rintro (e | ⟨k, a1, a2, a3, a4⟩)
    · injection e with e1 e2
      exact ⟨i, hi, by rw [List.length_set]; exact hiI, e1.symm, by rw [numsAt_set I i i _ hiI, if_pos rfl, mem_with _ _ _ _]; exact Or.inl e2⟩
    · refine ⟨k, a1, by rw [List.length_set]; exact a2, a3, ?_⟩
      rw [numsAt_set I i k _ hiI]
      split
      · rename_i e
        subst e
        exact (mem_with _ _ _ _).2 (Or.inr a4)
      · exact a4
/-- A new key, with its first number. -/
theorem add_new {K : List (List UInt8)} {I : List (List Int)} (h : fineK K I) {p : Nat} (hp : p ≤ K.length) {s : List UInt8} (hs : checkOf s = 0) (hlo : ∀ j, j < p → Op.bytesLess (rowAt K j) s = true) (hhi : ∀ j, p ≤ j → j < K.length → Op.bytesLess s (rowAt K j) = true) {n : Int} (h1 : 1 ≤ n ∧ n ≤ 999999) :
    fineK (with13 K p s) (with13 I p [n]) ∧ pairsK (with13 K p s) (with13 I p [n]) = insP (pairsK K I) (s, n) := by
  have hx := fine_ix h
  have hpI : p ≤ I.length := by have := hx.len; omega
  have hno : ∀ k, k < K.length → rowAt K k ≠ s := fun k hk e => by
    rcases Nat.lt_or_ge k p with q | q
    · have := hlo k q; rw [e, pl_irrefl] at this; cases this
    · have := hhi k q hk; rw [e, pl_irrefl] at this; cases this
  have hone : Rises [n] := fun i hi => by
    obtain rfl : i = 0 := by simpa using hi
    exact ⟨h1, fun q => absurd q (by omega)⟩
  have hf : fineK (with13 K p s) (with13 I p [n]) := by
    refine fine_mk (fun j hj => ?_) (srtK_of fun i j hij hj => ?_) (by rw [with_len K p s hp, with_len I p _ hpI, hx.len]) fun j hj => ?_
    · rw [with_len K p s hp] at hj
      rw [rowAt_with K p s hp]
      split
      · exact row_checks h.1 (by omega)
      · split
        · exact hs
        · exact row_checks h.1 (by omega)
    · rw [with_len K p s hp] at hj
      rw [rowAt_with K p s hp, rowAt_with K p s hp]
      rcases Nat.lt_trichotomy j p with q | q | q
      · rw [if_pos (by omega), if_pos q]; exact srtK_lt hx.keys hij (by omega)
      · rw [if_pos (by omega), if_neg (by omega), if_pos q]; exact hlo i (by omega)
      · rw [if_neg (by omega : ¬ j < p), if_neg (by omega : ¬ j = p)]
        rcases Nat.lt_trichotomy i p with r | r | r
        · rw [if_pos r]; exact srtK_lt hx.keys (by omega) (by omega)
        · rw [if_neg (by omega), if_pos r]; exact hhi (j - 1) (by omega) (by omega)
        · rw [if_neg (by omega), if_neg (by omega)]; exact srtK_lt hx.keys (by omega) (by omega)
    · rw [with_len I p _ hpI] at hj
      rw [numsAt_with I p _ hpI]
      split
      · exact fine_at h (by omega)
      · split
        · exact ⟨by simp, hone⟩
        · exact fine_at h (by omega)
  refine ⟨hf, pairs_eq hf (srt_insP hx.srt (Ix14.none hno n)) fun t m => ?_⟩
  rw [mem_insP, mem_pairsK, mem_pairsK]
  constructor
  · rintro ⟨k, a1, a2, a3, a4⟩
    rw [with_len K p s hp] at a1
    rw [rowAt_with K p s hp] at a3
    rw [numsAt_with I p _ hpI] at a4
    by_cases q : k < p
    · rw [if_pos q] at a3 a4
      exact Or.inr ⟨k, by omega, by omega, a3, a4⟩
    · rw [if_neg q] at a3 a4
      by_cases r : k = p
      · rw [if_pos r] at a3 a4
        exact Or.inl (by rw [← a3, List.mem_singleton.1 a4])
      · rw [if_neg r] at a3 a4
        have := hx.len
        exact Or.inr ⟨k - 1, by omega, by omega, a3, a4⟩
  · rintro (e | ⟨k, a1, a2, a3, a4⟩)
    · injection e with e1 e2
      refine ⟨p, by rw [with_len K p s hp]; omega, by rw [with_len I p _ hpI]; omega, ?_, ?_⟩
      · rw [rowAt_with K p s hp, if_neg (by omega), if_pos rfl]; exact e1.symm
      · rw [numsAt_with I p _ hpI, if_neg (by omega), if_pos rfl, e2]; exact List.mem_singleton.2 rfl
    · by_cases q : k < p
      · exact ⟨k, by rw [with_len K p s hp]; omega, by rw [with_len I p _ hpI]; omega, by rw [rowAt_with K p s hp, if_pos q]; exact a3, by rw [numsAt_with I p _ hpI, if_pos q]; exact a4⟩
      · exact ⟨k + 1, by rw [with_len K p s hp]; omega, by rw [with_len I p _ hpI]; omega, by rw [rowAt_with K p s hp, if_neg (by omega), if_neg (by omega), Nat.add_sub_cancel]; exact a3, by rw [numsAt_with I p _ hpI, if_neg (by omega), if_neg (by omega), Nat.add_sub_cancel]; exact a4⟩
theorem numAt_less (l : List Int) (p i : Nat) (hp : p < l.length) : numAt (less13 l p) i = if i < p then numAt l i else numAt l (i + 1) := less_at l p i 0 hp
theorem numsAt_less (I : List (List Int)) (p i : Nat) (hp : p < I.length) : numsAt (less13 I p) i = if i < p then numsAt I i else numsAt I (i + 1) := less_at I p i [] hp
theorem rowAt_less (K : List (List UInt8)) (p i : Nat) (hp : p < K.length) : rowAt (less13 K p) i = if i < p then rowAt K i else rowAt K (i + 1) := less_at K p i [] hp
theorem rises_less {l : List Int} (h : Rises l) {p : Nat} (hp : p < l.length) : Rises (less13 l p) := by
  intro i hi
  rw [less_len l p hp] at hi
  rw [numAt_less l p i hp]
  refine ⟨?_, fun h0 => ?_⟩
  · split
    · exact (h i (by omega)).1
    · exact (h (i + 1) (by omega)).1
  · rw [numAt_less l p (i - 1) hp]
    rcases (by omega : i < p ∨ i = p ∨ p < i) with q | q | q
    · rw [if_pos (by omega), if_pos q]; exact rises_lt h (by omega) (by omega)
    · rw [if_pos (by omega), if_neg (by omega)]; exact rises_lt h (by omega) (by omega)
    · rw [if_neg (by omega), if_neg (by omega)]; exact rises_lt h (by omega) (by omega)
theorem mem_num {l : List Int} {n : Int} : n ∈ l ↔ ∃ j, j < l.length ∧ numAt l j = n := by
  constructor
  · intro h
    obtain ⟨j, hj, e⟩ := List.getElem_of_mem h
    exact ⟨j, hj, by rw [numAt_get l j hj]; exact e⟩
  · rintro ⟨j, hj, rfl⟩
    exact num_mem l j hj
theorem mem_less {l : List Int} (h : Rises l) {p : Nat} (hp : p < l.length) (m : Int) : m ∈ less13 l p ↔ m ∈ l ∧ m ≠ numAt l p := by
  rw [mem_num, mem_num, less_len l p hp]
  constructor
  · rintro ⟨j, hj, e⟩
    rw [numAt_less l p j hp] at e
    split at e
    · rename_i q
      refine ⟨⟨j, by omega, e⟩, fun e2 => ?_⟩
      have := rises_lt h q hp
      omega
    · rename_i q
      refine ⟨⟨j + 1, by omega, e⟩, fun e2 => ?_⟩
      have := rises_lt h (show p < j + 1 by omega) (by omega)
      omega
  · rintro ⟨⟨j, hj, e⟩, hne⟩
    rcases Nat.lt_trichotomy j p with q | q | q
    · exact ⟨j, by omega, by rw [numAt_less l p j hp, if_pos q]; exact e⟩
    · exact absurd (by rw [← q]; exact e.symm) hne
    · exact ⟨j - 1, by omega, by rw [numAt_less l p (j - 1) hp, if_neg (by omega), show j - 1 + 1 = j by omega]; exact e⟩
/-- A number less under a key that keeps others. -/
theorem drop_some {K : List (List UInt8)} {I : List (List Int)} (h : fineK K I) {i : Nat} (hi : i < K.length) {q : Nat} (hq : q < (numsAt I i).length) (h2 : 2 ≤ (numsAt I i).length) :
    fineK K (I.set i (less13 (numsAt I i) q)) ∧ pairsK K (I.set i (less13 (numsAt I i) q)) = dropP (pairsK K I) (rowAt K i, numAt (numsAt I i) q) := by
  have hx := fine_ix h
  have hiI : i < I.length := by have := hx.len; omega
  have hr := (fine_at h hiI).2
  have hf : fineK K (I.set i (less13 (numsAt I i) q)) := by
    refine fine_mk (fun j hj => row_checks h.1 hj) hx.keys (by rw [List.length_set]; exact hx.len) fun j hj => ?_
    rw [List.length_set] at hj
    rw [numsAt_set I i j _ hiI]
    split
    · refine ⟨fun e => ?_, rises_less hr hq⟩
      have := less_len (numsAt I i) q hq
      rw [e] at this
      simp at this
      omega
    · exact fine_at h hj
  refine ⟨hf, pairs_eq hf (srt_dropP hx.srt) fun s m => ?_⟩
  rw [mem_dropP, mem_pairsK, mem_pairsK]
  constructor
  · rintro ⟨k, a1, a2, a3, a4⟩
    rw [List.length_set] at a2
    rw [numsAt_set I i k _ hiI] at a4
    split at a4
    · rename_i e
      subst e
      obtain ⟨b1, b2⟩ := (mem_less hr hq m).1 a4
      refine ⟨⟨k, a1, a2, a3, b1⟩, fun e => ?_⟩
      injection e with _ e2
      exact b2 e2
    · rename_i e
      refine ⟨⟨k, a1, a2, a3, a4⟩, fun e2 => ?_⟩
      injection e2 with e3 _
      exact e (srtK_inj hx.keys a1 hi (a3.trans e3))
  · rintro ⟨⟨k, a1, a2, a3, a4⟩, hne⟩
    refine ⟨k, a1, by rw [List.length_set]; exact a2, a3, ?_⟩
    rw [numsAt_set I i k _ hiI]
    split
    · rename_i e
      subst e
      refine (mem_less hr hq m).2 ⟨a4, fun e2 => hne ?_⟩
      rw [← a3, e2]
    · exact a4
/-- The last number of a key: the key goes with it. -/
theorem drop_last {K : List (List UInt8)} {I : List (List Int)} (h : fineK K I) {i : Nat} (hi : i < K.length) {n : Int} (h1 : numsAt I i = [n]) :
    fineK (less13 K i) (less13 I i) ∧ pairsK (less13 K i) (less13 I i) = dropP (pairsK K I) (rowAt K i, n) := by
  have hx := fine_ix h
  have hiI : i < I.length := by have := hx.len; omega
  have hlK := less_len K i hi
  have hlI := less_len I i hiI
  have hf : fineK (less13 K i) (less13 I i) := by
    refine fine_mk (fun j hj => ?_) (srtK_of fun a b hab hb => ?_) (by have := hx.len; omega) fun j hj => ?_
    · rw [hlK] at hj
      rw [rowAt_less K i j hi]
      split
      · exact row_checks h.1 (by omega)
      · exact row_checks h.1 (by omega)
    · rw [hlK] at hb
      rw [rowAt_less K i a hi, rowAt_less K i b hi]
      split
      · split
        · exact srtK_lt hx.keys hab (by omega)
        · exact srtK_lt hx.keys (by omega) (by omega)
      · split
        · exact absurd hab (by omega)
        · exact srtK_lt hx.keys (by omega) (by omega)
    · rw [hlI] at hj
      rw [numsAt_less I i j hiI]
      split
      · exact fine_at h (by omega)
      · exact fine_at h (by omega)
  refine ⟨hf, pairs_eq hf (srt_dropP hx.srt) fun s m => ?_⟩
  rw [mem_dropP, mem_pairsK, mem_pairsK]
  constructor
  · rintro ⟨k, a1, a2, a3, a4⟩
    rw [hlK] at a1
    rw [hlI] at a2
    rw [rowAt_less K i k hi] at a3
    rw [numsAt_less I i k hiI] at a4
    by_cases q : k < i
    · rw [if_pos q] at a3 a4
      refine ⟨⟨k, by omega, by omega, a3, a4⟩, fun e => ?_⟩
      injection e with e1 _
      have := srtK_inj hx.keys (by omega) hi (a3.trans e1)
      omega
    · rw [if_neg q] at a3 a4
      refine ⟨⟨k + 1, by omega, by omega, a3, a4⟩, fun e => ?_⟩
      injection e with e1 _
      have := srtK_inj hx.keys (by omega) hi (a3.trans e1)
      omega
  · rintro ⟨⟨k, a1, a2, a3, a4⟩, hne⟩
    rcases Nat.lt_trichotomy k i with q | q | q
    · exact ⟨k, by omega, by omega, by rw [rowAt_less K i k hi, if_pos q]; exact a3, by rw [numsAt_less I i k hiI, if_pos q]; exact a4⟩
    · subst q
      rw [h1] at a4
      exact absurd (by rw [← a3, List.mem_singleton.1 a4]) hne
    · exact ⟨k - 1, by omega, by omega, by rw [rowAt_less K i (k - 1) hi, if_neg (by omega), show k - 1 + 1 = k by omega]; exact a3, by rw [numsAt_less I i (k - 1) hiI, if_neg (by omega), show k - 1 + 1 = k by omega]; exact a4⟩
/-- Where a text stands among keys, or would. -/
theorem cut_at (K : List (List UInt8)) (s : List UInt8) (hK : SrtK K) : ∃ p, p ≤ K.length ∧ (∀ j, j < p → Op.bytesLess (rowAt K j) s = true) ∧ ∀ j, p ≤ j → j < K.length → Op.bytesLess (rowAt K j) s = false := by
  have key : ∀ n, n ≤ K.length → ∃ p, p ≤ n ∧ (∀ j, j < p → Op.bytesLess (rowAt K j) s = true) ∧ (p < n → Op.bytesLess (rowAt K p) s = false) := by
    intro n
    induction n with
    | zero => intro _; exact ⟨0, Nat.le_refl _, fun j hj => absurd hj (by omega), fun h => absurd h (by omega)⟩
    | succ n ih =>
      intro hn
      obtain ⟨p, h1, h2, h3⟩ := ih (by omega)
      rcases Nat.lt_or_ge p n with q | q
      · exact ⟨p, by omega, h2, fun _ => h3 q⟩
      · obtain rfl : p = n := by omega
        cases hc : Op.bytesLess (rowAt K p) s with
        | true =>
          refine ⟨p + 1, Nat.le_refl _, fun j hj => ?_, fun h => absurd h (by omega)⟩
          rcases (by omega : j < p ∨ j = p) with r | r
          · exact h2 j r
          · rw [r]; exact hc
        | false => exact ⟨p, by omega, h2, fun _ => hc⟩
  obtain ⟨p, h1, h2, h3⟩ := key K.length (Nat.le_refl _)
  refine ⟨p, h1, h2, fun j hj hl => ?_⟩
  rcases Nat.lt_or_ge p j with q | q
  · cases hc : Op.bytesLess (rowAt K j) s with
    | false => rfl
    | true =>
      have := pl_trans _ _ _ (srtK_lt hK q hl) hc
      rw [h3 (by omega)] at this; cases this
  · obtain rfl : j = p := by omega
    exact h3 hl
/-- What layer 1's search says of a text among keys. -/
theorem key_or {K : List (List UInt8)} (h : rowOf (K.map tx) = 0) (s : List UInt8) :
    (∃ p, p < K.length ∧ rowAt K p = s ∧ findI (K.map tx) (tx s) = p ∧ findB (K.map tx) (tx s) = true) ∨
    (∃ p, p ≤ K.length ∧ (∀ j, j < p → Op.bytesLess (rowAt K j) s = true) ∧ (∀ j, p ≤ j → j < K.length → Op.bytesLess s (rowAt K j) = true) ∧ (∀ j, j < K.length → rowAt K j ≠ s) ∧ findI (K.map tx) (tx s) = p ∧ findB (K.map tx) (tx s) = false) := by
  have hK := srtK_row h
  obtain ⟨p, h1, h2, h3⟩ := cut_at K s hK
  have hlo : ∀ j, j < p → Op.bytesLess (textAt (K.map tx) j).toList (tx s).toList = true := fun j hj => by rw [textAt_tx (by omega), tx_less]; exact h2 j hj
  have hhi : ∀ j, p ≤ j → j < (K.map tx).length → Op.bytesLess (textAt (K.map tx) j).toList (tx s).toList = false := fun j hj hl => by
    have hl' : j < K.length := by simpa using hl
    rw [textAt_tx hl', tx_less]; exact h3 j hj hl'
  obtain ⟨e1, e2⟩ := search_says (K.map tx) (tx s) h p (by simpa using h1) hlo hhi
  by_cases hp : p < K.length ∧ rowAt K p = s
  · refine Or.inl ⟨p, hp.1, hp.2, e1, ?_⟩
    rw [e2, decide_eq_true (by simpa using hp.1), textAt_tx hp.1, tx_beq, hp.2]
    simp
  · have hne : ∀ j, j < K.length → rowAt K j ≠ s := fun j hj e => by
      rcases Nat.lt_trichotomy j p with q | q | q
      · have := h2 j q; rw [e, pl_irrefl] at this; cases this
      · subst q; exact hp ⟨hj, e⟩
      · have := srtK_lt hK q hj
        rw [e, h3 p (Nat.le_refl _) (by omega)] at this; cases this
    refine Or.inr ⟨p, h1, h2, fun j hj hl => ?_, hne, e1, ?_⟩
    · rcases pl_tri _ _ (h3 j hj hl) with e | e
      · exact absurd e (hne j hl)
      · exact e
    · rw [e2]
      rcases Nat.lt_or_ge p K.length with q | q
      · rw [textAt_tx q, tx_beq, beq_eq_false_iff_ne.2 (hne p q), Bool.and_false]
      · rw [decide_eq_false (by simpa using q), Bool.false_and]
end Go.Proofs.Ytnbmccfaomhppaa
namespace Go.Proofs.Ytnbmccfaomhppaa
open Go.RowKit

/-- A key goes, with all its numbers. -/
theorem key_less {K : List (List UInt8)} {I : List (List Int)} (h : fineK K I) {i : Nat} (hi : i < K.length) :
    fineK (less13 K i) (less13 I i) ∧ ∀ t m, (t, m) ∈ pairsK (less13 K i) (less13 I i) ↔ (t, m) ∈ pairsK K I ∧ t ≠ rowAt K i := by
  have hx := fine_ix h
  have hiI : i < I.length := by have := hx.len; omega
  have hlK := less_len K i hi
  have hlI := less_len I i hiI
  have hf : fineK (less13 K i) (less13 I i) := by
    refine fine_mk (fun j hj => ?_) (srtK_of fun a b hab hb => ?_) (by have := hx.len; omega) fun j hj => ?_
    · rw [hlK] at hj
      rw [rowAt_less K i j hi]
      split
      · exact row_checks h.1 (by omega)
      · exact row_checks h.1 (by omega)
    · rw [hlK] at hb
      rw [rowAt_less K i a hi, rowAt_less K i b hi]
      split
      · split
        · exact srtK_lt hx.keys hab (by omega)
        · exact srtK_lt hx.keys (by omega) (by omega)
      · split
        · exact absurd hab (by omega)
        · exact srtK_lt hx.keys (by omega) (by omega)
    · rw [hlI] at hj
      rw [numsAt_less I i j hiI]
      split
      · exact fine_at h (by omega)
      · exact fine_at h (by omega)
  refine ⟨hf, fun t m => ?_⟩
  rw [mem_pairsK, mem_pairsK]
  constructor
  · rintro ⟨k, a1, a2, a3, a4⟩
    rw [hlK] at a1
    rw [hlI] at a2
    rw [rowAt_less K i k hi] at a3
    rw [numsAt_less I i k hiI] at a4
    by_cases q : k < i
    · rw [if_pos q] at a3 a4
      refine ⟨⟨k, by omega, by omega, a3, a4⟩, fun e => ?_⟩
      have := srtK_inj hx.keys (by omega) hi (a3.trans e)
      omega
    · rw [if_neg q] at a3 a4
      refine ⟨⟨k + 1, by omega, by omega, a3, a4⟩, fun e => ?_⟩
      have := srtK_inj hx.keys (by omega) hi (a3.trans e)
      omega
  · rintro ⟨⟨k, a1, a2, a3, a4⟩, hne⟩
    rcases Nat.lt_trichotomy k i with q | q | q
    · exact ⟨k, by omega, by omega, by rw [rowAt_less K i k hi, if_pos q]; exact a3, by rw [numsAt_less I i k hiI, if_pos q]; exact a4⟩
    · subst q
      exact absurd a3.symm hne
    · exact ⟨k - 1, by omega, by omega, by rw [rowAt_less K i (k - 1) hi, if_neg (by omega), show k - 1 + 1 = k by omega]; exact a3, by rw [numsAt_less I i (k - 1) hiI, if_neg (by omega), show k - 1 + 1 = k by omega]; exact a4⟩
/-- A new key, with its numbers. -/
theorem key_with {K : List (List UInt8)} {I : List (List Int)} (h : fineK K I) {p : Nat} (hp : p ≤ K.length) {s : List UInt8} (hs : checkOf s = 0) (hlo : ∀ j, j < p → Op.bytesLess (rowAt K j) s = true) (hhi : ∀ j, p ≤ j → j < K.length → Op.bytesLess s (rowAt K j) = true) {l : List Int} (hl : l ≠ []) (hr : Rises l) :
    fineK (with13 K p s) (with13 I p l) ∧ ∀ t m, (t, m) ∈ pairsK (with13 K p s) (with13 I p l) ↔ (t = s ∧ m ∈ l) ∨ (t, m) ∈ pairsK K I := by
  have hx := fine_ix h
  have hpI : p ≤ I.length := by have := hx.len; omega
  have hf : fineK (with13 K p s) (with13 I p l) := by
    refine fine_mk (fun j hj => ?_) (srtK_of fun i j hij hj => ?_) (by rw [with_len K p s hp, with_len I p _ hpI, hx.len]) fun j hj => ?_
    · rw [with_len K p s hp] at hj
      rw [rowAt_with K p s hp]
      split
      · exact row_checks h.1 (by omega)
      · split
        · exact hs
        · exact row_checks h.1 (by omega)
    · rw [with_len K p s hp] at hj
      rw [rowAt_with K p s hp, rowAt_with K p s hp]
      rcases Nat.lt_trichotomy j p with q | q | q
      · rw [if_pos (by omega), if_pos q]; exact srtK_lt hx.keys hij (by omega)
      · rw [if_pos (by omega), if_neg (by omega), if_pos q]; exact hlo i (by omega)
      · rw [if_neg (by omega : ¬ j < p), if_neg (by omega : ¬ j = p)]
        rcases Nat.lt_trichotomy i p with r | r | r
        · rw [if_pos r]; exact srtK_lt hx.keys (by omega) (by omega)
        · rw [if_neg (by omega), if_pos r]; exact hhi (j - 1) (by omega) (by omega)
        · rw [if_neg (by omega), if_neg (by omega)]; exact srtK_lt hx.keys (by omega) (by omega)
    · rw [with_len I p _ hpI] at hj
      rw [numsAt_with I p _ hpI]
      split
      · exact fine_at h (by omega)
      · split
        · exact ⟨hl, hr⟩
        · exact fine_at h (by omega)
  refine ⟨hf, fun t m => ?_⟩
  rw [mem_pairsK, mem_pairsK]
  constructor
  · rintro ⟨k, a1, a2, a3, a4⟩
    rw [with_len K p s hp] at a1
    rw [rowAt_with K p s hp] at a3
    rw [numsAt_with I p _ hpI] at a4
    by_cases q : k < p
    · rw [if_pos q] at a3 a4
      exact Or.inr ⟨k, by omega, by omega, a3, a4⟩
    · rw [if_neg q] at a3 a4
      by_cases r : k = p
      · rw [if_pos r] at a3 a4
        exact Or.inl ⟨a3.symm, a4⟩
      · rw [if_neg r] at a3 a4
        have := hx.len
        exact Or.inr ⟨k - 1, by omega, by omega, a3, a4⟩
  · rintro (⟨e1, e2⟩ | ⟨k, a1, a2, a3, a4⟩)
    · refine ⟨p, by rw [with_len K p s hp]; omega, by rw [with_len I p _ hpI]; omega, ?_, ?_⟩
      · rw [rowAt_with K p s hp, if_neg (by omega), if_pos rfl]; exact e1.symm
      · rw [numsAt_with I p _ hpI, if_neg (by omega), if_pos rfl]; exact e2
    · by_cases q : k < p
      · exact ⟨k, by rw [with_len K p s hp]; omega, by rw [with_len I p _ hpI]; omega, by rw [rowAt_with K p s hp, if_pos q]; exact a3, by rw [numsAt_with I p _ hpI, if_pos q]; exact a4⟩
      · exact ⟨k + 1, by rw [with_len K p s hp]; omega, by rw [with_len I p _ hpI]; omega, by rw [rowAt_with K p s hp, if_neg (by omega), if_neg (by omega), Nat.add_sub_cancel]; exact a3, by rw [numsAt_with I p _ hpI, if_neg (by omega), if_neg (by omega), Nat.add_sub_cancel]; exact a4⟩
/-- An index in which a key stands under just these numbers, and all others as they stood. -/
structure PutTo (K : List (List UInt8)) (I : List (List Int)) (s : List UInt8) (l : List Int) (K' : List (List UInt8)) (I' : List (List Int)) : Prop where
  fine : fineK K' I'
  mem : ∀ t m, (t, m) ∈ pairsK K' I' ↔ (t = s ∧ m ∈ l) ∨ ((t, m) ∈ pairsK K I ∧ t ≠ s)
/-- The key is there; it goes. -/
theorem put_go {K : List (List UInt8)} {I : List (List Int)} (h : fineK K I) {i : Nat} (hi : i < K.length) : PutTo K I (rowAt K i) [] (less13 K i) (less13 I i) := by
  obtain ⟨h1, h2⟩ := key_less h hi
  exact ⟨h1, fun t m => by rw [h2]; simp⟩
/-- The key is not there, and no number is. -/
theorem put_none {K : List (List UInt8)} {I : List (List Int)} (h : fineK K I) {s : List UInt8} (hs : ∀ j, j < K.length → rowAt K j ≠ s) : PutTo K I s [] K I :=
  ⟨h, fun t m => by
    constructor
    · intro q
      refine Or.inr ⟨q, fun e => ?_⟩
      obtain ⟨k, a1, _, a3, _⟩ := mem_pairsK.1 q
      exact hs k a1 (a3.trans e)
    · rintro (⟨_, q⟩ | ⟨q, _⟩)
      · cases q
      · exact q⟩
/-- The key is not there; it comes. -/
theorem put_new {K : List (List UInt8)} {I : List (List Int)} (h : fineK K I) {p : Nat} (hp : p ≤ K.length) {s : List UInt8} (hs : checkOf s = 0) (hlo : ∀ j, j < p → Op.bytesLess (rowAt K j) s = true) (hhi : ∀ j, p ≤ j → j < K.length → Op.bytesLess s (rowAt K j) = true) {l : List Int} (hl : l ≠ []) (hr : Rises l) : PutTo K I s l (with13 K p s) (with13 I p l) := by
  obtain ⟨h1, h2⟩ := key_with h hp hs hlo hhi hl hr
  have hno : ∀ k, k < K.length → rowAt K k ≠ s := fun k hk e => by
    rcases Nat.lt_or_ge k p with q | q
    · have := hlo k q; rw [e, pl_irrefl] at this; cases this
    · have := hhi k q hk; rw [e, pl_irrefl] at this; cases this
  refine ⟨h1, fun t m => ?_⟩
  rw [h2]
  constructor
  · rintro (q | q)
    · exact Or.inl q
    · refine Or.inr ⟨q, fun e => ?_⟩
      obtain ⟨k, a1, _, a3, _⟩ := mem_pairsK.1 q
      exact hno k a1 (a3.trans e)
  · rintro (q | ⟨q, _⟩)
    · exact Or.inl q
    · exact Or.inr q
/-- The key is there; it stands under other numbers. -/
theorem put_set {K : List (List UInt8)} {I : List (List Int)} (h : fineK K I) {i : Nat} (hi : i < K.length) (hs : checkOf (rowAt K i) = 0) {l : List Int} (hl : l ≠ []) (hr : Rises l) : PutTo K I (rowAt K i) l (with13 (less13 K i) i (rowAt K i)) (with13 (less13 I i) i l) := by
  have hx := fine_ix h
  obtain ⟨h1, h2⟩ := key_less h hi
  have hlK := less_len K i hi
  obtain ⟨h3, h4⟩ := key_with h1 (p := i) (by omega) hs (fun j hj => by rw [rowAt_less K i j hi, if_pos hj]; exact srtK_lt hx.keys hj hi) (fun j hj hl => by rw [rowAt_less K i j hi, if_neg (by omega)]; exact srtK_lt hx.keys (by omega) (by omega)) hl hr
  exact ⟨h3, fun t m => by rw [h4, h2]⟩
/-- As many keys as pairs, at most. -/
theorem keys_sum {I : List (List Int)} (h : ∀ j, j < I.length → numsAt I j ≠ []) : I.length ≤ sumK I := by
  induction I with
  | nil => exact Nat.le_refl _
  | cons l I ih =>
    have h0 : l ≠ [] := h 0 (by simp)
    have h1 := ih fun j hj => h (j + 1) (by simpa using hj)
    have h2 : 0 < l.length := List.length_pos_iff.2 h0
    unfold sumK at h1 ⊢
    rw [List.map_cons, List.sum_cons, List.length_cons]
    omega
/-- What was put so is an index of just such pairs. -/
theorem PutTo.pairs {K : List (List UInt8)} {I : List (List Int)} {s : List UInt8} {l : List Int} {K' : List (List UInt8)} {I' : List (List Int)} (h : PutTo K I s l K' I') {P : List Pr} (hP : Srt P) (hm : ∀ t m, (t, m) ∈ P ↔ (t = s ∧ m ∈ l) ∨ ((t, m) ∈ pairsK K I ∧ t ≠ s)) (hn : P.length ≤ 2000) :
    pairsO K' I' = true ∧ pairsV K' I' = P ∧ K'.length ≤ 5000 ∧ I'.length ≤ 5000 ∧ sumK I' ≤ 600000 := by
  have he : pairsK K' I' = P := pairs_eq h.fine hP fun t m => by rw [h.mem, hm]
  have hx := fine_ix h.fine
  have hs := len_pairsK (K := K') (I := I') hx.len
  rw [he] at hs
  obtain ⟨q1, q2⟩ := pairs_fine h.fine
  have hk := keys_sum fun j hj => (fine_at h.fine hj).1
  have := hx.len
  exact ⟨by rw [q2]; exact decide_eq_true (by omega), by rw [q1, he], by omega, by omega, by omega⟩
theorem srt_map {s : List UInt8} {l : List Int} (h : Rises l) : Srt (l.map fun n => (s, n)) := by
  unfold Srt
  rw [List.pairwise_map]
  refine (rises_pair h).imp fun q => ?_
  rw [prLt_iff]
  exact Or.inr ⟨rfl, q⟩
/-- Rising numbers with the same elements are the same. -/
theorem rises_ext {l m : List Int} (hl : Rises l) (hm : Rises m) (h : ∀ n, n ∈ l ↔ n ∈ m) : l = m := by
  have := srt_ext (srt_map (s := []) hl) (srt_map (s := []) hm) (fun p => by
    rw [List.mem_map, List.mem_map]
    constructor
    · rintro ⟨n, hn, e⟩; exact ⟨n, (h n).1 hn, e⟩
    · rintro ⟨n, hn, e⟩; exact ⟨n, (h n).2 hn, e⟩)
  have h2 := congrArg (List.map fun p : Pr => p.2) this
  rw [List.map_map, List.map_map] at h2
  have e : ((fun p : Pr => p.2) ∘ fun n : Int => (([] : List UInt8), n)) = id := rfl
  rw [e, List.map_id, List.map_id] at h2
  exact h2
theorem of_pairsK : ∀ {K : List (List UInt8)} {I : List (List Int)}, SrtK K → ∀ s : List UInt8, (∃ i, i < K.length ∧ i < I.length ∧ rowAt K i = s ∧ ofP (pairsK K I) s = numsAt I i) ∨ ofP (pairsK K I) s = []
  | [], I, _, s => Or.inr (by simp [pairsK, ofP])
  | k :: K, [], _, s => Or.inr (by simp [pairsK, ofP])
  | k :: K, l :: I, h, s => by
    obtain ⟨h1, h2⟩ := List.pairwise_cons.1 h
    have hap : ofP (pairsK (k :: K) (l :: I)) s = ofP (l.map fun n => (k, n)) s ++ ofP (pairsK K I) s := by
      show ofP ((l.map fun n => (k, n)) ++ pairsK K I) s = _
      unfold ofP
      rw [List.filter_append, List.map_append]
    by_cases e : k = s
    · subst e
      have q1 : ofP (l.map fun n => (k, n)) k = l := by
        unfold ofP
        rw [List.filter_eq_self.2 (by simp), List.map_map]
        have e : ((fun p : Pr => p.2) ∘ fun n : Int => (k, n)) = id := rfl
        rw [e, List.map_id]
      have q2 : ofP (pairsK K I) k = [] := by
        refine List.eq_nil_iff_forall_not_mem.2 fun n hn => ?_
        rw [mem_ofP, mem_pairsK] at hn
        obtain ⟨j, a1, _, a3, _⟩ := hn
        have := h1 k (by
          have := rowAt_get K j a1
          rw [a3] at this
          exact List.mem_of_getElem? this)
        rw [pl_irrefl] at this; cases this
      refine Or.inl ⟨0, by simp, by simp, rfl, ?_⟩
      rw [hap, q1, q2, List.append_nil]
      rfl
    · have q1 : ofP (l.map fun n => (k, n)) s = [] := by
        refine List.eq_nil_iff_forall_not_mem.2 fun n hn => ?_
        rw [mem_ofP, List.mem_map] at hn
        obtain ⟨m, _, e2⟩ := hn
        injection e2 with e3 _
        exact e e3
      rw [hap, q1, List.nil_append]
      rcases of_pairsK (I := I) h2 s with ⟨i, a1, a2, a3, a4⟩ | a
      · exact Or.inl ⟨i + 1, by simpa using a1, by simpa using a2, a3, a4⟩
      · exact Or.inr a
theorem rises_nil : Rises [] := fun i hi => absurd hi (by simp)
theorem rises_of {K : List (List UInt8)} {I : List (List Int)} (h : fineK K I) (s : List UInt8) : Rises (ofP (pairsK K I) s) := by
  rcases of_pairsK (I := I) (fine_ix h).keys s with ⟨i, _, a2, _, a4⟩ | a
  · rw [a4]; exact (fine_at h a2).2
  · rw [a]; exact rises_nil
/-- A number more. -/
theorem of_ins {m : List Pr} {s : List UInt8} {n : Int} (hm : Srt m) (hr : Rises (ofP m s)) (h1 : 1 ≤ n ∧ n ≤ 999999) (hn : (s, n) ∉ m) :
    ofP (insP m (s, n)) s = with13 (ofP m s) (lowTo (ofP m s) n (ofP m s).length) n ∧ Rises (ofP (insP m (s, n)) s) ∧ Srt (insP m (s, n)) := by
  have hs := srt_insP hm hn
  have hw := rises_with hr h1 fun j hj e => hn (mem_ofP.1 (by rw [← e]; exact num_mem _ j hj))
  have hq : Rises (ofP (insP m (s, n)) s) := by
    intro i hi
    have hp : (ofP (insP m (s, n)) s).Pairwise fun a b => a < b := by
      unfold ofP
      rw [List.pairwise_map]
      refine (List.Pairwise.filter _ hs).imp_of_mem fun {a b} ha hb q => ?_
      have e1 := (List.mem_filter.1 ha).2
      have e2 := (List.mem_filter.1 hb).2
      rw [beq_iff_eq] at e1 e2
      rcases prLt_iff.1 q with q | q
      · rw [e1, e2, pl_irrefl] at q; cases q
      · exact q.2
    refine ⟨?_, fun h0 => ?_⟩
    · have := num_mem _ i hi
      rw [mem_ofP, mem_insP] at this
      rcases this with e | e
      · injection e with _ e2
        rw [e2]; exact h1
      · obtain ⟨j, hj, e3⟩ := mem_num.1 (mem_ofP.2 e)
        rw [← e3]
        exact (hr j hj).1
    · have := List.pairwise_iff_getElem.1 hp (i - 1) i (by omega) hi (by omega)
      rw [numAt_get _ i hi, numAt_get _ (i - 1) (by omega)]
      exact this
  refine ⟨rises_ext hq hw fun k => ?_, hq, hs⟩
  rw [mem_ofP, mem_insP, mem_with, mem_ofP]
  constructor
  · rintro (e | e)
    · injection e with _ e2; exact Or.inl e2
    · exact Or.inr e
  · rintro (rfl | e)
    · exact Or.inl rfl
    · exact Or.inr e
/-- What the search tells of rising numbers. -/
theorem find_rises {l : List Int} (h : Rises l) (n : Int) : (n ∈ l ∧ findB13 l n = true ∧ findN l n < l.length ∧ numAt l (findN l n) = n) ∨ (n ∉ l ∧ findB13 l n = false ∧ findN l n = lowTo l n l.length) := by
  cases hh : hits l n with
  | none =>
    refine Or.inr ⟨fun hm => ?_, by unfold findB13; rw [hh]; rfl, ?_⟩
    · unfold hits at hh
      rw [List.findIdx?_eq_none_iff] at hh
      have := hh n hm
      simp at this
    · unfold findN
      rw [hh]
      simp only []
      rw [if_pos ((rising_iff l).2 h)]
  | some i =>
    have hh2 := hh
    unfold hits at hh2
    rw [List.findIdx?_eq_some_iff_getElem] at hh2
    obtain ⟨hi, e, _⟩ := hh2
    have e2 : l[i] = n := by simpa using e
    have e3 : findN l n = i := by unfold findN; rw [hh]
    exact Or.inl ⟨by rw [← e2]; exact List.getElem_mem hi, by unfold findB13; rw [hh]; rfl, by rw [e3]; exact hi, by rw [e3, numAt_get l i hi]; exact e2⟩
end Go.Proofs.Ytnbmccfaomhppaa
