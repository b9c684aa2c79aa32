/- Pairs of a text and a number in their order, in plain words: one more, one less, those of a text, those of a number; and indexes as their pairs. -/
import Derived.Test.YtkefbgjbgblalaaFind13
namespace Go.Proofs.Ytkefbgjbgblalaa
open Go.RowKit

abbrev Pr := List UInt8 × Int
theorem pl_irrefl (x : List UInt8) : Op.bytesLess x x = false := by
  induction x with
  | nil => rfl
  | cons a x ih => simp [Op.bytesLess, ih, UInt8.lt_irrefl]
theorem pl_trans : ∀ (x y z : List UInt8), Op.bytesLess x y = true → Op.bytesLess y z = true → Op.bytesLess x z = true
  | _, [], _, h, _ => by unfold Op.bytesLess at h; cases h
  | _, _ :: _, [], _, h => by unfold Op.bytesLess at h; cases h
  | [], _ :: _, _ :: _, _, _ => rfl
  | a :: x, b :: y, c :: z, h1, h2 => by
    simp only [Op.bytesLess, Bool.or_eq_true, Bool.and_eq_true, decide_eq_true_eq, beq_iff_eq] at h1 h2 ⊢
    rcases h1 with h1 | ⟨rfl, h1⟩
    · rcases h2 with h2 | ⟨rfl, h2⟩
      · exact Or.inl (UInt8.lt_trans h1 h2)
      · exact Or.inl h1
    · rcases h2 with h2 | ⟨rfl, h2⟩
      · exact Or.inl h2
      · exact Or.inr ⟨rfl, pl_trans x y z h1 h2⟩
theorem pl_tri : ∀ (x y : List UInt8), Op.bytesLess x y = false → x = y ∨ Op.bytesLess y x = true
  | [], [], _ => Or.inl rfl
  | [], _ :: _, h => by simp [Op.bytesLess] at h
  | _ :: _, [], _ => Or.inr rfl
  | a :: x, b :: y, h => by
    simp only [Op.bytesLess, Bool.or_eq_false_iff, Bool.and_eq_false_iff, decide_eq_false_iff_not, beq_eq_false_iff_ne] at h
    obtain ⟨h1, h2⟩ := h
    by_cases e : a = b
    · subst e
      rcases h2 with h2 | h2
      · exact absurd rfl h2
      · rcases pl_tri x y h2 with h3 | h3
        · exact Or.inl (by rw [h3])
        · exact Or.inr (by simp [Op.bytesLess, h3])
    · refine Or.inr ?_
      have : b < a := by
        rw [UInt8.lt_iff_toNat_lt] at h1 ⊢
        have : a.toNat ≠ b.toNat := fun h => e (UInt8.toNat_inj.1 h)
        omega
      simp [Op.bytesLess, this]
theorem pl_asymm {x y : List UInt8} (h : Op.bytesLess x y = true) : Op.bytesLess y x = false := by
  cases hq : Op.bytesLess y x with
  | false => rfl
  | true => have := pl_trans _ _ _ h hq; rw [pl_irrefl] at this; cases this

/-- The order of pairs. -/
def prLt (p q : Pr) : Bool := Op.bytesLess p.1 q.1 || (p.1 == q.1 && decide (p.2 < q.2))
theorem prLt_iff {p q : Pr} : prLt p q = true ↔ Op.bytesLess p.1 q.1 = true ∨ (p.1 = q.1 ∧ p.2 < q.2) := by
  unfold prLt
  rw [Bool.or_eq_true, Bool.and_eq_true, beq_iff_eq, decide_eq_true_iff]
theorem prLt_irrefl (p : Pr) : ¬ prLt p p = true := by
  rw [prLt_iff, pl_irrefl]
  rintro (h | ⟨_, h⟩)
  · cases h
  · omega
theorem prLt_trans {p q r : Pr} (h1 : prLt p q = true) (h2 : prLt q r = true) : prLt p r = true := by
  rw [prLt_iff] at h1 h2 ⊢
  rcases h1 with h1 | ⟨e1, h1⟩
  · rcases h2 with h2 | ⟨e2, h2⟩
    · exact Or.inl (pl_trans _ _ _ h1 h2)
    · exact Or.inl (e2 ▸ h1)
  · rcases h2 with h2 | ⟨e2, h2⟩
    · exact Or.inl (e1 ▸ h2)
    · exact Or.inr ⟨e1.trans e2, by omega⟩
theorem prLt_tri {p q : Pr} (h : ¬ prLt p q = true) : p = q ∨ prLt q p = true := by
  rw [prLt_iff] at h
  have h1 : Op.bytesLess p.1 q.1 = false := by
    cases hc : Op.bytesLess p.1 q.1 with
    | false => rfl
    | true => exact absurd (Or.inl hc) h
  rcases pl_tri _ _ h1 with e | h2
  · rcases Int.lt_trichotomy p.2 q.2 with h3 | h3 | h3
    · exact absurd (Or.inr ⟨e, h3⟩) h
    · exact Or.inl (Prod.ext e h3)
    · exact Or.inr (prLt_iff.2 (Or.inr ⟨e.symm, h3⟩))
  · exact Or.inr (prLt_iff.2 (Or.inl h2))
def Srt (l : List Pr) : Prop := l.Pairwise fun p q => prLt p q = true
/-- What is in order is told by what is in it. -/
theorem srt_ext : ∀ {l m : List Pr}, Srt l → Srt m → (∀ p, p ∈ l ↔ p ∈ m) → l = m
  | [], [], _, _, _ => rfl
  | [], q :: m, _, _, h => by have := (h q).2 (List.mem_cons_self ..); cases this
  | p :: l, [], _, _, h => by have := (h p).1 (List.mem_cons_self ..); cases this
  | p :: l, q :: m, hl, hm, h => by
    obtain ⟨hl1, hl2⟩ := List.pairwise_cons.1 hl
    obtain ⟨hm1, hm2⟩ := List.pairwise_cons.1 hm
    have e : p = q := by
      rcases List.mem_cons.1 ((h p).1 (List.mem_cons_self ..)) with e | h1
      · exact e
      · rcases List.mem_cons.1 ((h q).2 (List.mem_cons_self ..)) with e | h2
        · exact e.symm
        · exact absurd (prLt_trans (hm1 p h1) (hl1 q h2)) (prLt_irrefl q)
    subst e
    have hsub : ∀ r, r ∈ l ↔ r ∈ m := fun r => by
      constructor
      · intro hr
        rcases List.mem_cons.1 ((h r).1 (List.mem_cons_of_mem _ hr)) with e | h1
        · subst e; exact absurd (hl1 r hr) (prLt_irrefl r)
        · exact h1
      · intro hr
        rcases List.mem_cons.1 ((h r).2 (List.mem_cons_of_mem _ hr)) with e | h1
        · subst e; exact absurd (hm1 r hr) (prLt_irrefl r)
        · exact h1
    rw [srt_ext hl2 hm2 hsub]
/-- One more, in its order. -/
def insP : List Pr → Pr → List Pr
  | [], p => [p]
  | q :: l, p => if prLt q p = true then q :: insP l p else p :: q :: l
theorem mem_insP {l : List Pr} {p r : Pr} : r ∈ insP l p ↔ r = p ∨ r ∈ l := by
  induction l with
  | nil => simp [insP]
  | cons q l ih =>
    unfold insP
    split
    · rw [List.mem_cons, ih, List.mem_cons]
      constructor
      · rintro (h | h | h)
        · exact Or.inr (Or.inl h)
        · exact Or.inl h
        · exact Or.inr (Or.inr h)
      · rintro (h | h | h)
        · exact Or.inr (Or.inl h)
        · exact Or.inl h
        · exact Or.inr (Or.inr h)
    · rw [List.mem_cons, List.mem_cons]
theorem len_insP (l : List Pr) (p : Pr) : (insP l p).length = l.length + 1 := by
  induction l with
  | nil => rfl
  | cons q l ih =>
    unfold insP
    split
    · rw [List.length_cons, ih, List.length_cons]
    · rfl
theorem srt_insP {l : List Pr} {p : Pr} (hl : Srt l) (hp : p ∉ l) : Srt (insP l p) := by
  induction l with
  | nil => exact List.pairwise_singleton _ _
  | cons q l ih =>
    obtain ⟨h1, h2⟩ := List.pairwise_cons.1 hl
    unfold insP
    split
    · rename_i hq
      refine List.pairwise_cons.2 ⟨fun r hr => ?_, ih h2 fun h => hp (List.mem_cons_of_mem _ h)⟩
      rcases mem_insP.1 hr with e | h
      · rw [e]; exact hq
      · exact h1 r h
    · rename_i hq
      rcases prLt_tri hq with e | h
      · exact absurd (by rw [e]; exact List.mem_cons_self ..) hp
      · refine List.pairwise_cons.2 ⟨fun r hr => ?_, hl⟩
        rcases List.mem_cons.1 hr with e | h3
        · rw [e]; exact h
        · exact prLt_trans h (h1 r h3)
/-- As the document puts it in: behind those that are less. -/
theorem insP_cut (l : List Pr) (p : Pr) (i : Nat) (hi : i ≤ l.length) (h1 : ∀ j (h : j < l.length), j < i → prLt l[j] p = true) (h2 : ∀ h : i < l.length, ¬ prLt l[i] p = true) : insP l p = l.take i ++ p :: l.drop i := by
  induction l generalizing i with
  | nil => simp [insP]
  | cons q l ih =>
    cases i with
    | zero =>
      have := h2 (by simp)
      unfold insP
      rw [if_neg (by simpa using this)]
      simp
    | succ i =>
      have h0 := h1 0 (by simp) (by omega)
      unfold insP
      rw [if_pos (by simpa using h0), ih i (by simpa using hi) (fun j h hj => h1 (j + 1) (by simpa using h) (by omega)) (fun h => h2 (by simpa using h))]
      simp
/-- One less. -/
def dropP (l : List Pr) (p : Pr) : List Pr := l.filter fun q => !(q == p)
theorem mem_dropP {l : List Pr} {p r : Pr} : r ∈ dropP l p ↔ r ∈ l ∧ r ≠ p := by
  unfold dropP
  rw [List.mem_filter]
  simp
theorem srt_dropP {l : List Pr} {p : Pr} (hl : Srt l) : Srt (dropP l p) := List.Pairwise.sublist (List.filter_sublist ..) hl
theorem len_dropP {l : List Pr} {p : Pr} : (dropP l p).length = l.length ↔ p ∉ l := by
  unfold dropP
  rw [List.length_filter_eq_length_iff]
  constructor
  · intro h hp
    have := h p hp
    simp at this
  · intro h a ha
    simp
    intro e
    exact h (e ▸ ha)
theorem drop_ins {l : List Pr} {p : Pr} (hl : Srt l) (hp : p ∉ l) : dropP (insP l p) p = l := by
  refine srt_ext (srt_dropP (srt_insP hl hp)) hl fun r => ?_
  rw [mem_dropP, mem_insP]
  constructor
  · rintro ⟨h | h, h2⟩
    · exact absurd h h2
    · exact h
  · intro h
    exact ⟨Or.inr h, fun e => hp (e ▸ h)⟩
/-- The numbers of a text, the texts of a number. -/
def ofP (l : List Pr) (s : List UInt8) : List Int := (l.filter fun p => p.1 == s).map fun p => p.2
def underP (l : List Pr) (n : Int) : List (List UInt8) := (l.filter fun p => p.2 == n).map fun p => p.1
theorem mem_ofP {l : List Pr} {s : List UInt8} {n : Int} : n ∈ ofP l s ↔ (s, n) ∈ l := by
  unfold ofP
  rw [List.mem_map]
  constructor
  · rintro ⟨⟨a, b⟩, h, rfl⟩
    rw [List.mem_filter] at h
    have := h.2
    simp at this
    subst this
    exact h.1
  · intro h
    exact ⟨(s, n), by rw [List.mem_filter]; exact ⟨h, by simp⟩, rfl⟩
theorem mem_underP {l : List Pr} {s : List UInt8} {n : Int} : s ∈ underP l n ↔ (s, n) ∈ l := by
  unfold underP
  rw [List.mem_map]
  constructor
  · rintro ⟨⟨a, b⟩, h, rfl⟩
    rw [List.mem_filter] at h
    have := h.2
    simp at this
    subst this
    exact h.1
  · intro h
    exact ⟨(s, n), by rw [List.mem_filter]; exact ⟨h, by simp⟩, rfl⟩
/-- Numbers added under a text, one by one: what is wrong with the first that is, and what comes of them. -/
def addE14 (l : List Pr) (s : List UInt8) (n : Int) : Int := if n < 1 ∨ 999999 < n then 31 else if (s, n) ∈ l then 32 else if 2000 ≤ l.length then 37 else 0
def addsE (s : List UInt8) : List Pr → List Int → Int
  | _, [] => 0
  | l, n :: ns => if addE14 l s n ≠ 0 then addE14 l s n else addsE s (insP l (s, n)) ns
def addsL (s : List UInt8) : List Pr → List Int → List Pr
  | l, [] => l
  | l, n :: ns => addsL s (insP l (s, n)) ns
theorem addE_iff {l : List Pr} {s : List UInt8} {n : Int} : addE14 l s n = 0 ↔ (1 ≤ n ∧ n ≤ 999999) ∧ (s, n) ∉ l ∧ l.length < 2000 := by
  unfold addE14
  split
  · constructor
    · intro h; cases h
    · intro h; omega
  · split
    · rename_i h1 h2
      constructor
      · intro h; cases h
      · intro h; exact absurd h2 h.2.1
    · rename_i h1 h2
      split
      · constructor
        · intro h; cases h
        · intro h; omega
      · rename_i h3
        exact ⟨fun _ => ⟨by omega, h2, by omega⟩, fun _ => rfl⟩
theorem adds_iff {s : List UInt8} {ns : List Int} : ∀ {l : List Pr}, addsE s l ns = 0 ↔ (∀ n ∈ ns, (1 ≤ n ∧ n ≤ 999999) ∧ (s, n) ∉ l) ∧ ns.Nodup ∧ (ns ≠ [] → l.length + ns.length ≤ 2000) := by
  induction ns with
  | nil => intro l; simp [addsE]
  | cons n ns ih =>
    intro l
    unfold addsE
    by_cases h0 : addE14 l s n = 0
    · rw [if_neg (by simpa using h0), ih, len_insP]
      obtain ⟨h1, h2, h3⟩ := addE_iff.1 h0
      constructor
      · rintro ⟨a, b, c⟩
        refine ⟨fun m hm => ?_, List.nodup_cons.2 ⟨fun hm => ?_, b⟩, fun _ => ?_⟩
        · rcases List.mem_cons.1 hm with e | hm
          · subst e; exact ⟨h1, h2⟩
          · exact ⟨(a m hm).1, fun hx => (a m hm).2 (mem_insP.2 (Or.inr hx))⟩
        · exact (a n hm).2 (mem_insP.2 (Or.inl rfl))
        · rw [List.length_cons]
          rcases List.eq_nil_or_concat ns with e | ⟨x, y, e⟩
          · subst e; simp; omega
          · have := c (by rw [e]; simp); omega
      · rintro ⟨a, b, c⟩
        obtain ⟨b1, b2⟩ := List.nodup_cons.1 b
        refine ⟨fun m hm => ⟨(a m (List.mem_cons_of_mem _ hm)).1, fun hx => ?_⟩, b2, fun _ => ?_⟩
        · rcases mem_insP.1 hx with e | hx
          · injection e with _ e; subst e; exact b1 hm
          · exact (a m (List.mem_cons_of_mem _ hm)).2 hx
        · have := c (by simp); rw [List.length_cons] at this; omega
    · rw [if_pos h0]
      constructor
      · intro h; exact absurd h h0
      · rintro ⟨a, b, c⟩
        refine absurd (addE_iff.2 ⟨(a n (List.mem_cons_self ..)).1, (a n (List.mem_cons_self ..)).2, ?_⟩) h0
        have := c (by simp); rw [List.length_cons] at this; omega
theorem mem_addsL {s : List UInt8} {ns : List Int} {p : Pr} : ∀ {l : List Pr}, p ∈ addsL s l ns ↔ p ∈ l ∨ (p.1 = s ∧ p.2 ∈ ns) := by
  induction ns with
  | nil => intro l; simp [addsL]
  | cons n ns ih =>
    intro l
    unfold addsL
    rw [ih, mem_insP, List.mem_cons]
    constructor
    · rintro ((h | h) | ⟨h1, h2⟩)
      · subst h; exact Or.inr ⟨rfl, Or.inl rfl⟩
      · exact Or.inl h
      · exact Or.inr ⟨h1, Or.inr h2⟩
    · rintro (h | ⟨h1, h2 | h2⟩)
      · exact Or.inl (Or.inr h)
      · exact Or.inl (Or.inl (Prod.ext h1 h2))
      · exact Or.inr ⟨h1, h2⟩
theorem srt_addsL {s : List UInt8} {ns : List Int} : ∀ {l : List Pr}, Srt l → addsE s l ns = 0 → Srt (addsL s l ns) := by
  induction ns with
  | nil => intro l h _; exact h
  | cons n ns ih =>
    intro l h h0
    unfold addsE at h0
    by_cases he : addE14 l s n = 0
    · rw [if_neg (by simpa using he)] at h0
      exact ih (srt_insP h (addE_iff.1 he).2.1) h0
    · rw [if_pos he] at h0; exact absurd h0 he
theorem len_addsL {s : List UInt8} {ns : List Int} : ∀ {l : List Pr}, (addsL s l ns).length = l.length + ns.length := by
  induction ns with
  | nil => intro l; rfl
  | cons n ns ih => intro l; unfold addsL; rw [ih, len_insP, List.length_cons]; omega
theorem nodup_back {ns : List Int} (h : ns.Nodup) : ns.reverse.Nodup := by
  unfold List.Nodup at h ⊢
  rw [List.pairwise_reverse]
  exact h.imp fun q e => q e.symm
/-- In whatever order they are added. -/
theorem adds_back {s : List UInt8} {ns : List Int} {l : List Pr} (hl : Srt l) (h : addsE s l ns = 0) : addsE s l ns.reverse = 0 ∧ addsL s l ns.reverse = addsL s l ns := by
  have h' := adds_iff.1 h
  have h2 : addsE s l ns.reverse = 0 := adds_iff.2 ⟨fun n hn => h'.1 n (List.mem_reverse.1 hn), nodup_back h'.2.1, fun hne => by rw [List.length_reverse]; exact h'.2.2 (by simpa using hne)⟩
  refine ⟨h2, srt_ext (srt_addsL hl h2) (srt_addsL hl h) fun p => ?_⟩
  rw [mem_addsL, mem_addsL, List.mem_reverse]
/-- And dropped again, one by one. -/
def dropsL (s : List UInt8) : List Pr → List Int → List Pr
  | l, [] => l
  | l, n :: ns => dropsL s (dropP l (s, n)) ns
theorem mem_dropsL {s : List UInt8} {ns : List Int} {p : Pr} : ∀ {l : List Pr}, p ∈ dropsL s l ns ↔ p ∈ l ∧ ¬ (p.1 = s ∧ p.2 ∈ ns) := by
  induction ns with
  | nil => intro l; simp [dropsL]
  | cons n ns ih =>
    intro l
    unfold dropsL
    rw [ih, mem_dropP, List.mem_cons]
    constructor
    · rintro ⟨⟨h1, h2⟩, h3⟩
      refine ⟨h1, ?_⟩
      rintro ⟨a, b | b⟩
      · exact h2 (Prod.ext a b)
      · exact h3 ⟨a, b⟩
    · rintro ⟨h1, h2⟩
      refine ⟨⟨h1, ?_⟩, ?_⟩
      · rintro rfl; exact h2 ⟨rfl, Or.inl rfl⟩
      · rintro ⟨a, b⟩; exact h2 ⟨a, Or.inr b⟩
theorem srt_dropsL {s : List UInt8} {ns : List Int} : ∀ {l : List Pr}, Srt l → Srt (dropsL s l ns) := by
  induction ns with
  | nil => intro l h; exact h
  | cons n ns ih => intro l h; exact ih (srt_dropP h)
theorem drops_adds {s : List UInt8} {ns : List Int} {l : List Pr} (hl : Srt l) (h : addsE s l ns = 0) : dropsL s (addsL s l ns) ns = l := by
  have h' := adds_iff.1 h
  refine srt_ext (srt_dropsL (srt_addsL hl h)) hl fun p => ?_
  rw [mem_dropsL, mem_addsL]
  constructor
  · rintro ⟨h1 | h1, h2⟩
    · exact h1
    · exact absurd h1 h2
  · intro hp
    refine ⟨Or.inl hp, ?_⟩
    rintro ⟨a, b⟩
    refine (h'.1 p.2 b).2 ?_
    rw [← a]
    exact hp
theorem dropsL_take {s : List UInt8} {ns : List Int} {k : Nat} (hk : k < ns.length) (l : List Pr) : dropsL s l (ns.take (k + 1)) = dropP (dropsL s l (ns.take k)) (s, numAt ns k) := by
  induction ns generalizing k l with
  | nil => simp at hk
  | cons n ns ih =>
    cases k with
    | zero => rfl
    | succ k =>
      have := ih (k := k) (by simpa using hk) (dropP l (s, n))
      exact this
/-- A pair that is dropped in its turn is there. -/
theorem drops_in {s : List UInt8} {ns : List Int} {l : List Pr} (h : addsE s l ns = 0) {k : Nat} (hk : k < ns.length) : (s, numAt ns k) ∈ dropsL s (addsL s l ns) (ns.take k) := by
  have h' := adds_iff.1 h
  rw [mem_dropsL, mem_addsL]
  refine ⟨Or.inr ⟨rfl, num_mem ns k hk⟩, ?_⟩
  rintro ⟨_, hm⟩
  obtain ⟨j, hj, e⟩ := List.getElem_of_mem hm
  rw [List.length_take] at hj
  rw [List.getElem_take, numAt_get ns k hk] at e
  have := List.pairwise_iff_getElem.1 h'.2.1 j k (by omega) hk (by omega)
  exact this e
end Go.Proofs.Ytkefbgjbgblalaa
