/- Stores and changes in plain words: tables of rows whose numbers rise; what a change does, and what turns it back; what one batch after another does. -/
import Derived.Below
namespace Go.Proofs.Yteccahggahpeeaa

abbrev Rec15 := Int × List UInt8
abbrev Tb15 := List Rec15
abbrev St15 := List Tb15
/-- A change: its table, kind, number and text. -/
structure Op15 where
  t : Int
  k : Int
  id : Int
  x : List UInt8
def idsT (T : Tb15) : List Int := T.map fun r => r.1
def SrtT (T : Tb15) : Prop := T.Pairwise fun a b => a.1 < b.1
structure OkT (T : Tb15) : Prop where
  len : T.length ≤ 60
  srt : SrtT T
  ids : ∀ r ∈ T, 1 ≤ r.1 ∧ r.1 ≤ 999999
  txt : ∀ r ∈ T, r.2.length ≤ 200
structure OkS (S : St15) : Prop where
  len : S.length ≤ 8
  tab : ∀ T ∈ S, OkT T
def tab (S : St15) (t : Int) : Tb15 := if 0 ≤ t then S.getD t.toNat [] else []
def hasT (T : Tb15) (id : Int) : Bool := T.any fun r => r.1 == id
def textT : Tb15 → Int → List UInt8
  | [], _ => []
  | r :: T, id => if r.1 = id then r.2 else textT T id
def insT : Tb15 → Rec15 → Tb15
  | [], n => [n]
  | r :: T, n => if n.1 < r.1 then n :: r :: T else r :: insT T n
def setT (T : Tb15) (n : Rec15) : Tb15 := T.map fun r => if r.1 = n.1 then n else r
def dropT (T : Tb15) (id : Int) : Tb15 := T.filter fun r => !(r.1 == id)
theorem has_iff {T : Tb15} {id : Int} : hasT T id = true ↔ ∃ x, (id, x) ∈ T := by
  unfold hasT
  rw [List.any_eq_true]
  constructor
  · rintro ⟨r, h1, h2⟩
    rw [beq_iff_eq] at h2
    exact ⟨r.2, by rw [← h2]; exact h1⟩
  · rintro ⟨x, h⟩
    exact ⟨_, h, by simp⟩
theorem has_not {T : Tb15} {id : Int} : hasT T id = false ↔ ∀ r ∈ T, r.1 ≠ id := by
  rw [← Bool.not_eq_true, has_iff]
  constructor
  · rintro h r hr e
    exact h ⟨r.2, by rw [← e]; exact hr⟩
  · rintro h ⟨x, hx⟩
    exact h _ hx rfl
/-- Of one number there is one row. -/
theorem srt_one : ∀ {T : Tb15}, SrtT T → ∀ {id : Int} {x y : List UInt8}, (id, x) ∈ T → (id, y) ∈ T → x = y
  | [], _, _, _, _, h, _ => by cases h
  | r :: T, hs, id, x, y, h1, h2 => by
    obtain ⟨q1, q2⟩ := List.pairwise_cons.1 hs
    rcases List.mem_cons.1 h1 with e1 | e1
    · rcases List.mem_cons.1 h2 with e2 | e2
      · rw [← e1] at e2; injection e2 with _ e3; exact e3.symm
      · have := q1 _ e2; rw [← e1] at this; simp at this
    · rcases List.mem_cons.1 h2 with e2 | e2
      · have := q1 _ e1; rw [← e2] at this; simp at this
      · exact srt_one q2 e1 e2
theorem textT_in {T : Tb15} (hs : SrtT T) {id : Int} {x : List UInt8} (h : (id, x) ∈ T) : textT T id = x := by
  induction T with
  | nil => cases h
  | cons r T ih =>
    obtain ⟨q1, q2⟩ := List.pairwise_cons.1 hs
    unfold textT
    split
    · rename_i e
      refine srt_one hs (id := id) ?_ h
      rw [← e]; exact List.mem_cons_self ..
    · rename_i e
      rcases List.mem_cons.1 h with q | q
      · rw [← q] at e; exact absurd rfl e
      · exact ih q2 q
theorem text_has {T : Tb15} (hs : SrtT T) {id : Int} (h : hasT T id = true) : (id, textT T id) ∈ T := by
  obtain ⟨x, hx⟩ := has_iff.1 h
  rw [textT_in hs hx]; exact hx
/-- Tables whose numbers rise are the same if they have the same rows. -/
theorem srtT_ext : ∀ {S T : Tb15}, SrtT S → SrtT T → (∀ r, r ∈ S ↔ r ∈ T) → S = T
  | [], [], _, _, _ => rfl
  | [], b :: T, _, _, h => absurd ((h b).2 (List.mem_cons_self ..)) (by simp)
  | a :: S, [], _, _, h => absurd ((h a).1 (List.mem_cons_self ..)) (by simp)
  | a :: S, b :: T, hs, ht, h => by
    obtain ⟨a1, a2⟩ := List.pairwise_cons.1 hs
    obtain ⟨b1, b2⟩ := List.pairwise_cons.1 ht
    have e : a = b := by
      rcases List.mem_cons.1 ((h a).1 (List.mem_cons_self ..)) with q | q
      · exact q
      · rcases List.mem_cons.1 ((h b).2 (List.mem_cons_self ..)) with r | r
        · exact r.symm
        · have := b1 _ q; have := a1 _ r; omega
    subst e
    rw [srtT_ext a2 b2 fun r => ?_]
    constructor
    · intro q
      rcases List.mem_cons.1 ((h r).1 (List.mem_cons_of_mem _ q)) with rfl | q2
      · have := a1 _ q; omega
      · exact q2
    · intro q
      rcases List.mem_cons.1 ((h r).2 (List.mem_cons_of_mem _ q)) with rfl | q2
      · have := b1 _ q; omega
      · exact q2
theorem mem_ins {T : Tb15} {n r : Rec15} : r ∈ insT T n ↔ r = n ∨ r ∈ T := by
  induction T with
  | nil => simp [insT]
  | cons a T ih =>
    unfold insT
    split
    · simp
    · rw [List.mem_cons, ih, List.mem_cons]
      constructor
      · rintro (h | h | h)
        · exact Or.inr (Or.inl h)
        · exact Or.inl h
        · exact Or.inr (Or.inr h)
      · rintro (h | h | h)
        · exact Or.inr (Or.inl h)
        · exact Or.inl h
        · exact Or.inr (Or.inr h)
theorem len_ins (T : Tb15) (n : Rec15) : (insT T n).length = T.length + 1 := by
  induction T with
  | nil => rfl
  | cons a T ih =>
    unfold insT
    split
    · rfl
    · rw [List.length_cons, ih, List.length_cons]
theorem srt_ins {T : Tb15} {n : Rec15} (hs : SrtT T) (hn : ∀ r ∈ T, r.1 ≠ n.1) : SrtT (insT T n) := by
  induction T with
  | nil => exact List.pairwise_singleton ..
  | cons a T ih =>
    obtain ⟨q1, q2⟩ := List.pairwise_cons.1 hs
    unfold insT
    split
    · rename_i h
      refine List.pairwise_cons.2 ⟨fun r hr => ?_, hs⟩
      rcases List.mem_cons.1 hr with rfl | hr
      · exact h
      · have := q1 _ hr; omega
    · rename_i h
      refine List.pairwise_cons.2 ⟨fun r hr => ?_, ih q2 fun r hr => hn r (List.mem_cons_of_mem _ hr)⟩
      rcases mem_ins.1 hr with rfl | hr
      · have := hn a (List.mem_cons_self ..); omega
      · exact q1 _ hr
theorem mem_setT {T : Tb15} {n r : Rec15} : r ∈ setT T n ↔ (r = n ∧ hasT T n.1 = true) ∨ (r ∈ T ∧ r.1 ≠ n.1) := by
  unfold setT
  rw [List.mem_map, has_iff]
  constructor
  · rintro ⟨a, ha, e⟩
    split at e
    · rename_i q
      exact Or.inl ⟨e.symm, a.2, by rw [← q]; exact ha⟩
    · rename_i q
      subst e
      exact Or.inr ⟨ha, q⟩
  · rintro (⟨rfl, x, hx⟩ | ⟨h1, h2⟩)
    · exact ⟨_, hx, by rw [if_pos rfl]⟩
    · exact ⟨r, h1, by rw [if_neg h2]⟩
theorem ids_set (T : Tb15) (n : Rec15) : idsT (setT T n) = idsT T := by
  unfold idsT setT
  rw [List.map_map]
  refine List.map_congr_left fun r _ => ?_
  simp only [Function.comp]
  split
  · rename_i h; exact h.symm
  · rfl
theorem srt_idsT {T : Tb15} : SrtT T ↔ (idsT T).Pairwise fun a b => a < b := by
  unfold SrtT idsT
  rw [List.pairwise_map]
theorem srt_setT {T : Tb15} {n : Rec15} (hs : SrtT T) : SrtT (setT T n) := by
  rw [srt_idsT, ids_set, ← srt_idsT]; exact hs
theorem mem_dropT {T : Tb15} {id : Int} {r : Rec15} : r ∈ dropT T id ↔ r ∈ T ∧ r.1 ≠ id := by
  unfold dropT
  rw [List.mem_filter]
  simp
theorem srt_dropT {T : Tb15} {id : Int} (hs : SrtT T) : SrtT (dropT T id) := List.Pairwise.sublist (List.filter_sublist ..) hs
theorem has_ins {T : Tb15} {n : Rec15} {id : Int} : hasT (insT T n) id = true ↔ id = n.1 ∨ hasT T id = true := by
  rw [has_iff, has_iff]
  constructor
  · rintro ⟨x, hx⟩
    rcases mem_ins.1 hx with e | e
    · exact Or.inl (by rw [← e])
    · exact Or.inr ⟨x, e⟩
  · rintro (rfl | ⟨x, hx⟩)
    · exact ⟨n.2, mem_ins.2 (Or.inl rfl)⟩
    · exact ⟨x, mem_ins.2 (Or.inr hx)⟩
theorem has_setT {T : Tb15} {n : Rec15} {id : Int} : hasT (setT T n) id = hasT T id := by
  have e : ∀ T : Tb15, hasT T id = (idsT T).any fun i => i == id := fun T => by unfold hasT idsT; rw [List.any_map]; rfl
  rw [e, e, ids_set]
theorem has_dropT {T : Tb15} {id i : Int} : hasT (dropT T id) i = true ↔ hasT T i = true ∧ i ≠ id := by
  rw [has_iff, has_iff]
  constructor
  · rintro ⟨x, hx⟩
    have := mem_dropT.1 hx
    exact ⟨⟨x, this.1⟩, this.2⟩
  · rintro ⟨⟨x, hx⟩, h⟩
    exact ⟨x, mem_dropT.2 ⟨hx, h⟩⟩
theorem drop_insT {T : Tb15} {n : Rec15} (hs : SrtT T) (hn : ∀ r ∈ T, r.1 ≠ n.1) : dropT (insT T n) n.1 = T :=
  srtT_ext (srt_dropT (srt_ins hs hn)) hs fun r => by
    rw [mem_dropT, mem_ins]
    constructor
    · rintro ⟨rfl | h, h2⟩
      · exact absurd rfl h2
      · exact h
    · intro h; exact ⟨Or.inr h, hn r h⟩
theorem ins_dropT {T : Tb15} {id : Int} {x : List UInt8} (hs : SrtT T) (h : (id, x) ∈ T) : insT (dropT T id) (id, x) = T :=
  srtT_ext (srt_ins (srt_dropT hs) fun r hr => (mem_dropT.1 hr).2) hs fun r => by
    rw [mem_ins, mem_dropT]
    constructor
    · rintro (rfl | h2)
      · exact h
      · exact h2.1
    · intro hr
      by_cases e : r.1 = id
      · left
        have hr2 : (id, r.2) ∈ T := by rw [← e]; exact hr
        have := srt_one hs hr2 h
        rw [← e, ← this]
      · exact Or.inr ⟨hr, e⟩
theorem set_setT {T : Tb15} {id : Int} {x y : List UInt8} (hs : SrtT T) (h : (id, x) ∈ T) : setT (setT T (id, y)) (id, x) = T :=
  srtT_ext (srt_setT (srt_setT hs)) hs fun r => by
    rw [mem_setT, mem_setT, has_setT]
    constructor
    · rintro (⟨rfl, _⟩ | ⟨⟨rfl, _⟩ | ⟨h1, _⟩, h2⟩)
      · exact h
      · exact absurd rfl h2
      · exact h1
    · intro hr
      by_cases e : r.1 = id
      · left
        have hr2 : (id, r.2) ∈ T := by rw [← e]; exact hr
        have := srt_one hs hr2 h
        exact ⟨by rw [← e, ← this], has_iff.2 ⟨x, h⟩⟩
      · exact Or.inr ⟨Or.inr ⟨hr, e⟩, e⟩

/-! Changes of a store. -/
def wrongT (T : Tb15) (o : Op15) : Int := if o.k = 1 ∧ hasT T o.id = true then 32 else if o.k = 1 ∧ 60 ≤ T.length then 37 else if 1 < o.k ∧ hasT T o.id = false then 31 else 0
def wrongS (S : St15) (o : Op15) : Int :=
  if o.k < 1 ∨ 3 < o.k then 30 else if o.t < 0 ∨ (S.length : Int) ≤ o.t then 2 else if o.id < 1 ∨ 999999 < o.id then 31 else if o.k < 3 ∧ 200 < o.x.length then 3 else wrongT (tab S o.t) o
def doesT (T : Tb15) (o : Op15) : Tb15 := if o.k = 1 then insT T (o.id, o.x) else if o.k = 2 then setT T (o.id, o.x) else dropT T o.id
def doesS (S : St15) (o : Op15) : St15 := S.set o.t.toNat (doesT (tab S o.t) o)
def backO (S : St15) (o : Op15) : Op15 := if o.k = 1 then ⟨o.t, 3, o.id, []⟩ else if o.k = 2 then ⟨o.t, 2, o.id, textT (tab S o.t) o.id⟩ else ⟨o.t, 1, o.id, textT (tab S o.t) o.id⟩
/-- What a change that may be done is. -/
structure Fit15 (S : St15) (o : Op15) : Prop where
  kind : o.k = 1 ∨ o.k = 2 ∨ o.k = 3
  tab0 : 0 ≤ o.t
  tab1 : o.t.toNat < S.length
  id0 : 1 ≤ o.id ∧ o.id ≤ 999999
  txt : o.k < 3 → o.x.length ≤ 200
  new : o.k = 1 → hasT (tab S o.t) o.id = false ∧ (tab S o.t).length < 60
  old : o.k ≠ 1 → hasT (tab S o.t) o.id = true
theorem wrong_iff {S : St15} {o : Op15} : wrongS S o = 0 ↔ Fit15 S o := by
  unfold wrongS
  constructor
  · intro h
    by_cases h1 : o.k < 1 ∨ 3 < o.k
    · rw [if_pos h1] at h; cases h
    rw [if_neg h1] at h
    by_cases h2 : o.t < 0 ∨ (S.length : Int) ≤ o.t
    · rw [if_pos h2] at h; cases h
    rw [if_neg h2] at h
    by_cases h3 : o.id < 1 ∨ 999999 < o.id
    · rw [if_pos h3] at h; cases h
    rw [if_neg h3] at h
    by_cases h4 : o.k < 3 ∧ 200 < o.x.length
    · rw [if_pos h4] at h; cases h
    rw [if_neg h4] at h
    unfold wrongT at h
    by_cases h5 : o.k = 1 ∧ hasT (tab S o.t) o.id = true
    · rw [if_pos h5] at h; cases h
    rw [if_neg h5] at h
    by_cases h6 : o.k = 1 ∧ 60 ≤ (tab S o.t).length
    · rw [if_pos h6] at h; cases h
    rw [if_neg h6] at h
    by_cases h7 : 1 < o.k ∧ hasT (tab S o.t) o.id = false
    · rw [if_pos h7] at h; cases h
    refine ⟨by omega, by omega, by omega, by omega, fun q => by omega, fun q => ⟨?_, ?_⟩, fun q => ?_⟩
    · cases hh : hasT (tab S o.t) o.id with
      | false => rfl
      | true => exact absurd ⟨q, hh⟩ h5
    · rcases Nat.lt_or_ge (tab S o.t).length 60 with r | r
      · exact r
      · exact absurd ⟨q, r⟩ h6
    · cases hh : hasT (tab S o.t) o.id with
      | true => rfl
      | false => exact absurd ⟨by omega, hh⟩ h7
  · intro h
    have hk := h.kind
    have h0 := h.tab0
    have h1 := h.tab1
    have h2 := h.id0
    rw [if_neg (by omega), if_neg (by omega), if_neg (by omega), if_neg (fun q => by have := h.txt q.1; omega)]
    unfold wrongT
    rw [if_neg (fun q => by have := (h.new q.1).1; rw [q.2] at this; cases this), if_neg (fun q => by have := (h.new q.1).2; omega), if_neg (fun q => by have := h.old (by omega); rw [q.2] at this; cases this)]
theorem tab_mem {S : St15} {t : Int} (h0 : 0 ≤ t) (h1 : t.toNat < S.length) : tab S t ∈ S ∧ S[t.toNat]? = some (tab S t) := by
  unfold tab
  rw [if_pos h0, List.getD_eq_getElem?_getD, List.getElem?_eq_getElem h1]
  exact ⟨List.getElem_mem h1, rfl⟩
theorem tab_set {S : St15} {t : Int} (h0 : 0 ≤ t) (h1 : t.toNat < S.length) (T : Tb15) : tab (S.set t.toNat T) t = T := by
  unfold tab
  rw [if_pos h0, List.getD_eq_getElem?_getD, List.getElem?_set_self h1]
  rfl
theorem len_does (S : St15) (o : Op15) : (doesS S o).length = S.length := by unfold doesS; rw [List.length_set]
theorem okT_does {S : St15} {o : Op15} (h : Fit15 S o) (ht : OkT (tab S o.t)) : OkT (doesT (tab S o.t) o) := by
  unfold doesT
  rcases h.kind with e | e | e
  · rw [if_pos e]
    obtain ⟨n1, n2⟩ := h.new e
    refine ⟨by rw [len_ins]; omega, srt_ins ht.srt (has_not.1 n1), fun r hr => ?_, fun r hr => ?_⟩
    · rcases mem_ins.1 hr with rfl | hr
      · exact h.id0
      · exact ht.ids r hr
    · rcases mem_ins.1 hr with rfl | hr
      · exact h.txt (by omega)
      · exact ht.txt r hr
  · rw [if_neg (by omega), if_pos e]
    refine ⟨by unfold setT; rw [List.length_map]; exact ht.len, srt_setT ht.srt, fun r hr => ?_, fun r hr => ?_⟩
    · rcases mem_setT.1 hr with ⟨rfl, _⟩ | ⟨hr, _⟩
      · exact h.id0
      · exact ht.ids r hr
    · rcases mem_setT.1 hr with ⟨rfl, _⟩ | ⟨hr, _⟩
      · exact h.txt (by omega)
      · exact ht.txt r hr
  · rw [if_neg (by omega), if_neg (by omega)]
    exact ⟨Nat.le_trans (List.length_filter_le _ _) ht.len, srt_dropT ht.srt, fun r hr => ht.ids r (mem_dropT.1 hr).1, fun r hr => ht.txt r (mem_dropT.1 hr).1⟩
theorem ok_does {S : St15} {o : Op15} (h : Fit15 S o) (hs : OkS S) : OkS (doesS S o) := by
  have ht := okT_does h (hs.tab _ (tab_mem h.tab0 h.tab1).1)
  refine ⟨by rw [len_does]; exact hs.len, fun T hT => ?_⟩
  unfold doesS at hT
  rcases List.mem_or_eq_of_mem_set hT with q | q
  · exact hs.tab T q
  · rw [q]; exact ht
/-- A change is turned back. -/
theorem back_does {S : St15} {o : Op15} (h : Fit15 S o) (hs : OkS S) : Fit15 (doesS S o) (backO S o) ∧ doesS (doesS S o) (backO S o) = S := by
  have hm := tab_mem h.tab0 h.tab1
  have ht := hs.tab _ hm.1
  have hl := len_does S o
  have hset : ∀ T, (doesS S o).set o.t.toNat T = S.set o.t.toNat T := fun T => by unfold doesS; rw [List.set_set]
  have hself : S.set o.t.toNat (tab S o.t) = S := List.ext_getElem? fun j => by
    rw [List.getElem?_set]
    split
    · rename_i e; subst e; rw [if_pos h.tab1, hm.2]
    · rfl
  rcases h.kind with e | e | e
  · have hd : doesS S o = S.set o.t.toNat (insT (tab S o.t) (o.id, o.x)) := by unfold doesS doesT; rw [if_pos e]
    have htab : tab (doesS S o) o.t = insT (tab S o.t) (o.id, o.x) := by rw [hd, tab_set h.tab0 h.tab1]
    have hb : backO S o = ⟨o.t, 3, o.id, []⟩ := by unfold backO; rw [if_pos e]
    rw [hb]
    refine ⟨⟨Or.inr (Or.inr rfl), h.tab0, by rw [hl]; exact h.tab1, h.id0, fun q => absurd q (by simp), fun q => absurd q (by simp), fun _ => ?_⟩, ?_⟩
    · show hasT (tab (doesS S o) o.t) o.id = true
      rw [htab]; exact has_ins.2 (Or.inl rfl)
    · have e2 : doesS (doesS S o) ⟨o.t, 3, o.id, []⟩ = (doesS S o).set o.t.toNat (dropT (tab (doesS S o) o.t) o.id) := rfl
      rw [e2, htab, hset, drop_insT (n := (o.id, o.x)) ht.srt (has_not.1 (h.new e).1), hself]
  · have hd : doesS S o = S.set o.t.toNat (setT (tab S o.t) (o.id, o.x)) := by unfold doesS doesT; rw [if_neg (by omega), if_pos e]
    have htab : tab (doesS S o) o.t = setT (tab S o.t) (o.id, o.x) := by rw [hd, tab_set h.tab0 h.tab1]
    have hb : backO S o = ⟨o.t, 2, o.id, textT (tab S o.t) o.id⟩ := by unfold backO; rw [if_neg (by omega), if_pos e]
    have hin := text_has ht.srt (h.old (by omega))
    rw [hb]
    refine ⟨⟨Or.inr (Or.inl rfl), h.tab0, by rw [hl]; exact h.tab1, h.id0, fun _ => ht.txt _ hin, fun q => absurd q (by simp), fun _ => ?_⟩, ?_⟩
    · show hasT (tab (doesS S o) o.t) o.id = true
      rw [htab, has_setT]; exact h.old (by omega)
    · have e2 : doesS (doesS S o) ⟨o.t, 2, o.id, textT (tab S o.t) o.id⟩ = (doesS S o).set o.t.toNat (setT (tab (doesS S o) o.t) (o.id, textT (tab S o.t) o.id)) := rfl
      rw [e2, htab, hset, set_setT ht.srt hin, hself]
  · have hd : doesS S o = S.set o.t.toNat (dropT (tab S o.t) o.id) := by unfold doesS doesT; rw [if_neg (by omega), if_neg (by omega)]
    have htab : tab (doesS S o) o.t = dropT (tab S o.t) o.id := by rw [hd, tab_set h.tab0 h.tab1]
    have hb : backO S o = ⟨o.t, 1, o.id, textT (tab S o.t) o.id⟩ := by unfold backO; rw [if_neg (by omega), if_neg (by omega)]
    have hin := text_has ht.srt (h.old (by omega))
    rw [hb]
    refine ⟨⟨Or.inl rfl, h.tab0, by rw [hl]; exact h.tab1, h.id0, fun _ => ht.txt _ hin, fun _ => ⟨?_, ?_⟩, fun q => absurd rfl q⟩, ?_⟩
    · show hasT (tab (doesS S o) o.t) o.id = false
      rw [htab, has_not]
      intro r hr; exact (mem_dropT.1 hr).2
    · show (tab (doesS S o) o.t).length < 60
      rw [htab]
      have h1 : (insT (dropT (tab S o.t) o.id) (o.id, textT (tab S o.t) o.id)).length = (tab S o.t).length := by rw [ins_dropT ht.srt hin]
      rw [len_ins] at h1
      have := ht.len
      omega
    · have e2 : doesS (doesS S o) ⟨o.t, 1, o.id, textT (tab S o.t) o.id⟩ = (doesS S o).set o.t.toNat (insT (tab (doesS S o) o.t) (o.id, textT (tab S o.t) o.id)) := rfl
      rw [e2, htab, hset, ins_dropT ht.srt hin, hself]

/-! Batches. -/
def appE : St15 → List Op15 → Int
  | _, [] => 0
  | S, o :: l => if wrongS S o ≠ 0 then wrongS S o else appE (doesS S o) l
def appN : St15 → List Op15 → Nat
  | _, [] => 0
  | S, o :: l => if wrongS S o ≠ 0 then 0 else appN (doesS S o) l + 1
def appV : St15 → List Op15 → St15
  | S, [] => S
  | S, o :: l => appV (doesS S o) l
def undoL : St15 → List Op15 → List Op15
  | _, [] => []
  | S, o :: l => undoL (doesS S o) l ++ [backO S o]
theorem appE_cons (S : St15) (o : Op15) (l : List Op15) : appE S (o :: l) = if wrongS S o ≠ 0 then wrongS S o else appE (doesS S o) l := rfl
theorem appN_cons (S : St15) (o : Op15) (l : List Op15) : appN S (o :: l) = if wrongS S o ≠ 0 then 0 else appN (doesS S o) l + 1 := rfl
theorem app_cons {S : St15} {o : Op15} {l : List Op15} : appE S (o :: l) = 0 ↔ Fit15 S o ∧ appE (doesS S o) l = 0 := by
  rw [appE_cons]
  by_cases h : wrongS S o = 0
  · rw [if_neg (by simpa using h)]; exact ⟨fun q => ⟨wrong_iff.1 h, q⟩, fun q => q.2⟩
  · rw [if_pos h]; exact ⟨fun q => absurd q h, fun q => absurd (wrong_iff.2 q.1) h⟩
theorem app_ok {S : St15} (hs : OkS S) {l : List Op15} (h : appE S l = 0) : OkS (appV S l) ∧ appN S l = l.length := by
  induction l generalizing S with
  | nil => exact ⟨hs, rfl⟩
  | cons o l ih =>
    obtain ⟨h1, h2⟩ := app_cons.1 h
    obtain ⟨i1, i2⟩ := ih (ok_does h1 hs) h2
    refine ⟨i1, ?_⟩
    rw [appN_cons, if_neg (by simpa using wrong_iff.2 h1), i2]
    rfl
theorem app_len (S : St15) (l : List Op15) : appN S l ≤ l.length ∧ (appE S l ≠ 0 → appN S l < l.length) := by
  induction l generalizing S with
  | nil => exact ⟨Nat.le_refl _, fun h => absurd rfl h⟩
  | cons o l ih =>
    obtain ⟨i1, i2⟩ := ih (doesS S o)
    rw [appN_cons, appE_cons]
    by_cases h : wrongS S o = 0
    · rw [if_neg (by simpa using h), if_neg (by simpa using h)]
      rw [List.length_cons]
      exact ⟨by omega, fun q => by have := i2 q; omega⟩
    · rw [if_pos h, if_pos h, List.length_cons]
      exact ⟨by omega, fun _ => by omega⟩
theorem app_append {S : St15} {l m : List Op15} (h : appE S l = 0) : appE S (l ++ m) = appE (appV S l) m ∧ appV S (l ++ m) = appV (appV S l) m := by
  induction l generalizing S with
  | nil => exact ⟨rfl, rfl⟩
  | cons o l ih =>
    obtain ⟨h1, h2⟩ := app_cons.1 h
    obtain ⟨i1, i2⟩ := ih h2
    refine ⟨?_, i2⟩
    rw [List.cons_append, appE_cons, if_neg (by simpa using wrong_iff.2 h1)]
    exact i1
/-- What was done is undone. -/
theorem undo_app {S : St15} (hs : OkS S) {l : List Op15} (h : appE S l = 0) : appE (appV S l) (undoL S l) = 0 ∧ appV (appV S l) (undoL S l) = S ∧ (undoL S l).length = l.length := by
  induction l generalizing S with
  | nil => exact ⟨rfl, rfl, rfl⟩
  | cons o l ih =>
    obtain ⟨h1, h2⟩ := app_cons.1 h
    obtain ⟨i1, i2, i3⟩ := ih (ok_does h1 hs) h2
    obtain ⟨b1, b2⟩ := back_does h1 hs
    show appE (appV (doesS S o) l) (undoL (doesS S o) l ++ [backO S o]) = 0 ∧ appV (appV (doesS S o) l) (undoL (doesS S o) l ++ [backO S o]) = S ∧ (undoL (doesS S o) l ++ [backO S o]).length = (o :: l).length
    obtain ⟨a1, a2⟩ := app_append (m := [backO S o]) i1
    rw [a1, a2, i2]
    refine ⟨app_cons.2 ⟨b1, rfl⟩, b2, ?_⟩
    rw [List.length_append, i3]
    rfl
end Go.Proofs.Yteccahggahpeeaa
namespace Go.Proofs.Yteccahggahpeeaa

def goneT (t : Int) (A B : Tb15) : List Op15 := (A.filter fun r => !(hasT B r.1)).map fun r => ⟨t, 3, r.1, []⟩
def oneT (t : Int) (A : Tb15) (r : Rec15) : List Op15 := if hasT A r.1 = false then [⟨t, 1, r.1, r.2⟩] else if textT A r.1 = r.2 then [] else [⟨t, 2, r.1, r.2⟩]
def newT (t : Int) (A B : Tb15) : List Op15 := B.flatMap (oneT t A)
def diffT (t : Int) (A B : Tb15) : List Op15 := goneT t A B ++ newT t A B
/-- Table by table, from a table on. -/
def diffS : Nat → St15 → St15 → List Op15
  | t, A :: S, B :: Q => diffT t A B ++ diffS (t + 1) S Q
  | _, _, _ => []

theorem app_nil (S : St15) : appE S [] = 0 ∧ appV S [] = S := ⟨rfl, rfl⟩
theorem set_set_tab {S : St15} {t : Int} (_h1 : t.toNat < S.length) (T U : Tb15) : (S.set t.toNat T).set t.toNat U = S.set t.toNat U := List.set_set ..
theorem set_self {S : St15} {t : Int} (h0 : 0 ≤ t) (h1 : t.toNat < S.length) : S.set t.toNat (tab S t) = S := List.ext_getElem? fun j => by
  rw [List.getElem?_set]
  split
  · rename_i e; subst e; exact (tab_mem h0 h1).2.symm
  · rfl
/-- What changes of one table do. -/
theorem app_table {t : Int} (h0 : 0 ≤ t) : ∀ {l : List Op15} {S : St15} {T : Tb15}, t.toNat < S.length → (∀ o ∈ l, o.t = t) → tab S t = T → ∀ {U : Tb15},
    (∀ (P : Tb15 → List Op15 → Prop), P T l → (∀ V o m, P V (o :: m) → wrongT V o = 0 ∧ (o.k = 1 ∨ o.k = 2 ∨ o.k = 3) ∧ (1 ≤ o.id ∧ o.id ≤ 999999) ∧ (o.k < 3 → o.x.length ≤ 200) ∧ P (doesT V o) m) → (∀ V, P V [] → V = U) → appE S l = 0 ∧ appV S l = S.set t.toNat U)
  | [], S, T, h1, _, ht, U, P, hP, _, hend => by
    have := hend T hP
    subst this
    refine ⟨rfl, ?_⟩
    show S = S.set t.toNat T
    rw [← ht, set_self h0 h1]
  | o :: l, S, T, h1, ho, ht, U, P, hP, hstep, hend => by
    obtain ⟨w0, k0, i0, x0, hP2⟩ := hstep T o l hP
    have hot : o.t = t := ho o (List.mem_cons_self ..)
    have hw : wrongS S o = 0 := by
      unfold wrongS
      rw [if_neg (by omega), if_neg (by omega), if_neg (by omega), if_neg (fun q => by have := x0 q.1; omega), hot, ht]
      exact w0
    have hd : doesS S o = S.set t.toNat (doesT T o) := by unfold doesS; rw [hot, ht]
    obtain ⟨r1, r2⟩ := app_table h0 (S := doesS S o) (T := doesT T o) (by rw [len_does]; exact h1) (fun o' h' => ho o' (List.mem_cons_of_mem _ h')) (by rw [hd, tab_set h0 h1]) P hP2 hstep hend
    refine ⟨app_cons.2 ⟨wrong_iff.1 hw, r1⟩, ?_⟩
    show appV (doesS S o) l = _
    rw [r2, hd, List.set_set]
/-- Behind the rows that go. -/
theorem gone_app {t : Int} (h0 : 0 ≤ t) {S : St15} (h1 : t.toNat < S.length) {A B : Tb15} (hA : OkT A) (ht : tab S t = A) :
    appE S (goneT t A B) = 0 ∧ appV S (goneT t A B) = S.set t.toNat (A.filter fun r => hasT B r.1) := by
  refine app_table h0 (l := goneT t A B) (T := A) h1 (fun o ho => ?_) ht (fun V l => ∃ R : Tb15, l = R.map (fun r => (⟨t, 3, r.1, []⟩ : Op15)) ∧ SrtT V ∧ R.Pairwise (fun a b => a.1 ≠ b.1) ∧ (∀ r ∈ R, r ∈ V ∧ hasT B r.1 = false ∧ (1 ≤ r.1 ∧ r.1 ≤ 999999)) ∧ ∀ r, r ∈ A ∧ hasT B r.1 = true ↔ r ∈ V ∧ ∀ q ∈ R, q.1 ≠ r.1) ⟨A.filter fun r => !(hasT B r.1), rfl, hA.srt, ?_, ?_, ?_⟩ ?_ ?_
  · obtain ⟨r, _, e⟩ := List.mem_map.1 ho
    rw [← e]
  · exact (List.Pairwise.sublist (List.filter_sublist ..) hA.srt).imp fun h => by omega
  · intro r hr
    rw [List.mem_filter] at hr
    exact ⟨hr.1, by simpa using hr.2, hA.ids r hr.1⟩
  · intro r
    constructor
    · rintro ⟨q1, q2⟩
      refine ⟨q1, fun q hq e => ?_⟩
      rw [List.mem_filter] at hq
      have := hq.2
      rw [e, q2] at this
      cases this
    · rintro ⟨q1, q2⟩
      refine ⟨q1, ?_⟩
      cases hh : hasT B r.1 with
      | true => rfl
      | false => exact absurd rfl (q2 r (List.mem_filter.2 ⟨q1, by rw [hh]; rfl⟩))
  · rintro V o m ⟨R, e, hs, hp, hr, hm⟩
    cases R with
    | nil => cases e
    | cons r R =>
      rw [List.map_cons] at e
      injection e with e1 e2
      subst e1
      obtain ⟨p1, p2⟩ := List.pairwise_cons.1 hp
      obtain ⟨a1, a2, a3⟩ := hr r (List.mem_cons_self ..)
      have hh : hasT V r.1 = true := has_iff.2 ⟨r.2, a1⟩
      refine ⟨?_, Or.inr (Or.inr rfl), a3, fun q => absurd q (by simp), R, e2, ?_, p2, fun q hq => ?_, fun q => ?_⟩
      · unfold wrongT
        rw [if_neg (fun q => by have := q.1; simp at this), if_neg (fun q => by have := q.1; simp at this), if_neg (fun q => by have := q.2; rw [hh] at this; cases this)]
      · exact srt_dropT hs
      · obtain ⟨b1, b2, b3⟩ := hr q (List.mem_cons_of_mem _ hq)
        exact ⟨mem_dropT.2 ⟨b1, fun e => p1 q hq e.symm⟩, b2, b3⟩
      · rw [hm]
        show _ ↔ q ∈ dropT V r.1 ∧ _
        rw [mem_dropT]
        constructor
        · rintro ⟨c1, c2⟩
          exact ⟨⟨c1, fun e => c2 r (List.mem_cons_self ..) e.symm⟩, fun q' hq' => c2 q' (List.mem_cons_of_mem _ hq')⟩
        · rintro ⟨⟨c1, c2⟩, c3⟩
          refine ⟨c1, fun q' hq' => ?_⟩
          rcases List.mem_cons.1 hq' with rfl | hq'
          · exact fun e => c2 e.symm
          · exact c3 q' hq'
  · rintro V ⟨R, e, hs, _, _, hm⟩
    obtain rfl : R = [] := by cases R with | nil => rfl | cons => cases e
    refine srtT_ext hs (List.Pairwise.sublist (List.filter_sublist ..) hA.srt) fun r => ?_
    have := hm r
    rw [List.mem_filter]
    constructor
    · intro h; exact this.2 ⟨h, fun q hq => by cases hq⟩
    · intro h; exact (this.1 h).1
theorem no_set {V : Tb15} (hs : SrtT V) {r : Rec15} (h : r ∈ V) : setT V r = V :=
  srtT_ext (srt_setT hs) hs fun q => by
    rw [mem_setT]
    constructor
    · rintro (⟨rfl, _⟩ | ⟨h1, _⟩)
      · exact h
      · exact h1
    · intro hq
      by_cases e : q.1 = r.1
      · left
        have h2 : (r.1, q.2) ∈ V := by rw [← e]; exact hq
        have := srt_one hs h2 (show (r.1, r.2) ∈ V from h)
        exact ⟨Prod.ext e this, has_iff.2 ⟨r.2, h⟩⟩
      · exact Or.inr ⟨hq, e⟩
/-- The rows that come and those that change. -/
theorem new_app {t : Int} (h0 : 0 ≤ t) {S : St15} (h1 : t.toNat < S.length) {A B : Tb15} (hA : OkT A) (hB : OkT B) (ht : tab S t = A.filter fun r => hasT B r.1) :
    appE S (newT t A B) = 0 ∧ appV S (newT t A B) = S.set t.toNat B := by
  have hF : SrtT (A.filter fun r => hasT B r.1) := List.Pairwise.sublist (List.filter_sublist ..) hA.srt
  -- behind the rows Q of B, with R to come: the table has Q, and of A what is in B and not in Q
  refine app_table h0 (l := newT t A B) (T := A.filter fun r => hasT B r.1) h1 (fun o ho => ?_) ht (fun V l => ∃ Q R : Tb15, B = Q ++ R ∧ l = R.flatMap (oneT t A) ∧ SrtT V ∧ ∀ r, r ∈ V ↔ r ∈ Q ∨ (r ∈ A ∧ hasT B r.1 = true ∧ ∀ q ∈ Q, q.1 ≠ r.1)) ⟨[], B, rfl, rfl, hF, fun r => ?_⟩ ?_ ?_
  · obtain ⟨r, _, hr⟩ := List.mem_flatMap.1 ho
    unfold oneT at hr
    split at hr
    · rw [List.mem_singleton.1 hr]
    · split at hr
      · cases hr
      · rw [List.mem_singleton.1 hr]
  · rw [List.mem_filter]
    simp
  · -- rows of B at which nothing is to be done are passed over first
    have skip : ∀ (R Q V : Tb15), B = Q ++ R → SrtT V → (∀ r, r ∈ V ↔ r ∈ Q ∨ (r ∈ A ∧ hasT B r.1 = true ∧ ∀ q ∈ Q, q.1 ≠ r.1)) → ∀ o m, R.flatMap (oneT t A) = o :: m →
        ∃ (Q' R' : Tb15) (r : Rec15), B = Q' ++ r :: R' ∧ oneT t A r = [o] ∧ m = R'.flatMap (oneT t A) ∧ ∀ r, r ∈ V ↔ r ∈ Q' ∨ (r ∈ A ∧ hasT B r.1 = true ∧ ∀ q ∈ Q', q.1 ≠ r.1) := by
      intro R
      induction R with
      | nil => intro Q V _ _ _ o m e; cases e
      | cons r R ih =>
        intro Q V hb hs hm o m e
        rw [List.flatMap_cons] at e
        have hrB : r ∈ B := by rw [hb]; exact List.mem_append_right _ (List.mem_cons_self ..)
        have hBp : ∀ q ∈ Q, q.1 ≠ r.1 := fun q hq => by
          have h2 := hB.srt
          unfold SrtT at h2
          rw [hb, List.pairwise_append] at h2
          have := h2.2.2 q hq r (List.mem_cons_self ..)
          omega
        by_cases hh : oneT t A r = []
        · rw [hh, List.nil_append] at e
          have hin : r ∈ A := by
            unfold oneT at hh
            split at hh
            · cases hh
            · rename_i q1
              split at hh
              · rename_i q2
                have q3 : hasT A r.1 = true := by simpa using q1
                have := text_has hA.srt q3
                rw [q2] at this
                exact this
              · cases hh
          refine ih (Q ++ [r]) V (by rw [hb, List.append_assoc]; rfl) hs (fun q => ?_) o m e
          rw [hm]
          constructor
          · rintro (q1 | ⟨q1, q2, q3⟩)
            · exact Or.inl (List.mem_append_left _ q1)
            · by_cases e2 : q.1 = r.1
              · left
                have h4 : (r.1, q.2) ∈ A := by rw [← e2]; exact q1
                have h5 := srt_one hA.srt h4 (show (r.1, r.2) ∈ A from hin)
                exact List.mem_append_right _ (List.mem_singleton.2 (Prod.ext e2 h5))
              · refine Or.inr ⟨q1, q2, fun q' hq' => ?_⟩
                rcases List.mem_append.1 hq' with h | h
                · exact q3 q' h
                · rw [List.mem_singleton.1 h]; exact fun e3 => e2 e3.symm
          · rintro (q1 | ⟨q1, q2, q3⟩)
            · rcases List.mem_append.1 q1 with h | h
              · exact Or.inl h
              · have := List.mem_singleton.1 h
                subst this
                exact Or.inr ⟨hin, has_iff.2 ⟨q.2, hrB⟩, hBp⟩
            · exact Or.inr ⟨q1, q2, fun q' hq' => q3 q' (List.mem_append_left _ hq')⟩
        · have h1 : ∃ o', oneT t A r = [o'] := by
            unfold oneT at hh ⊢
            split
            · exact ⟨_, rfl⟩
            · rename_i q1
              rw [if_neg q1] at hh
              split
              · rename_i q2; rw [if_pos q2] at hh; exact absurd rfl hh
              · exact ⟨_, rfl⟩
          obtain ⟨o', ho'⟩ := h1
          rw [ho'] at e
          injection e with e1 e2
          subst e1
          exact ⟨Q, R, r, hb, ho', e2.symm, hm⟩
    rintro V o m ⟨Q, R, hb, hl, hs, hm⟩
    obtain ⟨Q', R', r, hb2, ho, hm2, hmem⟩ := skip R Q V hb hs hm o m hl.symm
    have hrB : r ∈ B := by rw [hb2]; exact List.mem_append_right _ (List.mem_cons_self ..)
    have hBp : ∀ q ∈ Q', q.1 ≠ r.1 := fun q hq => by
      have h2 := hB.srt
      unfold SrtT at h2
      rw [hb2, List.pairwise_append] at h2
      have := h2.2.2 q hq r (List.mem_cons_self ..)
      omega
    have hrhas : hasT B r.1 = true := has_iff.2 ⟨r.2, hrB⟩
    have hVB : ∀ q ∈ V, hasT B q.1 = true := fun q hq => by
      rcases (hmem q).1 hq with h | h
      · exact has_iff.2 ⟨q.2, by rw [hb2]; exact List.mem_append_left _ h⟩
      · exact h.2.1
    have hids := hB.ids r hrB
    have htxt := hB.txt r hrB
    unfold oneT at ho
    split at ho
    · rename_i q1
      have ho2 := (List.cons.inj ho).1
      subst ho2
      have hno : hasT V r.1 = false := has_not.2 fun q hq e => by
        rcases (hmem q).1 hq with h | h
        · exact hBp q h e
        · exact has_not.1 q1 q h.1 e
      have hlen : V.length < 60 := by
        -- with the row more it is no longer than B
        have hsub : (insT V r).length ≤ B.length := by
          have h3 : SrtT (insT V r) := srt_ins hs (has_not.1 hno)
          have h4 : (idsT (insT V r)).Nodup := (srt_idsT.1 h3).imp fun h => by omega
          have h5 : idsT (insT V r) ⊆ idsT B := fun i hi => by
            obtain ⟨q, hq, rfl⟩ := List.mem_map.1 hi
            have : hasT B q.1 = true := by
              rcases mem_ins.1 hq with rfl | h
              · exact hrhas
              · exact hVB q h
            obtain ⟨x, hx⟩ := has_iff.1 this
            exact List.mem_map.2 ⟨_, hx, rfl⟩
          have h6 := List.Nodup.length_le_of_subset h4 h5
          unfold idsT at h6
          rw [List.length_map, List.length_map] at h6
          exact h6
        rw [len_ins] at hsub
        have := hB.len
        omega
      refine ⟨?_, Or.inl rfl, hids, fun _ => htxt, Q' ++ [r], R', by rw [hb2, List.append_assoc]; rfl, hm2, ?_, fun q => ?_⟩
      · unfold wrongT
        rw [if_neg (fun q => by rw [hno] at q; cases q.2), if_neg (fun q => by have := q.2; omega), if_neg (fun q => by have := q.1; simp at this)]
      · exact srt_ins hs (has_not.1 hno)
      · show q ∈ insT V (r.1, r.2) ↔ _
        rw [mem_ins, hmem]
        constructor
        · rintro (rfl | h | ⟨h1, h2, h3⟩)
          · exact Or.inl (List.mem_append_right _ (List.mem_singleton.2 rfl))
          · exact Or.inl (List.mem_append_left _ h)
          · refine Or.inr ⟨h1, h2, fun q' hq' => ?_⟩
            rcases List.mem_append.1 hq' with h | h
            · exact h3 q' h
            · rw [List.mem_singleton.1 h]; exact fun e => has_not.1 q1 q h1 e.symm
        · rintro (h | ⟨h1, h2, h3⟩)
          · rcases List.mem_append.1 h with h | h
            · exact Or.inr (Or.inl h)
            · exact Or.inl (List.mem_singleton.1 h)
          · exact Or.inr (Or.inr ⟨h1, h2, fun q' hq' => h3 q' (List.mem_append_left _ hq')⟩)
    · rename_i q1
      have q1' : hasT A r.1 = true := by simpa using q1
      split at ho
      · cases ho
      · rename_i q2
        have ho2 := (List.cons.inj ho).1
        subst ho2
        have hinV : (r.1, textT A r.1) ∈ V := (hmem _).2 (Or.inr ⟨text_has hA.srt q1', hrhas, fun q hq => hBp q hq⟩)
        have hyes : hasT V r.1 = true := has_iff.2 ⟨_, hinV⟩
        refine ⟨?_, Or.inr (Or.inl rfl), hids, fun _ => htxt, Q' ++ [r], R', by rw [hb2, List.append_assoc]; rfl, hm2, ?_, fun q => ?_⟩
        · unfold wrongT
          rw [if_neg (fun q => by have := q.1; simp at this), if_neg (fun q => by have := q.1; simp at this), if_neg (fun q => by rw [hyes] at q; cases q.2)]
        · exact srt_setT hs
        · show q ∈ setT V (r.1, r.2) ↔ _
          rw [mem_setT, hmem]
          constructor
          · rintro (⟨rfl, _⟩ | ⟨h | ⟨h1, h2, h3⟩, h4⟩)
            · exact Or.inl (List.mem_append_right _ (List.mem_singleton.2 rfl))
            · exact Or.inl (List.mem_append_left _ h)
            · refine Or.inr ⟨h1, h2, fun q' hq' => ?_⟩
              rcases List.mem_append.1 hq' with h | h
              · exact h3 q' h
              · rw [List.mem_singleton.1 h]; exact fun e => h4 e.symm
          · rintro (h | ⟨h1, h2, h3⟩)
            · rcases List.mem_append.1 h with h | h
              · exact Or.inr ⟨Or.inl h, fun e => hBp q h e⟩
              · exact Or.inl ⟨List.mem_singleton.1 h, hyes⟩
            · exact Or.inr ⟨Or.inr ⟨h1, h2, fun q' hq' => h3 q' (List.mem_append_left _ hq')⟩, fun e => h3 r (List.mem_append_right _ (List.mem_singleton.2 rfl)) e.symm⟩
  · rintro V ⟨Q, R, hb, hl, hs, hm⟩
    refine srtT_ext hs hB.srt fun r => ?_
    -- what is left of B stands there as it is
    have hrest : ∀ q ∈ R, q ∈ A := fun q hq => by
      have h1 : oneT t A q = [] := by
        have := List.flatMap_eq_nil_iff.1 hl.symm
        exact this q hq
      unfold oneT at h1
      split at h1
      · cases h1
      · rename_i q1
        split at h1
        · rename_i q2
          have := text_has hA.srt (show hasT A q.1 = true by simpa using q1)
          rw [q2] at this
          exact this
        · cases h1
    have hQR : ∀ q ∈ Q, ∀ r ∈ R, q.1 ≠ r.1 := fun q hq r hr => by
      have h2 := hB.srt
      unfold SrtT at h2
      rw [hb, List.pairwise_append] at h2
      have := h2.2.2 q hq r hr
      omega
    rw [hm]
    constructor
    · rintro (h | ⟨h1, h2, h3⟩)
      · rw [hb]; exact List.mem_append_left _ h
      · obtain ⟨x, hx⟩ := has_iff.1 h2
        rw [hb] at hx
        rcases List.mem_append.1 hx with h | h
        · exact absurd rfl (h3 (r.1, x) h)
        · have h4 := hrest _ h
          have h5 := srt_one hA.srt (show (r.1, r.2) ∈ A from h1) h4
          rw [hb]
          refine List.mem_append_right _ ?_
          have : r = (r.1, x) := Prod.ext rfl h5
          rw [this]; exact h
    · intro h
      rw [hb] at h
      rcases List.mem_append.1 h with h | h
      · exact Or.inl h
      · exact Or.inr ⟨hrest r h, has_iff.2 ⟨r.2, by rw [hb]; exact List.mem_append_right _ h⟩, fun q hq => hQR q hq r h⟩
theorem diff_table {t : Int} (h0 : 0 ≤ t) {S : St15} (h1 : t.toNat < S.length) {A B : Tb15} (hA : OkT A) (hB : OkT B) (ht : tab S t = A) :
    appE S (diffT t A B) = 0 ∧ appV S (diffT t A B) = S.set t.toNat B := by
  obtain ⟨g1, g2⟩ := gone_app h0 h1 (B := B) hA ht
  obtain ⟨n1, n2⟩ := new_app h0 (S := S.set t.toNat (A.filter fun r => hasT B r.1)) (by rw [List.length_set]; exact h1) hA hB (tab_set h0 h1 _)
  unfold diffT
  obtain ⟨a1, a2⟩ := app_append (m := newT t A B) g1
  rw [a1, a2, g2]
  exact ⟨n1, by rw [n2, List.set_set]⟩
/-- The changes from one store to another one make that of it. -/
theorem diff_app : ∀ {A B : St15} {P : St15}, A.length = B.length → (∀ T ∈ A, OkT T) → (∀ T ∈ B, OkT T) → appE (P ++ A) (diffS P.length A B) = 0 ∧ appV (P ++ A) (diffS P.length A B) = P ++ B
  | [], [], P, _, _, _ => ⟨rfl, rfl⟩
  | [], _ :: _, _, h, _, _ => by simp at h
  | _ :: _, [], _, h, _, _ => by simp at h
  | T :: A, U :: B, P, h, hA, hB => by
    have hl : P.length < (P ++ T :: A).length := by rw [List.length_append, List.length_cons]; omega
    have ht : tab (P ++ T :: A) (P.length : Int) = T := by
      unfold tab
      rw [if_pos (by omega), Int.toNat_natCast, List.getD_eq_getElem?_getD, List.getElem?_append_right (Nat.le_refl _), Nat.sub_self]
      rfl
    obtain ⟨d1, d2⟩ := diff_table (t := (P.length : Int)) (by omega) (by rw [Int.toNat_natCast]; exact hl) (hA T (List.mem_cons_self ..)) (hB U (List.mem_cons_self ..)) ht
    obtain ⟨i1, i2⟩ := diff_app (A := A) (B := B) (P := P ++ [U]) (by simpa using h) (fun T h => hA T (List.mem_cons_of_mem _ h)) (fun T h => hB T (List.mem_cons_of_mem _ h))
    have hset : (P ++ T :: A).set ((P.length : Int)).toNat U = P ++ U :: A := by
      rw [Int.toNat_natCast, List.set_append_right _ _ (Nat.le_refl _), Nat.sub_self]
      rfl
    have e1 : P ++ [U] ++ A = P ++ U :: A := by rw [List.append_assoc]; rfl
    have e2 : P ++ [U] ++ B = P ++ U :: B := by rw [List.append_assoc]; rfl
    rw [List.length_append, e1] at i1 i2
    rw [e2] at i2
    show appE (P ++ T :: A) (diffT (P.length : Int) T U ++ diffS (P.length + 1) A B) = 0 ∧ appV (P ++ T :: A) (diffT (P.length : Int) T U ++ diffS (P.length + 1) A B) = _
    obtain ⟨a1, a2⟩ := app_append (m := diffS (P.length + 1) A B) d1
    rw [a1, a2, d2, hset]
    exact ⟨i1, i2⟩
end Go.Proofs.Yteccahggahpeeaa
namespace Go.Proofs.Yteccahggahpeeaa

/-- A cell: its table, its number, its text. -/
abbrev Cl15 := Int × Int × List UInt8
def rowC (t : Int) (T : Tb15) : List Cl15 := T.map fun r => (t, r.1, r.2)
def cellsF : Nat → St15 → List Cl15
  | _, [] => []
  | t, T :: S => rowC t T ++ cellsF (t + 1) S
def manyC (cs : List Cl15) (t : Int) : Nat := cs.countP fun c => c.1 == t
def ofC (cs : List Cl15) (t : Int) : List Cl15 := cs.filter fun c => c.1 == t
def isC (t id : Int) (c : Cl15) : Bool := c.1 == t && c.2.1 == id
def findC (cs : List Cl15) (t id : Int) : Option Nat := cs.findIdx? (isC t id)
def hasC (cs : List Cl15) (t id : Int) : Bool := cs.any (isC t id)
def textC : List Cl15 → Int → Int → List UInt8
  | [], _, _ => []
  | c :: cs, t, id => if isC t id c then c.2.2 else textC cs t id
def clAt (cs : List Cl15) (i : Nat) : Cl15 := cs.getD i (0, 0, [])
def goodC (cs : List Cl15) (i : Nat) : Prop := (1 ≤ (clAt cs i).2.1 ∧ (clAt cs i).2.1 ≤ 999999) ∧ (clAt cs i).2.2.length ≤ 200 ∧ (0 < i → (clAt cs (i - 1)).1 = (clAt cs i).1 → (clAt cs (i - 1)).2.1 < (clAt cs i).2.1)
instance (cs : List Cl15) (i : Nat) : Decidable (goodC cs i) := by unfold goodC; exact inferInstance
def fineC (n : Nat) (cs : List Cl15) : Prop := n ≤ 8 ∧ (∀ i, i < n → manyC cs i ≤ 60) ∧ ∀ i, i < cs.length → goodC cs i
instance (n : Nat) (cs : List Cl15) : Decidable (fineC n cs) := by unfold fineC; exact inferInstance
def checkC (n : Nat) (cs : List Cl15) : Int := if fineC n cs then 0 else 40

theorem cells_append (t : Nat) (S Q : St15) : cellsF t (S ++ Q) = cellsF t S ++ cellsF (t + S.length) Q := by
  induction S generalizing t with
  | nil => rfl
  | cons T S ih =>
    show rowC t T ++ cellsF (t + 1) (S ++ Q) = rowC t T ++ cellsF (t + 1) S ++ cellsF (t + (S.length + 1)) Q
    rw [ih, List.append_assoc, show t + 1 + S.length = t + (S.length + 1) by omega]
theorem row_tab {t : Int} {T : Tb15} {c : Cl15} (h : c ∈ rowC t T) : c.1 = t ∧ (c.2.1, c.2.2) ∈ T := by
  obtain ⟨r, hr, rfl⟩ := List.mem_map.1 h
  exact ⟨rfl, hr⟩
theorem cells_tab {t : Nat} {S : St15} {c : Cl15} (h : c ∈ cellsF t S) : (t : Int) ≤ c.1 ∧ c.1 < (t + S.length : Nat) := by
  induction S generalizing t with
  | nil => cases h
  | cons T S ih =>
    rcases List.mem_append.1 h with h | h
    · rw [(row_tab h).1, List.length_cons]; omega
    · have := ih h; rw [List.length_cons]; omega
theorem of_row (t u : Int) (T : Tb15) : ofC (rowC t T) u = if t = u then rowC t T else [] := by
  unfold ofC
  split
  · rename_i e
    exact List.filter_eq_self.2 fun c hc => by rw [(row_tab hc).1, e]; simp
  · rename_i e
    refine List.filter_eq_nil_iff.2 fun c hc => ?_
    rw [(row_tab hc).1]; simpa using e
/-- The cells of one table. -/
theorem of_cells {t : Nat} {S : St15} {u : Int} (h : (t : Int) ≤ u) : ofC (cellsF t S) u = rowC u (tab S (u - t)) := by
  induction S generalizing t with
  | nil =>
    unfold tab
    split <;> rfl
  | cons T S ih =>
    show ofC (rowC t T ++ cellsF (t + 1) S) u = _
    have hap : ofC (rowC t T ++ cellsF (t + 1) S) u = ofC (rowC t T) u ++ ofC (cellsF (t + 1) S) u := by unfold ofC; rw [List.filter_append]
    rw [hap, of_row]
    by_cases e : (t : Int) = u
    · rw [if_pos e]
      have h2 : ofC (cellsF (t + 1) S) u = [] := by
        unfold ofC
        refine List.filter_eq_nil_iff.2 fun c hc => ?_
        have := cells_tab hc
        simp only [beq_iff_eq]
        omega
      rw [h2, List.append_nil, ← e]
      unfold tab
      rw [if_pos (by omega), Int.sub_self]
      rfl
    · rw [if_neg e, List.nil_append, ih (by omega)]
      congr 1
      unfold tab
      rw [if_pos (by omega), if_pos (by omega), show (u - (t : Int)).toNat = (u - ((t + 1 : Nat) : Int)).toNat + 1 by omega]
      rfl
theorem of_cells0 (S : St15) {u : Int} (h : 0 ≤ u) : ofC (cellsF 0 S) u = rowC u (tab S u) := by
  have := of_cells (t := 0) (S := S) (u := u) (by omega)
  rw [this]
  congr 2
  omega
theorem tab_out {S : St15} {u : Int} (h : u < 0 ∨ (S.length : Int) ≤ u) : tab S u = [] := by
  unfold tab
  split
  · rw [List.getD_eq_getElem?_getD, List.getElem?_eq_none (by omega)]; rfl
  · rfl
theorem cells_out {S : St15} {u : Int} (h : u < 0 ∨ (S.length : Int) ≤ u) : ofC (cellsF 0 S) u = [] := by
  unfold ofC
  refine List.filter_eq_nil_iff.2 fun c hc => ?_
  have := cells_tab hc
  simp only [beq_iff_eq]
  omega
theorem of_tab (S : St15) (u : Int) : ofC (cellsF 0 S) u = rowC u (tab S u) := by
  by_cases h : 0 ≤ u
  · exact of_cells0 S h
  · rw [cells_out (Or.inl (by omega)), tab_out (Or.inl (by omega))]; rfl
theorem many_tab (S : St15) (u : Int) : manyC (cellsF 0 S) u = (tab S u).length := by
  have h : manyC (cellsF 0 S) u = (ofC (cellsF 0 S) u).length := by unfold manyC ofC; rw [List.countP_eq_length_filter]
  rw [h, of_tab]
  unfold rowC
  rw [List.length_map]
theorem has_of (cs : List Cl15) (t id : Int) : hasC cs t id = hasC (ofC cs t) t id := by
  unfold hasC ofC
  induction cs with
  | nil => rfl
  | cons c cs ih =>
    rw [List.any_cons, ih]
    by_cases e : c.1 = t
    · rw [List.filter_cons_of_pos (by simpa using e), List.any_cons]
    · rw [List.filter_cons_of_neg (by simpa using e)]
      unfold isC
      rw [show (c.1 == t) = false by simpa using e]
      rfl
theorem text_of (cs : List Cl15) (t id : Int) : textC cs t id = textC (ofC cs t) t id := by
  unfold ofC
  induction cs with
  | nil => rfl
  | cons c cs ih =>
    by_cases e : c.1 = t
    · rw [List.filter_cons_of_pos (by simpa using e)]
      unfold textC
      rw [ih]
    · rw [List.filter_cons_of_neg (by simpa using e), ← ih]
      have : isC t id c = false := by unfold isC; rw [show (c.1 == t) = false by simpa using e]; rfl
      conv => lhs; unfold textC
      rw [this]
      rfl
theorem has_row (t id : Int) (T : Tb15) : hasC (rowC t T) t id = hasT T id := by
  unfold hasC rowC hasT
  rw [List.any_map]
  congr 1
  funext r
  unfold isC
  simp
theorem text_row (t id : Int) (T : Tb15) : textC (rowC t T) t id = textT T id := by
  induction T with
  | nil => rfl
  | cons r T ih =>
    show (if isC t id (t, r.1, r.2) then r.2 else textC (rowC t T) t id) = _
    unfold textT
    rw [ih]
    unfold isC
    by_cases e : r.1 = id
    · rw [if_pos e, if_pos (by simpa using e)]
    · rw [if_neg e, if_neg (by simpa using e)]
theorem has_cells (S : St15) (t id : Int) : hasC (cellsF 0 S) t id = hasT (tab S t) id := by rw [has_of, of_tab, has_row]
theorem text_cells (S : St15) (t id : Int) : textC (cellsF 0 S) t id = textT (tab S t) id := by rw [text_of, of_tab, text_row]
theorem find_has (cs : List Cl15) (t id : Int) : (findC cs t id).isSome = hasC cs t id := by
  unfold findC hasC
  rw [List.findIdx?_isSome]
theorem findC_some {cs : List Cl15} {t id : Int} {i : Nat} (h : findC cs t id = some i) : i < cs.length ∧ isC t id (clAt cs i) = true ∧ (clAt cs i).2.2 = textC cs t id ∧ hasC cs t id = true := by
  have hh : hasC cs t id = true := by rw [← find_has, h]; rfl
  unfold findC at h
  rw [List.findIdx?_eq_some_iff_getElem] at h
  obtain ⟨h1, h2, h3⟩ := h
  have e : clAt cs i = cs[i] := by unfold clAt; rw [List.getD_eq_getElem?_getD, List.getElem?_eq_getElem h1]; rfl
  refine ⟨h1, by rw [e]; exact h2, ?_, hh⟩
  rw [e]
  clear e hh
  induction cs generalizing i with
  | nil => simp at h1
  | cons c cs ih =>
    cases i with
    | zero =>
      unfold textC
      rw [if_pos (by simpa using h2)]
      rfl
    | succ i =>
      have hc : ¬ isC t id c = true := by
        have := h3 0 (by omega)
        simpa using this
      unfold textC
      rw [if_neg hc]
      exact ih (by simpa using h1) (by simpa using h2) fun j hj => by
        have := h3 (j + 1) (by omega)
        simpa using this
theorem findC_none {cs : List Cl15} {t id : Int} (h : findC cs t id = none) : hasC cs t id = false ∧ ∀ i, i < cs.length → isC t id (clAt cs i) = false := by
  have hh : hasC cs t id = false := by rw [← find_has, h]; rfl
  refine ⟨hh, fun i hi => ?_⟩
  unfold findC at h
  rw [List.findIdx?_eq_none_iff] at h
  have e : clAt cs i = cs[i] := by unfold clAt; rw [List.getD_eq_getElem?_getD, List.getElem?_eq_getElem hi]; rfl
  rw [e]
  exact h _ (List.getElem_mem hi)

/-! May a store be? -/
theorem clAt_get {cs : List Cl15} {i : Nat} (h : i < cs.length) : cs[i]? = some (clAt cs i) := by
  unfold clAt; rw [List.getElem?_eq_getElem h, List.getD_eq_getElem?_getD, List.getElem?_eq_getElem h]; rfl
/-- Neighbours in one table rise: so the whole does. -/
theorem good_app {cs ds : List Cl15} (h : ∀ c ∈ cs, ∀ d ∈ ds, c.1 ≠ d.1) : (∀ i, i < (cs ++ ds).length → goodC (cs ++ ds) i) ↔ (∀ i, i < cs.length → goodC cs i) ∧ ∀ i, i < ds.length → goodC ds i := by
  have hl : ∀ i, i < cs.length → clAt (cs ++ ds) i = clAt cs i := fun i hi => by unfold clAt; rw [List.getD_eq_getElem?_getD, List.getElem?_append_left hi, List.getD_eq_getElem?_getD]
  have hr : ∀ i, clAt (cs ++ ds) (cs.length + i) = clAt ds i := fun i => by unfold clAt; rw [List.getD_eq_getElem?_getD, List.getElem?_append_right (by omega), List.getD_eq_getElem?_getD, Nat.add_sub_cancel_left]
  constructor
  · intro H
    refine ⟨fun i hi => ?_, fun i hi => ?_⟩
    · have := H i (by rw [List.length_append]; omega)
      unfold goodC at this ⊢
      rw [hl i hi] at this
      refine ⟨this.1, this.2.1, fun h0 => ?_⟩
      have h2 := this.2.2 h0
      rw [hl (i - 1) (by omega)] at h2
      exact h2
    · have := H (cs.length + i) (by rw [List.length_append]; omega)
      unfold goodC at this ⊢
      rw [hr i] at this
      refine ⟨this.1, this.2.1, fun h0 => ?_⟩
      have h2 := this.2.2 (by omega)
      rw [show cs.length + i - 1 = cs.length + (i - 1) by omega, hr (i - 1)] at h2
      exact h2
  · rintro ⟨H1, H2⟩ i hi
    rw [List.length_append] at hi
    by_cases q : i < cs.length
    · have := H1 i q
      unfold goodC at this ⊢
      rw [hl i q]
      refine ⟨this.1, this.2.1, fun h0 => ?_⟩
      rw [hl (i - 1) (by omega)]
      exact this.2.2 h0
    · obtain ⟨j, rfl⟩ : ∃ j, i = cs.length + j := ⟨i - cs.length, by omega⟩
      have := H2 j (by omega)
      unfold goodC at this ⊢
      rw [hr j]
      refine ⟨this.1, this.2.1, fun h0 e => ?_⟩
      by_cases hj : 0 < j
      · rw [show cs.length + j - 1 = cs.length + (j - 1) by omega, hr (j - 1)] at e ⊢
        exact this.2.2 hj e
      · obtain rfl : j = 0 := by omega
        rw [show cs.length + 0 - 1 = cs.length - 1 by omega, hl (cs.length - 1) (by omega)] at e
        have m1 : clAt cs (cs.length - 1) ∈ cs := List.mem_of_getElem? (clAt_get (by omega))
        have m2 : clAt ds 0 ∈ ds := List.mem_of_getElem? (clAt_get (by omega))
        exact absurd e (h _ m1 _ m2)
theorem good_row {t : Int} {T : Tb15} : (∀ i, i < (rowC t T).length → goodC (rowC t T) i) ↔ SrtT T ∧ (∀ r ∈ T, 1 ≤ r.1 ∧ r.1 ≤ 999999) ∧ ∀ r ∈ T, r.2.length ≤ 200 := by
  have hl : (rowC t T).length = T.length := by unfold rowC; rw [List.length_map]
  have hat : ∀ i, (h : i < T.length) → clAt (rowC t T) i = (t, T[i].1, T[i].2) := fun i h => by
    unfold clAt rowC
    rw [List.getD_eq_getElem?_getD, List.getElem?_map, List.getElem?_eq_getElem h]
    rfl
  rw [hl]
  constructor
  · intro H
    have hnext : ∀ i, (h : i + 1 < T.length) → T[i].1 < T[i + 1].1 := fun i h => by
      have := (H (i + 1) h).2.2 (by omega)
      rw [hat (i + 1) h, Nat.add_sub_cancel, hat i (by omega)] at this
      exact this rfl
    refine ⟨?_, fun r hr => ?_, fun r hr => ?_⟩
    · unfold SrtT
      rw [List.pairwise_iff_getElem]
      intro i j hi hj hij
      obtain ⟨d, rfl⟩ : ∃ d, j = i + 1 + d := ⟨j - i - 1, by omega⟩
      clear hij
      induction d with
      | zero => exact hnext i hj
      | succ d ih =>
        have h1 := ih (by omega)
        have h2 := hnext (i + 1 + d) (by omega)
        exact Int.lt_trans h1 h2
    · obtain ⟨i, hi, rfl⟩ := List.getElem_of_mem hr
      have := (H i hi).1
      rw [hat i hi] at this
      exact this
    · obtain ⟨i, hi, rfl⟩ := List.getElem_of_mem hr
      have := (H i hi).2.1
      rw [hat i hi] at this
      exact this
  · rintro ⟨h1, h2, h3⟩ i hi
    unfold goodC
    rw [hat i hi]
    refine ⟨h2 _ (List.getElem_mem hi), h3 _ (List.getElem_mem hi), fun h0 _ => ?_⟩
    rw [hat (i - 1) (by omega)]
    exact List.pairwise_iff_getElem.1 h1 (i - 1) i (by omega) hi (by omega)
theorem good_cells {t : Nat} {S : St15} : (∀ i, i < (cellsF t S).length → goodC (cellsF t S) i) ↔ ∀ T ∈ S, SrtT T ∧ (∀ r ∈ T, 1 ≤ r.1 ∧ r.1 ≤ 999999) ∧ ∀ r ∈ T, r.2.length ≤ 200 := by
  induction S generalizing t with
  | nil => exact ⟨fun _ T hT => (by cases hT), fun _ i hi => absurd hi (by simp [cellsF])⟩
  | cons T S ih =>
    show (∀ i, i < (rowC t T ++ cellsF (t + 1) S).length → goodC (rowC t T ++ cellsF (t + 1) S) i) ↔ _
    rw [good_app (fun c hc d hd => by have := (row_tab hc).1; have := cells_tab hd; omega), good_row, ih]
    constructor
    · rintro ⟨h1, h2⟩ U hU
      rcases List.mem_cons.1 hU with rfl | hU
      · exact h1
      · exact h2 U hU
    · intro h
      exact ⟨h T (List.mem_cons_self ..), fun U hU => h U (List.mem_cons_of_mem _ hU)⟩
theorem fine_cells (S : St15) : fineC S.length (cellsF 0 S) ↔ OkS S := by
  unfold fineC
  rw [good_cells]
  constructor
  · rintro ⟨h1, h2, h3⟩
    refine ⟨h1, fun T hT => ?_⟩
    obtain ⟨i, hi, rfl⟩ := List.getElem_of_mem hT
    have h4 := h2 i hi
    rw [many_tab] at h4
    have e : tab S (i : Int) = S[i] := by unfold tab; rw [if_pos (by omega), Int.toNat_natCast, List.getD_eq_getElem?_getD, List.getElem?_eq_getElem hi]; rfl
    rw [e] at h4
    obtain ⟨a, b, c⟩ := h3 _ hT
    exact ⟨h4, a, b, c⟩
  · intro h
    refine ⟨h.len, fun i hi => ?_, fun T hT => ⟨(h.tab T hT).srt, (h.tab T hT).ids, (h.tab T hT).txt⟩⟩
    rw [many_tab]
    exact (h.tab _ (tab_mem (t := (i : Int)) (by omega) (by omega)).1).len
def checkS (S : St15) : Int := checkC S.length (cellsF 0 S)
theorem checkS_ok {S : St15} : checkS S = 0 ↔ OkS S := by
  unfold checkS checkC
  rw [← fine_cells]
  split
  · rename_i h; exact ⟨fun _ => h, fun _ => rfl⟩
  · rename_i h; exact ⟨fun q => (by cases q), fun q => absurd q h⟩
theorem check_two15 (S : St15) : checkS S = 0 ∨ checkS S = 40 := by
  unfold checkS checkC
  split
  · exact Or.inl rfl
  · exact Or.inr rfl
end Go.Proofs.Yteccahggahpeeaa
namespace Go.Proofs.Yteccahggahpeeaa

def hitC (o : Op15) (c : Cl15) : Bool := c.1 == o.t && c.2.1 == o.id
def pastC (o : Op15) (c : Cl15) : Bool := decide (o.t < c.1) || (c.1 == o.t && decide (o.id < c.2.1))
/-- A change of cells; has the new one been put? -/
def doesC (o : Op15) : Bool → List Cl15 → List Cl15
  | p, [] => if o.k = 1 ∧ p = false then [(o.t, o.id, o.x)] else []
  | p, c :: cs => (if o.k = 1 ∧ p = false ∧ pastC o c = true then [(o.t, o.id, o.x)] else []) ++ (if hitC o c then (if o.k = 3 then [] else [(c.1, c.2.1, o.x)]) else [c]) ++ doesC o (p || (decide (o.k = 1) && pastC o c)) cs
theorem doesC_nil (o : Op15) (p : Bool) : doesC o p [] = if o.k = 1 ∧ p = false then [(o.t, o.id, o.x)] else [] := rfl
theorem doesC_cons (o : Op15) (p : Bool) (c : Cl15) (cs : List Cl15) : doesC o p (c :: cs) = (if o.k = 1 ∧ p = false ∧ pastC o c = true then [(o.t, o.id, o.x)] else []) ++ (if hitC o c then (if o.k = 3 then [] else [(c.1, c.2.1, o.x)]) else [c]) ++ doesC o (p || (decide (o.k = 1) && pastC o c)) cs := rfl
def wrongC (n : Nat) (cs : List Cl15) (o : Op15) : Int :=
  if o.k < 1 ∨ 3 < o.k then 30 else if o.t < 0 ∨ (n : Int) ≤ o.t then 2 else if o.id < 1 ∨ 999999 < o.id then 31 else if o.k < 3 ∧ 200 < o.x.length then 3
  else if o.k = 1 ∧ hasC cs o.t o.id = true then 32 else if o.k = 1 ∧ 60 ≤ manyC cs o.t then 37 else if 1 < o.k ∧ hasC cs o.t o.id = false then 31 else 0
theorem wrong_cells (S : St15) (o : Op15) : wrongC S.length (cellsF 0 S) o = wrongS S o := by
  unfold wrongC wrongS wrongT
  rw [has_cells, many_tab]
/-- Cells of tables ahead stay. -/
theorem does_low {o : Op15} {cs ds : List Cl15} {p : Bool} (h : ∀ c ∈ cs, c.1 < o.t) : doesC o p (cs ++ ds) = cs ++ doesC o p ds := by
  induction cs with
  | nil => rfl
  | cons c cs ih =>
    have h1 := h c (List.mem_cons_self ..)
    have hp : pastC o c = false := by
      unfold pastC
      rw [decide_eq_false (by omega), show (c.1 == o.t) = false from beq_eq_false_iff_ne.2 (by omega)]
      rfl
    have hh : hitC o c = false := by
      unfold hitC
      rw [show (c.1 == o.t) = false from beq_eq_false_iff_ne.2 (by omega)]
      rfl
    rw [List.cons_append]
    rw [doesC_cons, hp, hh, Bool.and_false, Bool.or_false, ih fun d hd => h d (List.mem_cons_of_mem _ hd)]
    simp
/-- Where nothing is put any more and nothing is hit, all stays. -/
theorem does_rest {o : Op15} {cs : List Cl15} {p : Bool} (h : o.k ≠ 1 ∨ p = true) (hh : ∀ c ∈ cs, hitC o c = false) : doesC o p cs = cs := by
  induction cs generalizing p with
  | nil =>
    have hn : ¬ (o.k = 1 ∧ p = false) := fun q => by
      rcases h with h | h
      · exact h q.1
      · rw [h] at q; cases q.2
    rw [doesC_nil, if_neg hn]
  | cons c cs ih =>
    have hn : ¬ (o.k = 1 ∧ p = false ∧ pastC o c = true) := fun q => by
      rcases h with h | h
      · exact h q.1
      · rw [h] at q; cases q.2.1
    have hp : o.k ≠ 1 ∨ (p || (decide (o.k = 1) && pastC o c)) = true := by
      rcases h with h | h
      · exact Or.inl h
      · exact Or.inr (by rw [h]; rfl)
    rw [doesC_cons, hh c (List.mem_cons_self ..), if_neg hn, ih hp fun d hd => hh d (List.mem_cons_of_mem _ hd)]
    simp
theorem hit_high {o : Op15} {c : Cl15} (h : o.t < c.1) : hitC o c = false := by
  unfold hitC
  rw [show (c.1 == o.t) = false from beq_eq_false_iff_ne.2 (by omega)]
  rfl
theorem hit_row {o : Op15} {r : Rec15} : hitC o (o.t, r.1, r.2) = (r.1 == o.id) := by unfold hitC; simp
theorem past_row {o : Op15} {r : Rec15} : pastC o (o.t, r.1, r.2) = decide (o.id < r.1) := by unfold pastC; simp
/-- The new one comes ahead of all that lies in later tables. -/
theorem does_high {o : Op15} (h1 : o.k = 1) {ds : List Cl15} (h : ∀ c ∈ ds, o.t < c.1) : doesC o false ds = (o.t, o.id, o.x) :: ds := by
  cases ds with
  | nil => rw [doesC_nil, if_pos ⟨h1, rfl⟩]
  | cons c ds =>
    have hc := h c (List.mem_cons_self ..)
    have hp : pastC o c = true := by unfold pastC; rw [decide_eq_true hc]; rfl
    have hr : doesC o (false || (true && true)) ds = ds := does_rest (Or.inr rfl) fun d hd => hit_high (h d (List.mem_cons_of_mem _ hd))
    rw [doesC_cons, if_pos ⟨h1, rfl, hp⟩, hit_high hc, hp, decide_eq_true h1, hr]
    simp
/-- In the change's own table. -/
theorem does_row {o : Op15} {T : Tb15} (hk : o.k = 1 ∨ o.k = 2 ∨ o.k = 3) (hn : o.k = 1 → ∀ r ∈ T, r.1 ≠ o.id) (hs : SrtT T) {ds : List Cl15} (h : ∀ c ∈ ds, o.t < c.1) : doesC o false (rowC o.t T ++ ds) = rowC o.t (doesT T o) ++ ds := by
  induction T with
  | nil =>
    show doesC o false ds = _
    unfold doesT
    rcases hk with e | e | e
    · rw [if_pos e, does_high e h]; rfl
    · rw [if_neg (by omega), if_pos e, does_rest (Or.inl (by omega)) fun c hc => hit_high (h c hc)]; rfl
    · rw [if_neg (by omega), if_neg (by omega), does_rest (Or.inl (by omega)) fun c hc => hit_high (h c hc)]; rfl
  | cons r T ih =>
    obtain ⟨q1, q2⟩ := List.pairwise_cons.1 hs
    have ih := ih (fun e r' hr' => hn e r' (List.mem_cons_of_mem _ hr')) q2
    show doesC o false ((o.t, r.1, r.2) :: (rowC o.t T ++ ds)) = _
    rcases hk with e | e | e
    · have hne := hn e r (List.mem_cons_self ..)
      rw [doesC_cons, hit_row, past_row, show (r.1 == o.id) = false from beq_eq_false_iff_ne.2 hne]
      by_cases hlt : o.id < r.1
      · rw [if_pos ⟨e, rfl, decide_eq_true hlt⟩, decide_eq_true hlt, decide_eq_true e]
        have hrest : doesC o (false || (true && true)) (rowC o.t T ++ ds) = rowC o.t T ++ ds := does_rest (Or.inr rfl) fun c hc => by
          rcases List.mem_append.1 hc with hc | hc
          · obtain ⟨r', hr', rfl⟩ := List.mem_map.1 hc
            rw [hit_row]
            have := q1 r' hr'
            exact beq_eq_false_iff_ne.2 (by omega)
          · exact hit_high (h c hc)
        rw [hrest]
        have e2 : doesT (r :: T) o = (o.id, o.x) :: r :: T := by
          unfold doesT
          rw [if_pos e]
          unfold insT
          rw [if_pos hlt]
        rw [e2]
        simp [rowC]
      · rw [if_neg (fun q => hlt (of_decide_eq_true q.2.2)), decide_eq_false hlt, Bool.and_false, Bool.or_false, ih]
        have e2 : doesT (r :: T) o = r :: doesT T o := by
          unfold doesT
          rw [if_pos e, if_pos e]
          conv => lhs; unfold insT
          rw [if_neg hlt]
        rw [e2]
        simp [rowC]
    · unfold doesC
      rw [hit_row, if_neg (fun q => by omega), decide_eq_false (by omega : ¬ o.k = 1), Bool.false_and, Bool.or_false, ih, if_neg (by omega : ¬ o.k = 3)]
      have e2 : doesT (r :: T) o = (if r.1 = o.id then (o.id, o.x) else r) :: doesT T o := by
        unfold doesT
        rw [if_neg (by omega : ¬ o.k = 1), if_pos e, if_neg (by omega : ¬ o.k = 1), if_pos e]
        rfl
      rw [e2]
      by_cases hq : r.1 = o.id
      · rw [if_pos hq, hq]; simp [rowC]
      · rw [if_neg hq, show (r.1 == o.id) = false from beq_eq_false_iff_ne.2 hq]; simp [rowC]
    · unfold doesC
      rw [hit_row, if_neg (fun q => by omega), decide_eq_false (by omega : ¬ o.k = 1), Bool.false_and, Bool.or_false, ih, if_pos e]
      have e2 : doesT (r :: T) o = if r.1 = o.id then doesT T o else r :: doesT T o := by
        unfold doesT
        rw [if_neg (by omega : ¬ o.k = 1), if_neg (by omega : ¬ o.k = 2), if_neg (by omega : ¬ o.k = 1), if_neg (by omega : ¬ o.k = 2)]
        unfold dropT
        by_cases hq : r.1 = o.id
        · rw [if_pos hq, List.filter_cons_of_neg (by simpa using hq)]
        · rw [if_neg hq, List.filter_cons_of_pos (by simpa using hq)]
      rw [e2]
      by_cases hq : r.1 = o.id
      · rw [if_pos hq, hq]; simp
      · rw [if_neg hq, show (r.1 == o.id) = false from beq_eq_false_iff_ne.2 hq]; simp [rowC]
theorem split_at {S : St15} {i : Nat} (h : i < S.length) : S = S.take i ++ S[i] :: S.drop (i + 1) := by
  rw [List.getElem_cons_drop, List.take_append_drop]
/-- A change of cells is that of tables. -/
theorem does_cells {S : St15} {o : Op15} (h : Fit15 S o) (hs : OkS S) : doesC o false (cellsF 0 S) = cellsF 0 (doesS S o) := by
  obtain ⟨i, hi⟩ : ∃ i : Nat, o.t = i := ⟨o.t.toNat, by have := h.tab0; omega⟩
  have hl : i < S.length := by have := h.tab1; omega
  have hT : tab S o.t = S[i] := by
    unfold tab
    rw [if_pos h.tab0, hi, Int.toNat_natCast, List.getD_eq_getElem?_getD, List.getElem?_eq_getElem hl]
    rfl
  have htk : (S.take i).length = i := by rw [List.length_take]; omega
  have hset : doesS S o = S.take i ++ doesT S[i] o :: S.drop (i + 1) := by
    unfold doesS
    rw [hT, hi, Int.toNat_natCast, List.set_eq_take_append_cons_drop, if_pos hl]
  have hok := hs.tab _ (List.getElem_mem hl)
  rw [hset]
  conv => lhs; rw [split_at hl]
  rw [cells_append, cells_append, htk]
  show doesC o false (cellsF 0 (S.take i) ++ (rowC ((0 + i : Nat) : Int) S[i] ++ cellsF (0 + i + 1) (S.drop (i + 1)))) = cellsF 0 (S.take i) ++ (rowC ((0 + i : Nat) : Int) (doesT S[i] o) ++ cellsF (0 + i + 1) (S.drop (i + 1)))
  rw [show ((0 + i : Nat) : Int) = o.t by rw [hi]; omega, does_low fun c hc => by have := cells_tab hc; rw [htk] at this; omega, does_row h.kind (fun e r hr => by
    have := (h.new e).1
    rw [hT] at this
    exact has_not.1 this r hr) hok.srt fun c hc => by have := cells_tab hc; omega]

/-! Batches. -/
def appEC (n : Nat) : List Cl15 → List Op15 → Int
  | _, [] => 0
  | cs, o :: l => if wrongC n cs o ≠ 0 then wrongC n cs o else appEC n (doesC o false cs) l
def appNC (n : Nat) : List Cl15 → List Op15 → Nat
  | _, [] => 0
  | cs, o :: l => if wrongC n cs o ≠ 0 then 0 else appNC n (doesC o false cs) l + 1
def appVC : List Cl15 → List Op15 → List Cl15
  | cs, [] => cs
  | cs, o :: l => appVC (doesC o false cs) l
theorem app_cells {S : St15} (hs : OkS S) (l : List Op15) : appEC S.length (cellsF 0 S) l = appE S l ∧ appNC S.length (cellsF 0 S) l = appN S l ∧ (appE S l = 0 → appVC (cellsF 0 S) l = cellsF 0 (appV S l) ∧ (appV S l).length = S.length) := by
  induction l generalizing S with
  | nil => exact ⟨rfl, rfl, fun _ => ⟨rfl, rfl⟩⟩
  | cons o l ih =>
    unfold appEC appNC
    rw [wrong_cells, appE_cons, appN_cons]
    by_cases hw : wrongS S o = 0
    · have hf := wrong_iff.1 hw
      obtain ⟨i1, i2, i3⟩ := ih (ok_does hf hs)
      rw [if_neg (by simpa using hw), if_neg (by simpa using hw), if_neg (by simpa using hw), if_neg (by simpa using hw), does_cells hf hs]
      rw [len_does] at i1 i2 i3
      refine ⟨i1, by rw [i2], fun h => ?_⟩
      obtain ⟨j1, j2⟩ := i3 h
      show appVC (doesC o false (cellsF 0 S)) l = _ ∧ _
      rw [does_cells hf hs]
      exact ⟨j1, j2⟩
    · rw [if_pos hw, if_pos hw, if_pos hw, if_pos hw]
      exact ⟨rfl, rfl, fun h => absurd h hw⟩
def getVC (n : Nat) (cs : List Cl15) (t id : Int) : List UInt8 := if fineC n cs ∧ hasC cs t id = true then textC cs t id else []
def getBC (n : Nat) (cs : List Cl15) (t id : Int) : Bool := decide (fineC n cs ∧ hasC cs t id = true)
def getV15 (S : St15) (t id : Int) : List UInt8 := if checkS S = 0 ∧ hasT (tab S t) id = true then textT (tab S t) id else []
def getB15 (S : St15) (t id : Int) : Bool := decide (checkS S = 0 ∧ hasT (tab S t) id = true)
theorem get_cells (S : St15) (t id : Int) : getVC S.length (cellsF 0 S) t id = getV15 S t id ∧ getBC S.length (cellsF 0 S) t id = getB15 S t id := by
  unfold getVC getBC getV15 getB15
  rw [has_cells, text_cells]
  have e : fineC S.length (cellsF 0 S) ↔ checkS S = 0 := by rw [fine_cells, checkS_ok]
  refine ⟨?_, ?_⟩
  · by_cases h : checkS S = 0 ∧ hasT (tab S t) id = true
    · rw [if_pos h, if_pos ⟨e.2 h.1, h.2⟩]
    · rw [if_neg h, if_neg fun q => h ⟨e.1 q.1, q.2⟩]
  · by_cases h : checkS S = 0 ∧ hasT (tab S t) id = true
    · rw [decide_eq_true h, decide_eq_true (⟨e.2 h.1, h.2⟩ : fineC S.length (cellsF 0 S) ∧ hasT (tab S t) id = true)]
    · rw [decide_eq_false h, decide_eq_false (fun q : fineC S.length (cellsF 0 S) ∧ hasT (tab S t) id = true => h ⟨e.1 q.1, q.2⟩)]
def backC (n : Nat) (cs : List Cl15) (o : Op15) : Op15 := if o.k = 3 then ⟨o.t, 1, o.id, getVC n cs o.t o.id⟩ else if o.k = 2 then ⟨o.t, 2, o.id, getVC n cs o.t o.id⟩ else ⟨o.t, 3, o.id, []⟩
def undoC (n : Nat) : List Cl15 → List Op15 → List Op15 → List Op15
  | _, [], out => out
  | cs, o :: l, out => undoC n (doesC o false cs) l (backC n cs o :: out)
theorem back_cells {S : St15} (hs : OkS S) {o : Op15} (h : Fit15 S o) : backC S.length (cellsF 0 S) o = backO S o := by
  unfold backC backO
  rw [(get_cells S o.t o.id).1]
  rcases h.kind with e | e | e
  · rw [if_neg (by omega), if_neg (by omega), if_pos e]
  · rw [if_neg (by omega), if_pos e, if_neg (by omega), if_pos e]
    unfold getV15
    rw [if_pos ⟨checkS_ok.2 hs, h.old (by omega)⟩]
  · rw [if_pos e, if_neg (by omega), if_neg (by omega)]
    unfold getV15
    rw [if_pos ⟨checkS_ok.2 hs, h.old (by omega)⟩]
theorem undo_cells {S : St15} (hs : OkS S) {l : List Op15} (h : appE S l = 0) (out : List Op15) : undoC S.length (cellsF 0 S) l out = undoL S l ++ out := by
  induction l generalizing S out with
  | nil => rfl
  | cons o l ih =>
    obtain ⟨h1, h2⟩ := app_cons.1 h
    show undoC S.length (doesC o false (cellsF 0 S)) l (backC S.length (cellsF 0 S) o :: out) = undoL (doesS S o) l ++ [backO S o] ++ out
    have := ih (ok_does h1 hs) h2 (backO S o :: out)
    rw [len_does] at this
    rw [does_cells h1 hs, back_cells hs h1, this, List.append_assoc]
    rfl

/-! The changes between two stores. -/
def goneC (t : Int) (a b : List Cl15) : List Op15 := (a.filter fun c => c.1 == t && !(hasC b t c.2.1)).map fun c => ⟨t, 3, c.2.1, []⟩
def oneC (t : Int) (a : List Cl15) (c : Cl15) : List Op15 := if c.1 = t then (if hasC a t c.2.1 = false then [⟨t, 1, c.2.1, c.2.2⟩] else if textC a t c.2.1 = c.2.2 then [] else [⟨t, 2, c.2.1, c.2.2⟩]) else []
def newC (t : Int) (a b : List Cl15) : List Op15 := b.flatMap (oneC t a)
def diffC (n : Nat) (a b : List Cl15) : List Op15 := (List.range n).flatMap fun t : Nat => goneC (t : Int) a b ++ newC (t : Int) a b
theorem gone_cells (t : Int) (A B : St15) : goneC t (cellsF 0 A) (cellsF 0 B) = goneT t (tab A t) (tab B t) := by
  unfold goneC goneT
  have h1 : ((cellsF 0 A).filter fun c => c.1 == t && !(hasC (cellsF 0 B) t c.2.1)) = (ofC (cellsF 0 A) t).filter fun c => !(hasT (tab B t) c.2.1) := by
    unfold ofC
    rw [List.filter_filter]
    refine List.filter_congr fun c _ => ?_
    rw [has_cells, Bool.and_comm]
  rw [h1, of_tab]
  unfold rowC
  rw [List.filter_map, List.map_map]
  rfl
theorem new_cells (t : Int) (A B : St15) : newC t (cellsF 0 A) (cellsF 0 B) = newT t (tab A t) (tab B t) := by
  have h1 : ∀ cs : List Cl15, cs.flatMap (oneC t (cellsF 0 A)) = (ofC cs t).flatMap (oneC t (cellsF 0 A)) := fun cs => by
    induction cs with
    | nil => rfl
    | cons c cs ih =>
      unfold ofC at ih ⊢
      rw [List.flatMap_cons, ih]
      by_cases e : c.1 = t
      · rw [List.filter_cons_of_pos (by simpa using e), List.flatMap_cons]
      · rw [List.filter_cons_of_neg (by simpa using e)]
        unfold oneC
        rw [if_neg e]
        rfl
  unfold newC newT
  rw [h1, of_tab]
  unfold rowC
  rw [List.flatMap_map]
  congr 1
  funext r
  unfold oneC oneT
  rw [if_pos rfl, has_cells, text_cells]
theorem tab_at {S : St15} {i : Nat} (h : i < S.length) : tab S (i : Int) = S[i] := by
  unfold tab
  rw [if_pos (by omega), Int.toNat_natCast, List.getD_eq_getElem?_getD, List.getElem?_eq_getElem h]
  rfl
theorem diff_range {A B : St15} (h : A.length = B.length) : ∀ (m t : Nat), t + m = A.length → diffS t (A.drop t) (B.drop t) = (List.range' t m).flatMap fun i : Nat => diffT (i : Int) (tab A i) (tab B i)
  | 0, t, e => by
    rw [List.drop_of_length_le (by omega)]
    unfold diffS
    rfl
  | m + 1, t, e => by
    have hA : t < A.length := by omega
    have hB : t < B.length := by omega
    rw [List.drop_eq_getElem_cons hA, List.drop_eq_getElem_cons hB, List.range'_succ, List.flatMap_cons, tab_at hA, tab_at hB]
    show diffT (t : Int) A[t] B[t] ++ diffS (t + 1) (A.drop (t + 1)) (B.drop (t + 1)) = _
    rw [diff_range h m (t + 1) (by omega)]
theorem diff_cells {A B : St15} (h : A.length = B.length) : diffC A.length (cellsF 0 A) (cellsF 0 B) = diffS 0 A B := by
  have := diff_range h A.length 0 (by omega)
  rw [List.drop_zero, List.drop_zero] at this
  rw [this]
  unfold diffC
  rw [List.range_eq_range']
  congr 1
  funext i
  rw [gone_cells, new_cells]
  rfl
def diffE (A B : St15) : Int := if checkS A ≠ 0 ∨ checkS B ≠ 0 then 40 else if A.length ≠ B.length then 2 else 0
def diffV (A B : St15) : List Op15 := if diffE A B = 0 then diffS 0 A B else []
end Go.Proofs.Yteccahggahpeeaa
