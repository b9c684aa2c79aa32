/- What is safe of the loose sectors, as it lies in the program's map: the map's keys are the loose sectors, each with its safe bytes. -/
import Derived.Test.YtocengdojdeiiaaRow8
import Derived.Maps.OwnSet
import Derived.Maps.Ext
import Derived.Lib.SlKeysI
namespace Go.Proofs.Ytocengdojdeiiaa
open Go.RowKit Go.Maps

/-- An element of the map, as it is. -/
def tokR : Value → Option (DataW Value × List MemPlace) := fun v => some (.held v, [])
def bytesV (t : ByteArray) : List Value := t.data.toList.map fun c => .int .u8 c.toNat
def arrV (t : ByteArray) : Value := .agg ⟨bytesV t⟩
/-- The map D holds just what is safe of the loose ones among the sectors l. -/
structure Keeps (D : DataW Value) (l : List Sec) : Prop where
  has : ∀ kl, Maps.has D kl = true ↔ ∃ k : Nat, k < l.length ∧ (l.getD k sec0).loose = true ∧ kl = .int .i64 k
  val : ∀ k, k < l.length → (l.getD k sec0).loose = true → ∀ z, D.atKey (.int .i64 (k : Nat)) z = .held (arrV (l.getD k sec0).safe)
/-- What is not loose is safe. -/
def Calm (l : List Sec) : Prop := ∀ c ∈ l, c.loose = false → c.now = c.safe
theorem getD_set {l : List Sec} {k j : Nat} {c : Sec} (hk : k < l.length) : (l.set k c).getD j sec0 = if j = k then c else l.getD j sec0 := by
  rw [List.getD_eq_getElem?_getD, List.getD_eq_getElem?_getD, List.getElem?_set]
  by_cases e : k = j
  · subst e; simp [hk]
  · rw [if_neg e, if_neg (fun h => e h.symm)]
theorem key_inj {a b : Nat} (h : Lit.int .i64 (a : Int) = Lit.int .i64 (b : Int)) : a = b := by
  injection h with _ h; omega
theorem isKey (k : Nat) : WideAt.IsKeyLit (.int .i64 (k : Int)) := trivial
theorem Keeps.empty {l : List Sec} (h : ∀ c ∈ l, c.loose = false) : Keeps (.map []) l := by
  have h' : ∀ k, k < l.length → (l.getD k sec0).loose = false := fun k hk => by
    rw [List.getD_eq_getElem?_getD, List.getElem?_eq_getElem hk]; exact h _ (List.getElem_mem hk)
  refine ⟨fun kl => ⟨fun hh => by simp [Maps.has] at hh, ?_⟩, fun k hk hl => by rw [h' k hk] at hl; cases hl⟩
  rintro ⟨k, hk, hl, _⟩
  rw [h' k hk] at hl; cases hl
/-- A sector becomes loose: what was safe is laid into the map. -/
theorem Keeps.put {D : DataW Value} {l : List Sec} (h : Keeps D l) (hm : IsMap D) {k : Nat} (hk : k < l.length) (c : Sec) (hc : c.loose = true) : Keeps (D.put (.int .i64 k) (.held (arrV c.safe))) (l.set k c) := by
  refine ⟨fun kl => ?_, fun j hj hl z => ?_⟩
  · by_cases e : kl = .int .i64 k
    · subst e
      rw [has_put_same hm (isKey k)]
      exact ⟨fun _ => ⟨k, by simpa using hk, by rw [getD_set hk, if_pos rfl]; exact hc, rfl⟩, fun _ => rfl⟩
    · rw [has_put_other e, h.has kl]
      refine ⟨?_, ?_⟩
      · rintro ⟨j, hj, hl, rfl⟩
        exact ⟨j, by simpa using hj, by rw [getD_set hk, if_neg (fun x => e (by rw [x]))]; exact hl, rfl⟩
      · rintro ⟨j, hj, hl, rfl⟩
        rw [getD_set hk, if_neg (fun x => e (by rw [x]))] at hl
        exact ⟨j, by simpa using hj, hl, rfl⟩
  · rw [getD_set hk] at hl ⊢
    by_cases e : j = k
    · subst e
      rw [if_pos rfl, atKey_put_same hm (isKey j)]
    · rw [if_neg e] at hl ⊢
      rw [atKey_put_other (fun x => e (key_inj x))]
      exact h.val j (by simpa using hj) hl z
/-- A loose sector is written again. -/
theorem Keeps.again {D : DataW Value} {l : List Sec} (h : Keeps D l) {k : Nat} (hk : k < l.length) (hl : (l.getD k sec0).loose = true) (c : Sec) (hc : c.loose = true) (hs : c.safe = (l.getD k sec0).safe) : Keeps D (l.set k c) := by
  refine ⟨fun kl => ?_, fun j hj hj' z => ?_⟩
  · rw [h.has kl]
    refine ⟨?_, ?_⟩
    · rintro ⟨j, hj, hjl, rfl⟩
      exact ⟨j, by simpa using hj, by rw [getD_set hk]; split; exact hc; exact hjl, rfl⟩
    · rintro ⟨j, hj, hjl, rfl⟩
      refine ⟨j, by simpa using hj, ?_, rfl⟩
      rw [getD_set hk] at hjl
      by_cases e : j = k
      · rw [e]; exact hl
      · rw [if_neg e] at hjl; exact hjl
  · rw [getD_set hk] at hj' ⊢
    by_cases e : j = k
    · subst e
      rw [if_pos rfl, hs]; exact h.val j hk hl z
    · rw [if_neg e] at hj' ⊢
      exact h.val j (by simpa using hj) hj' z
/-- A sector is loose no more. -/
theorem Keeps.del {D : DataW Value} {l : List Sec} (h : Keeps D l) {k : Nat} (hk : k < l.length) (c : Sec) (hc : c.loose = false) : Keeps (D.del (.int .i64 k)) (l.set k c) := by
  refine ⟨fun kl => ?_, fun j hj hj' z => ?_⟩
  · by_cases e : kl = .int .i64 k
    · subst e
      rw [has_del_same]
      refine Iff.intro (fun x => absurd x (by decide)) ?_
      rintro ⟨j, hj, hjl, he⟩
      have := key_inj he
      subst this
      rw [getD_set hk, if_pos rfl, hc] at hjl; cases hjl
    · rw [has_del_other e, h.has kl]
      refine ⟨?_, ?_⟩
      · rintro ⟨j, hj, hl, rfl⟩
        exact ⟨j, by simpa using hj, by rw [getD_set hk, if_neg (fun x => e (by rw [x]))]; exact hl, rfl⟩
      · rintro ⟨j, hj, hl, rfl⟩
        rw [getD_set hk, if_neg (fun x => e (by rw [x]))] at hl
        exact ⟨j, by simpa using hj, hl, rfl⟩
  · rw [getD_set hk] at hj' ⊢
    by_cases e : j = k
    · rw [if_pos e, hc] at hj'; cases hj'
    · rw [if_neg e] at hj' ⊢
      rw [atKey_del_other (fun x => e (key_inj x))]
      exact h.val j (by simpa using hj) hj' z
/-- The numbers of the loose sectors, rising. -/
def looseN (l : List Sec) : List Nat := (List.range l.length).filter fun k => (l.getD k sec0).loose
def looseI (l : List Sec) : List Int := (looseN l).map fun (k : Nat) => (k : Int)
theorem looseI_mem (l : List Sec) (x : Int) : x ∈ looseI l ↔ ∃ k : Nat, k < l.length ∧ (l.getD k sec0).loose = true ∧ x = k := by
  unfold looseI looseN
  simp only [List.mem_map, List.mem_filter, List.mem_range]
  constructor
  · rintro ⟨k, ⟨h1, h2⟩, rfl⟩; exact ⟨k, h1, h2, rfl⟩
  · rintro ⟨k, h1, h2, rfl⟩; exact ⟨k, ⟨h1, h2⟩, rfl⟩
theorem looseN_rises (l : List Sec) : (looseN l).Pairwise (· < ·) := List.Pairwise.filter _ List.pairwise_lt_range
theorem looseI_rises (l : List Sec) : (looseI l).Pairwise (· < ·) := by
  unfold looseI
  rw [List.pairwise_map]
  exact (looseN_rises l).imp (fun h => by omega)
theorem looseI_len (l : List Sec) : (looseI l).length ≤ l.length := by
  unfold looseI looseN
  rw [List.length_map]
  have := List.length_filter_le (fun k => (l.getD k sec0).loose) (List.range l.length)
  rwa [List.length_range] at this
theorem Keeps.perm {D : DataW Value} {l : List Sec} (h : Keeps D l) (ht : Canon D) : (looseI l).Perm (intKeys D) := by
  obtain ⟨es, rfl, hp, hk⟩ := ht
  refine perm_intKeys (apart_of_rising hp) (fun p hp' => ?_) ((looseI_rises l).imp (fun h e => by omega)) (fun x => ?_)
  · obtain ⟨k, _, _, e⟩ := (h.has p.1).1 (List.any_eq_true.2 ⟨p, hp', WideAt.sameKey_self (hk p hp')⟩)
    exact ⟨k, e⟩
  · rw [looseI_mem, h.has]
    constructor
    · rintro ⟨k, h1, h2, rfl⟩; exact ⟨k, h1, h2, rfl⟩
    · rintro ⟨k, h1, h2, h3⟩; exact ⟨k, h1, h2, by injection h3⟩
theorem sorted_loose (l : List Sec) {D : DataW Value} (h : Keeps D l) (ht : Canon D) {ss : List Int} (hs : ss.Perm (intKeys D)) : ss.mergeSort (fun x y => decide (x ≤ y)) = looseI l := by
  have hp : ss.Perm (looseI l) := hs.trans (h.perm ht).symm
  have h1 : (ss.mergeSort (fun x y => decide (x ≤ y))).Pairwise (fun x y : Int => x ≤ y) := by
    have := List.pairwise_mergeSort (le := fun x y : Int => decide (x ≤ y)) (by intro a b c; simp; omega) (by intro a b; simp; omega) ss
    exact this.imp (fun h => by simpa using h)
  refine List.Perm.eq_of_pairwise (le := fun x y : Int => x ≤ y) ?_ h1 ((looseI_rises l).imp (fun h => by omega)) ((List.mergeSort_perm ss _).trans hp)
  intro a b _ _ h1 h2
  omega
theorem keeps_size (l : List Sec) {D : DataW Value} (h : Keeps D l) (ht : Canon D) : Maps.size D = (looseI l).length := by
  have := (h.perm ht).length_eq
  obtain ⟨es, rfl, hp, _⟩ := ht
  rw [this]
  simp [Maps.size, intKeys]
/-- A map counts no more than it has. -/
theorem own_tight {w : World} {m n : Nat} {D : DataW Value} {k : TypeId} (h : w.ownsMap Try.prog k tokR m n D) : w.ownsMap Try.prog k tokR m (Maps.size D) D := by
  obtain ⟨es, clock, hb, F, _, rfl⟩ := h
  refine ⟨es, clock, hb, F, ?_, rfl⟩
  simp [Maps.size, length_sorted]
end Go.Proofs.Ytocengdojdeiiaa
