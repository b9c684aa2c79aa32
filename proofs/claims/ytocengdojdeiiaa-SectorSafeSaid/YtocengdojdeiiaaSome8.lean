/- Loose sectors settled one after the other, in plain words. -/
import Derived.Test.YtocengdojdeiiaaMap8
namespace Go.Proofs.Ytocengdojdeiiaa
open Go.RowKit

theorem loose_count (l : List Sec) (k : Nat) (hk : k ≤ l.length) : looseTo l k = ((List.range k).filter fun i => (l.getD i sec0).loose).length := by
  induction k with
  | zero => unfold looseTo; simp
  | succ k ih =>
    rw [loose_more l k (by omega), ih (by omega), List.range_succ, List.filter_append, List.length_append]
    congr 1
    have e : (l.getD k sec0) = l[k] := by rw [List.getD_eq_getElem?_getD, List.getElem?_eq_getElem (by omega)]; rfl
    by_cases h : l[k].loose = true
    · rw [if_pos h, List.filter_cons, if_pos (by rw [e]; exact h)]; rfl
    · rw [if_neg h, List.filter_cons, if_neg (by rw [e]; exact h)]; rfl
theorem looseN_split (l : List Sec) (k : Nat) (hk : k < l.length) (hl : (l.getD k sec0).loose = true) : ∃ r, looseN l = ((List.range k).filter fun i => (l.getD i sec0).loose) ++ k :: r := by
  have e : List.range l.length = List.range k ++ (k :: (List.range (l.length - k - 1)).map (k + 1 + ·)) := by
    have h1 : l.length = k + (1 + (l.length - k - 1)) := by omega
    conv => lhs; rw [h1, List.range_add]
    congr 1
    rw [List.range_add, List.map_append]
    simp [List.range_succ]
    omega
  refine ⟨((List.range (l.length - k - 1)).map (k + 1 + ·)).filter fun i => (l.getD i sec0).loose, ?_⟩
  unfold looseN
  rw [e, List.filter_append, List.filter_cons, if_pos hl]
/-- The loose sector of a number stands at its place. -/
theorem looseN_at (l : List Sec) (k : Nat) (hk : k < l.length) (hl : (l.getD k sec0).loose = true) : (looseN l)[looseTo l k]? = some k := by
  obtain ⟨r, hr⟩ := looseN_split l k hk hl
  rw [loose_count l k (by omega), hr, List.getElem?_append_right (Nat.le_refl _), Nat.sub_self]; rfl
theorem looseN_get (l : List Sec) (i k : Nat) (h : (looseN l)[i]? = some k) : k < l.length ∧ (l.getD k sec0).loose = true ∧ looseTo l k = i := by
  have hm : k ∈ looseN l := List.mem_of_getElem? h
  unfold looseN at hm
  rw [List.mem_filter, List.mem_range] at hm
  have h2 := looseN_at l k hm.1 hm.2
  obtain ⟨h3, h4⟩ := List.getElem?_eq_some_iff.1 h
  obtain ⟨h5, h6⟩ := List.getElem?_eq_some_iff.1 h2
  refine ⟨hm.1, hm.2, ?_⟩
  have hp := List.pairwise_iff_getElem.1 (looseN_rises l)
  by_cases e : looseTo l k = i
  · exact e
  · rcases Nat.lt_or_gt_of_ne e with g | g
    · have := hp _ _ h5 h3 g; omega
    · have := hp _ _ h3 h5 g; omega
/-- The sectors behind the first i loose ones settled, f telling what is left. -/
def settled (l : List Sec) (f : Nat → Sec → ByteArray) (i : Nat) : List Sec := l.mapIdx fun k c => if c.loose = true ∧ looseTo l k < i then ⟨f (looseTo l k) c, f (looseTo l k) c, false⟩ else c
theorem settled_len (l : List Sec) (f : Nat → Sec → ByteArray) (i : Nat) : (settled l f i).length = l.length := by simp [settled]
theorem settled_none (l : List Sec) (f : Nat → Sec → ByteArray) : settled l f 0 = l := by
  refine List.ext_getElem (by simp [settled]) fun k h1 h2 => ?_
  simp [settled]
theorem settled_at (l : List Sec) (f : Nat → Sec → ByteArray) (i k : Nat) (hk : k < l.length) : (settled l f i).getD k sec0 = if (l.getD k sec0).loose = true ∧ looseTo l k < i then ⟨f (looseTo l k) (l.getD k sec0), f (looseTo l k) (l.getD k sec0), false⟩ else l.getD k sec0 := by
  have e : (l.getD k sec0) = l[k] := by rw [List.getD_eq_getElem?_getD, List.getElem?_eq_getElem hk]; rfl
  rw [e, List.getD_eq_getElem?_getD, List.getElem?_eq_getElem (by rw [settled_len]; exact hk)]
  simp only [settled, List.getElem_mapIdx, Option.getD_some]
theorem settled_more (l : List Sec) (f : Nat → Sec → ByteArray) (i k : Nat) (h : (looseN l)[i]? = some k) : settled l f (i + 1) = (settled l f i).set k ⟨f i (l.getD k sec0), f i (l.getD k sec0), false⟩ := by
  obtain ⟨h1, h2, h3⟩ := looseN_get l i k h
  have e : (l.getD k sec0) = l[k] := by rw [List.getD_eq_getElem?_getD, List.getElem?_eq_getElem h1]; rfl
  refine List.ext_getElem (by simp [settled]) fun j q1 q2 => ?_
  have hj : j < l.length := by rw [settled_len] at q1; exact q1
  rw [List.getElem_set]
  simp only [settled, List.getElem_mapIdx]
  rw [e] at h2
  by_cases g : k = j
  · subst g
    rw [if_pos rfl, if_pos ⟨h2, by omega⟩, h3, e]
  · rw [if_neg g]
    by_cases g2 : l[j].loose = true ∧ looseTo l j < i
    · rw [if_pos g2, if_pos ⟨g2.1, by omega⟩]
    · rw [if_neg g2]
      by_cases g3 : l[j].loose = true ∧ looseTo l j < i + 1
      · exfalso
        have ej : (l.getD j sec0).loose = true := by rw [List.getD_eq_getElem?_getD, List.getElem?_eq_getElem hj]; exact g3.1
        have h4 : looseTo l j = i := by
          by_cases x : looseTo l j < i
          · exact absurd ⟨g3.1, x⟩ g2
          · omega
        have h5 := looseN_at l j hj ej
        rw [h4, h] at h5
        injection h5 with h5; omega
      · rw [if_neg g3]
theorem settled_fit {l : List Sec} (h : ∀ c ∈ l, c.now.size = 64 ∧ c.safe.size = 64) (f : Nat → Sec → ByteArray) (hf : ∀ i c, c.now.size = 64 ∧ c.safe.size = 64 → (f i c).size = 64) (i : Nat) : ∀ c ∈ settled l f i, c.now.size = 64 ∧ c.safe.size = 64 := by
  intro c hc
  obtain ⟨k, hk, rfl⟩ := List.getElem_of_mem hc
  have hk' : k < l.length := by rw [settled_len] at hk; exact hk
  simp only [settled, List.getElem_mapIdx]
  split
  · exact ⟨hf _ _ (h _ (List.getElem_mem hk')), hf _ _ (h _ (List.getElem_mem hk'))⟩
  · exact h _ (List.getElem_mem hk')
theorem settled_calm {l : List Sec} (h : Calm l) (f : Nat → Sec → ByteArray) (i : Nat) : Calm (settled l f i) := by
  intro c hc
  obtain ⟨k, hk, rfl⟩ := List.getElem_of_mem hc
  have hk' : k < l.length := by rw [settled_len] at hk; exact hk
  simp only [settled, List.getElem_mapIdx]
  split
  · intro _; rfl
  · exact h _ (List.getElem_mem hk')
theorem loose_lt (l : List Sec) (k : Nat) (hk : k < l.length) (hl : (l.getD k sec0).loose = true) : looseTo l k < (looseN l).length := (List.getElem?_eq_some_iff.1 (looseN_at l k hk hl)).1
theorem settled_all (l : List Sec) (f : Nat → Sec → ByteArray) : settled l f (looseN l).length = l.mapIdx fun k c => if c.loose = true then ⟨f (looseTo l k) c, f (looseTo l k) c, false⟩ else c := by
  refine List.ext_getElem (by simp [settled]) fun k h1 h2 => ?_
  have hk : k < l.length := by rw [settled_len] at h1; exact h1
  simp only [settled, List.getElem_mapIdx]
  by_cases g : l[k].loose = true
  · rw [if_pos g, if_pos ⟨g, loose_lt l k hk (by rw [List.getD_eq_getElem?_getD, List.getElem?_eq_getElem hk]; exact g)⟩]
  · rw [if_neg g, if_neg (fun h => g h.1)]
theorem settled_flush {l : List Sec} (h : Calm l) : settled l (fun _ c => c.now) (looseN l).length = flushed l := by
  rw [settled_all]
  refine List.ext_getElem (by simp [flushed]) fun k h1 h2 => ?_
  have hk : k < l.length := by simpa using h1
  simp only [flushed, List.getElem_mapIdx, List.getElem_map]
  by_cases g : l[k].loose = true
  · rw [if_pos g]
  · rw [if_neg g]
    have g' : l[k].loose = false := by cases e : l[k].loose with | true => exact absurd e g | false => rfl
    have := h _ (List.getElem_mem hk) g'
    cases hc : l[k] with
    | mk n s lo => rw [hc] at this g'; simp only at this g'; rw [g', this]
theorem settled_boot (l : List Sec) (keep : List Bool) (torn cut : Int) : settled l (fun i c => leftOf c i keep torn cut) (looseN l).length = booted l keep torn cut l.length := by
  rw [settled_all]
  refine List.ext_getElem (by simp [booted]) fun k h1 h2 => ?_
  have hk : k < l.length := by simpa using h1
  simp only [booted, List.getElem_mapIdx]
  by_cases g : l[k].loose = true
  · rw [if_pos g, if_pos ⟨hk, g⟩]
  · rw [if_neg g, if_neg (fun h => g h.2)]
end Go.Proofs.Ytocengdojdeiiaa
