/- A device of ten sectors in plain words: written, flushed, off and on again. -/
import Derived.Test.YtocengdojdeiiaaPlay8
namespace Go.Proofs.Ytocengdojdeiiaa

def ten (f : Nat → Sec) (o : Int) (z : Bool) : Dv := ⟨(List.range 10).map f, o, 0, z⟩
theorem ten_len (f : Nat → Sec) (o : Int) (z : Bool) : (ten f o z).cells.length = 10 := by simp [ten]
theorem ten_new : Dv.new 10 = ten (fun _ => sec0) 0 false := rfl
theorem ten_write (f : Nat → Sec) (o : Int) (T : ByteArray) (hT : T.size = 640) : (ten f o false).writeE 0 T = 0 ∧ (ten f o false).write 0 T = ten (fun k => ⟨secOf T k, (f k).safe, true⟩) (o + 10) false := by
  have hl := ten_len f o false
  have hd : (ten f o false).dead = false := rfl
  have hq : T.size / 64 = 10 := by omega
  constructor
  · unfold Dv.writeE
    rw [hd, if_neg (by decide), if_neg (by omega), if_pos (by rw [hl, hq]; omega)]
    have : (ten f o false).falls (T.size / 64) = false := decide_eq_false (by show ¬ (1 ≤ (0 : Int) ∧ _); omega)
    rw [this, if_neg (by decide)]
  · have hw : (ten f o false).writable 0 T = true := (writable_iff _ _ _).2 ⟨rfl, by omega, by omega, by omega, by rw [hl, hq]; omega⟩
    unfold Dv.write
    rw [if_pos hw, hq]
    have hr : (ten f o false).reach 10 = 10 := by unfold Dv.reach; rw [if_neg (by show ¬ (1 ≤ (0 : Int) ∧ _); omega)]
    rw [hr]
    have hc : wrote ((List.range 10).map f) 0 T 10 = (List.range 10).map fun k => ⟨secOf T k, (f k).safe, true⟩ := by
      refine List.ext_getElem (by simp [wrote]) fun k h1 h2 => ?_
      have hk : k < 10 := by simpa using h2
      simp only [wrote, List.getElem_mapIdx, List.getElem_map, List.getElem_range]
      rw [if_pos (by omega)]
      rfl
    show Dv.mk (wrote ((List.range 10).map f) 0 T 10) (o + ((10 : Nat) : Int)) (if 0 < (0 : Int) then 0 - ((10 : Nat) : Int) else 0) (if 0 < (0 : Int) ∧ (0 : Int) ≤ ((10 : Nat) : Int) then true else false) = _
    rw [hc, if_neg (by omega), if_neg (by omega)]
    rfl
theorem ten_flush (f : Nat → Sec) (o : Int) : (ten f o false).flushE = 0 ∧ (ten f o false).flush = ten (fun k => ⟨(f k).now, (f k).now, false⟩) (o + 1) false := by
  refine ⟨rfl, ?_⟩
  have hc : flushed ((List.range 10).map f) = (List.range 10).map fun k => ⟨(f k).now, (f k).now, false⟩ := by
    unfold flushed
    rw [List.map_map]
    rfl
  show Dv.mk (flushed ((List.range 10).map f)) (o + 1) 0 false = _
  rw [hc]
  rfl
theorem ten_off (f : Nat → Sec) (o : Int) (z : Bool) : (ten f o z).off = ten f o true := rfl
theorem ten_boot_all (f : Nat → Sec) (o : Int) (z : Bool) (ks : List Bool) (tn ct : Int) (hf : ∀ k, (f k).loose = true) : (ten f o z).boot ks tn ct = ten (fun k => ⟨leftOf (f k) k ks tn ct, leftOf (f k) k ks tn ct, false⟩) o false := by
  have hl := ten_len f o z
  have hc : booted ((List.range 10).map f) ks tn ct 10 = (List.range 10).map fun k => ⟨leftOf (f k) k ks tn ct, leftOf (f k) k ks tn ct, false⟩ := by
    refine List.ext_getElem (by simp [booted]) fun k h1 h2 => ?_
    have hk : k < 10 := by simpa using h2
    have hn : looseTo ((List.range 10).map f) k = k := by
      unfold looseTo
      rw [List.countP_eq_length.2 (fun c hc => by obtain ⟨j, _, rfl⟩ := List.mem_map.1 (List.mem_of_mem_take hc); exact hf j)]
      simp
      omega
    simp only [booted, List.getElem_mapIdx, List.getElem_map, List.getElem_range]
    rw [if_pos ⟨hk, hf k⟩, hn]
  show Dv.mk (booted ((List.range 10).map f) ks tn ct (ten f o z).cells.length) o 0 false = _
  rw [hl, hc]
  rfl
theorem ten_boot_none (f : Nat → Sec) (o : Int) (z : Bool) (ks : List Bool) (tn ct : Int) (hf : ∀ k, (f k).loose = false) : (ten f o z).boot ks tn ct = ten f o false := by
  have hc : ∀ i, booted ((List.range 10).map f) ks tn ct i = (List.range 10).map f := by
    intro i
    refine List.ext_getElem (by simp [booted]) fun k h1 h2 => ?_
    simp only [booted, List.getElem_mapIdx, List.getElem_map, List.getElem_range]
    rw [if_neg (by rintro ⟨_, h⟩; rw [hf k] at h; cases h)]
  show Dv.mk (booted ((List.range 10).map f) ks tn ct (ten f o z).cells.length) o 0 false = _
  rw [hc]
  rfl
theorem ten_read (f : Nat → Sec) (o : Int) : (ten f o false).readE 0 10 = 0 ∧ (ten f o false).readT 0 10 = cat ((List.range 10).map fun k => (f k).now) := by
  have hl := ten_len f o false
  have he : (ten f o false).readE 0 10 = 0 := by
    unfold Dv.readE
    rw [if_neg (by show ¬ (false = true); decide), if_neg (by omega), if_pos (by rw [hl]; omega)]
  refine ⟨he, ?_⟩
  unfold Dv.readT
  rw [if_pos he]
  have : ((ten f o false).cells.drop (0 : Int).toNat).take (10 : Int).toNat = (List.range 10).map f := by
    show (((List.range 10).map f).drop 0).take 10 = _
    rw [List.drop_zero, List.take_of_length_le (by simp)]
  rw [this, List.map_map]
  rfl
theorem ten_loose (f : Nat → Sec) (o : Int) (z : Bool) (hf : ∀ k, (f k).loose = false) : (ten f o z).loose = [] := by
  unfold Dv.loose
  split
  · rfl
  · have : ((List.range (ten f o z).cells.length).filter fun k => ((ten f o z).cells.getD k sec0).loose) = [] := by
      rw [List.filter_eq_nil_iff]
      intro k hk
      rw [ten_len] at hk
      have hk' := List.mem_range.1 hk
      have e : (ten f o z).cells.getD k sec0 = f k := by
        show ((List.range 10).map f).getD k sec0 = _
        rw [List.getD_eq_getElem?_getD, List.getElem?_map, List.getElem?_range hk']
        rfl
      rw [e, hf k]
      decide
    rw [this]
    rfl
theorem cat_sec (l : List ByteArray) : (∀ x ∈ l, x.size = 64) → ∀ k (hk : k < l.length), secOf (cat l) k = l[k] := by
  induction l with
  | nil => intro _ k hk; simp at hk
  | cons a l ih =>
    intro h k hk
    have ha := h a (by simp)
    have hla : a.data.toList.length = 64 := by rw [text_size]; exact ha
    cases k with
    | zero =>
      refine text_eq ?_
      unfold secOf cat
      rw [cut_list, ByteArray.data_append, Array.toList_append]
      show (a.data.toList ++ (cat l).data.toList).take 64 = a.data.toList
      rw [List.take_append_of_le_length (by omega), List.take_of_length_le (by omega)]
    | succ k =>
      have hh := ih (fun x hx => h x (by simp [hx])) k (by simpa using hk)
      show secOf (a ++ cat l) (k + 1) = l[k]'(by simpa using hk)
      rw [← hh]
      refine text_eq ?_
      unfold secOf
      rw [cut_list, cut_list, ByteArray.data_append, Array.toList_append, show 64 * (k + 1) = a.data.toList.length + 64 * k by omega, List.drop_append, List.drop_of_length_le (by omega), List.nil_append, show a.data.toList.length + 64 * k - a.data.toList.length = 64 * k by omega]
      rw [show a.data.toList.length + 64 * k + 64 - (a.data.toList.length + 64 * k) = 64 * k + 64 - 64 * k by omega]
/-- What each sector may have behind the power's return: the old text, the new one, or, where it is torn, both. -/
theorem left_ten (s t : ByteArray) (ks : List Bool) (k : Nat) (tn ct : Int) (hs : s.size = 640) (hk : k < 10) : leftOf ⟨secOf t k, secOf s k, true⟩ k ks tn ct = secOf s k ∨ leftOf ⟨secOf t k, secOf s k, true⟩ k ks tn ct = secOf t k ∨ ((k : Int) = tn ∧ leftOf ⟨secOf t k, secOf s k, true⟩ k ks tn ct = (secOf t k).extract 0 (cutAt ct) ++ (secOf s k).extract (cutAt ct) 64) := by
  have h64 := sec_size s k 10 hs hk
  unfold leftOf
  split
  · rename_i h
    exact Or.inr (Or.inr ⟨h, by rw [h64]⟩)
  · split
    · exact Or.inr (Or.inl rfl)
    · exact Or.inl rfl
theorem pad_size (s z : ByteArray) (hs : s.size ≤ 640) (hz : z.size = 640) : (s ++ z.extract 0 (640 - s.size)).size = 640 := by
  rw [ByteArray.size_append, ByteArray.size_extract, hz]
  omega
end Go.Proofs.Ytocengdojdeiiaa
