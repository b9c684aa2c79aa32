/- Rows of numbers come back of their bytes, and what is taken as a row was put so: in plain words. -/
import Derived.Test.YtpjahfobjnajcaaDoorForm
namespace Go.Proofs.YtpjahfobjnajcaaDoor

def flat (w : Nat) (l : List Int) : List UInt8 := l.flatMap (fun x => be w x.toNat)
theorem flat_more (w : Nat) (a b : List Int) : flat w (a ++ b) = flat w a ++ flat w b := by unfold flat; rw [List.flatMap_append]
theorem flat_one (w : Nat) (x : Int) (l : List Int) : flat w (x :: l) = be w x.toNat ++ flat w l := by unfold flat; rw [List.flatMap_cons]
theorem flat_len (w : Nat) (l : List Int) : (flat w l).length = l.length * w := by
  induction l with
  | nil => simp [flat]
  | cons x l ih => rw [flat_one, List.length_append, be_len, ih, List.length_cons, Nat.add_mul]; omega
theorem bad_none {s : List UInt8} {q w : Int} {n : Nat} (h : ∀ i : Nat, i < n → getE s (q + i * w) w = 0) : badAt s q w n = none := by
  unfold badAt
  rw [List.find?_eq_none]
  intro i hi
  simp [h i (List.mem_range.1 hi)]
theorem bad_all {s : List UInt8} {q w : Int} {n : Nat} (h : badAt s q w n = none) : ∀ i : Nat, i < n → getE s (q + i * w) w = 0 := by
  unfold badAt at h
  rw [List.find?_eq_none] at h
  intro i hi
  have := h i (List.mem_range.2 hi)
  simpa using this
theorem bad_some {s : List UInt8} {q w : Int} {n i : Nat} (h : badAt s q w n = some i) : i < n ∧ getE s (q + i * w) w ≠ 0 ∧ ∀ j : Nat, j < i → getE s (q + j * w) w = 0 := by
  unfold badAt at h
  rw [List.find?_range_eq_some] at h
  refine ⟨List.mem_range.1 h.2.1, by simpa using h.1, fun j hj => ?_⟩
  have := h.2.2 j hj
  simpa using this
theorem bad_first {s : List UInt8} {q w : Int} {n i : Nat} (hi : i < n) (h1 : getE s (q + i * w) w ≠ 0) (h2 : ∀ j : Nat, j < i → getE s (q + j * w) w = 0) : badAt s q w n = some i := by
  unfold badAt
  rw [List.find?_range_eq_some]
  refine ⟨by simpa using h1, List.mem_range.2 hi, fun j hj => ?_⟩
  simp [h2 j hj]
/-- A row comes back of its bytes. -/
theorem row_back {A B : List UInt8} {l : List Int} {w : Int} (hx : ∀ x ∈ l, x ≤ 9223372036854775807) (h : rowE w l = 0) (p m : Int) (hp : p = A.length) (hm : (l.length : Int) ≤ m) :
    unrowE (A ++ (rowL w l ++ B)) p w m = 0 ∧ unrowL (A ++ (rowL w l ++ B)) p w m = l ∧ unrowT (A ++ (rowL w l ++ B)) p w m = p + (rowL w l).length := by
  have hE := h
  unfold rowE at h
  by_cases hw : wideW w
  · rw [if_pos hw] at h
    obtain ⟨w1, w2, w3⟩ := wide_nat hw
    by_cases hb : 1000 < l.length
    · rw [if_pos hb] at h; omega
    · rw [if_neg hb] at h
      by_cases ha : ∀ x ∈ l, putE x w = 0
      · have hL : rowL w l = be 2 l.length ++ flat w.toNat l := by unfold rowL flat; rw [if_pos hE]
        have hv : val (be 2 l.length) = l.length := val_be 2 _ (by simp; omega)
        have hs : A ++ (rowL w l ++ B) = A ++ (be 2 l.length ++ (flat w.toNat l ++ B)) := by rw [hL, List.append_assoc]
        obtain ⟨g1, g2, g3⟩ := get_good (A := A) (M := be 2 l.length) (B := flat w.toNat l ++ B) (p := p) (w := 2) (by unfold wideW; omega) hp (by rw [be_len]; rfl) (fun e => by omega)
        rw [hv] at g2
        have hel : ∀ i : Nat, (hi : i < l.length) → getE (A ++ (rowL w l ++ B)) (p + 2 + i * w) w = 0 ∧ getV (A ++ (rowL w l ++ B)) (p + 2 + i * w) w = l[i] := by
          intro i hi
          have hsp : l = l.take i ++ (l[i] :: l.drop (i + 1)) := by
            rw [List.getElem_cons_drop, List.take_append_drop]
          have hf : flat w.toNat l = flat w.toNat (l.take i) ++ (be w.toNat l[i].toNat ++ flat w.toNat (l.drop (i + 1))) := by
            conv => lhs; rw [hsp]
            rw [flat_more, flat_one]
          have hm := List.getElem_mem hi
          have hpe := ha _ hm
          have hpl : putL l[i] w = be w.toNat l[i].toNat := by unfold putL; rw [if_pos hpe]
          have hs2 : A ++ (rowL w l ++ B) = (A ++ (be 2 l.length ++ flat w.toNat (l.take i))) ++ (putL l[i] w ++ (flat w.toNat (l.drop (i + 1)) ++ B)) := by
            rw [hs, hf, hpl]; simp only [List.append_assoc]
          have hlen : p + 2 + i * w = ((A ++ (be 2 l.length ++ flat w.toNat (l.take i))).length : Int) := by
            rw [List.length_append, List.length_append, be_len, flat_len, List.length_take, Nat.min_eq_left (Nat.le_of_lt hi)]
            have e : ((i * w.toNat : Nat) : Int) = i * w := by rw [Int.natCast_mul, w3]
            omega
          obtain ⟨k1, k2, _, _⟩ := get_back (A := A ++ (be 2 l.length ++ flat w.toNat (l.take i))) (B := flat w.toNat (l.drop (i + 1)) ++ B) (hx _ hm) hpe (p + 2 + i * w) hlen
          rw [hs2]
          exact ⟨k1, k2⟩
        have hn : (getV (A ++ (rowL w l ++ B)) p 2).toNat = l.length := by rw [hs, g2]; omega
        have hU : unrowE (A ++ (rowL w l ++ B)) p w m = 0 := by
          have hlen : (A ++ (rowL w l ++ B)).length = A.length + (rowL w l).length + B.length := by simp; omega
          have hg1 : getE (A ++ (rowL w l ++ B)) p 2 = 0 := by rw [hs]; exact g1
          have hg2 : getV (A ++ (rowL w l ++ B)) p 2 = l.length := by rw [hs]; exact g2
          unfold unrowE
          rw [if_pos ⟨hw, by omega, by omega, by omega⟩, if_pos hg1, if_neg (by omega), hn, bad_none fun i hi => (hel i hi).1]
        refine ⟨hU, ?_, ?_⟩
        · unfold unrowL
          rw [if_pos hU, hn]
          refine List.ext_getElem (by simp) fun i h1 h2 => ?_
          rw [List.getElem_map, List.getElem_range]
          exact (hel i h2).2
        · unfold unrowT
          rw [if_pos hU, hL, List.length_append, be_len, flat_len]
          have e : getV (A ++ (be 2 l.length ++ flat w.toNat l ++ B)) p 2 = l.length := by rw [← hL, hs]; exact g2
          have e2 : ((l.length * w.toNat : Nat) : Int) = l.length * w := by rw [Int.natCast_mul, w3]
          rw [e]
          omega
      · rw [if_neg ha] at h; omega
  · rw [if_neg hw] at h; omega
theorem unrow_fine {s : List UInt8} {p w m : Int} (h : unrowE s p w m = 0) : wideW w ∧ 0 ≤ p ∧ getE s p 2 = 0 ∧ getV s p 2 ≤ m ∧ getV s p 2 ≤ 1000 ∧ ∀ i : Nat, i < (getV s p 2).toNat → getE s (p + 2 + i * w) w = 0 := by
  unfold unrowE at h
  split at h
  · rename_i h1
    split at h
    · rename_i h2
      split at h
      · omega
      · rename_i h3
        split at h
        · rename_i i hb
          exact absurd h (bad_some hb).2.1
        · rename_i hb
          exact ⟨h1.1, h1.2.1, h2, by omega, by omega, bad_all hb⟩
    · rename_i h2; exact absurd h h2
  · omega
/-- What is taken as a row was put so. -/
theorem unrow_canon {s : List UInt8} {p w m : Int} (h : unrowE s p w m = 0) : rowE w (unrowL s p w m) = 0 ∧ rowL w (unrowL s p w m) = (s.drop p.toNat).take (unrowT s p w m - p).toNat ∧ p ≤ unrowT s p w m ∧ unrowT s p w m ≤ s.length ∧ (unrowL s p w m).length = (getV s p 2).toNat := by
  obtain ⟨hw, hp0, h2, hm, hk, hel⟩ := unrow_fine h
  obtain ⟨w1, w2, w3⟩ := wide_nat hw
  obtain ⟨b1, _, _, _⟩ := get_bound h2
  obtain ⟨_, _, hf, _⟩ := get_fine h2
  have hL : unrowL s p w m = (List.range (getV s p 2).toNat).map (fun (i : Nat) => getV s (p + 2 + i * w) w) := by unfold unrowL; rw [if_pos h]
  have hT : unrowT s p w m = p + 2 + getV s p 2 * w := by unfold unrowT; rw [if_pos h]
  have hlen : (unrowL s p w m).length = (getV s p 2).toNat := by rw [hL]; simp
  have hall : ∀ x ∈ unrowL s p w m, putE x w = 0 := by
    intro x hx
    rw [hL] at hx
    obtain ⟨i, hi, rfl⟩ := List.mem_map.1 hx
    exact (get_canon (hel i (List.mem_range.1 hi))).1
  have hE : rowE w (unrowL s p w m) = 0 := by
    unfold rowE
    rw [if_pos hw, if_neg (by omega), if_pos hall]
  -- the bytes of the first k elements
  have hfl : ∀ k : Nat, k ≤ (getV s p 2).toNat → flat w.toNat ((List.range k).map (fun (i : Nat) => getV s (p + 2 + i * w) w)) = (s.drop (p.toNat + 2)).take (k * w.toNat) ∧ p.toNat + 2 + k * w.toNat ≤ s.length := by
    intro k
    induction k with
    | zero => intro _; refine ⟨by simp [flat], by omega⟩
    | succ k ih =>
      intro hkn
      obtain ⟨ih1, ih2⟩ := ih (by omega)
      have he := hel k (by omega)
      obtain ⟨q1, q2⟩ := get_canon he
      obtain ⟨_, f1, f2, _⟩ := get_fine he
      unfold putL at q2
      rw [if_pos q1] at q2
      have e : ((k * w.toNat : Nat) : Int) = k * w := by rw [Int.natCast_mul, w3]
      have hq : (p + 2 + k * w).toNat = p.toNat + 2 + k * w.toNat := by omega
      rw [hq] at q2
      rw [List.range_succ, List.map_append, flat_more, ih1]
      refine ⟨?_, by rw [Nat.add_mul]; omega⟩
      have e2 : flat w.toNat (List.map (fun (i : Nat) => getV s (p + 2 + i * w) w) [k]) = be w.toNat (getV s (p + 2 + k * w) w).toNat := by simp [flat]
      rw [e2, q2, Nat.add_mul, Nat.one_mul, List.take_add, List.drop_drop]
  obtain ⟨f1, f2⟩ := hfl _ (Nat.le_refl _)
  have e : (((getV s p 2).toNat * w.toNat : Nat) : Int) = getV s p 2 * w := by rw [Int.natCast_mul, w3, Int.toNat_of_nonneg b1]
  refine ⟨hE, ?_, by rw [hT]; have : 0 ≤ getV s p 2 * w := Int.mul_nonneg b1 (by omega); omega, by rw [hT]; omega, hlen⟩
  obtain ⟨q1, q2⟩ := get_canon h2
  unfold putL at q2
  rw [if_pos q1] at q2
  have q3 : be 2 (getV s p 2).toNat = (s.drop p.toNat).take 2 := q2
  have hR : rowL w (unrowL s p w m) = be 2 (getV s p 2).toNat ++ flat w.toNat (unrowL s p w m) := by unfold rowL flat; rw [if_pos hE, hlen]
  rw [hR, q3, hL, f1, show (unrowT s p w m - p).toNat = 2 + (getV s p 2).toNat * w.toNat by rw [hT]; omega, List.take_add, List.drop_drop]
end Go.Proofs.YtpjahfobjnajcaaDoor
