/- Snapshots in plain words: their bytes, the snapshot that bytes begin with, and which of two counts. -/
import Derived.Test.YtkmkohpdldamhaaDoorForm
import Derived.Test.YtkmkohpdldamhaaDoorSum7
namespace Go.Proofs.YtkmkohpdldamhaaDoor

def sect9 (n : Nat) : Nat := (n + 16 + 63) / 64
def putE9 (g : Int) (t : List UInt8) : Int := if 1 ≤ g ∧ g ≤ 1000000000 then (if t.length ≤ 100000 then 0 else 3) else 2
def body9 (g : Int) (t : List UInt8) : List UInt8 := be 8 g.toNat ++ (be 4 t.length ++ t)
/-- The bytes of a snapshot. -/
def put9 (g : Int) (t : List UInt8) : List UInt8 := sealL (body9 g t) ++ List.replicate (64 * sect9 t.length - (t.length + 16)) 0
def putL9 (g : Int) (t : List UInt8) : List UInt8 := if putE9 g t = 0 then put9 g t else []
def gen9 (s : List UInt8) : Nat := val (s.take 8)
def len9 (s : List UInt8) : Nat := val ((s.drop 8).take 4)
/-- The bytes up to whole sectors. -/
def pad9 (s : List UInt8) : List UInt8 := (s.drop (len9 s + 16)).take (64 * sect9 (len9 s) - (len9 s + 16))
def getE9 (s : List UInt8) : Int :=
  if s.length < 16 then 4
  else if 127 < (s.getD 0 0).toNat then 8
  else if 1 ≤ gen9 s ∧ gen9 s ≤ 1000000000 then
    (if 100000 < len9 s then 3
     else if s.length < 64 * sect9 (len9 s) then 4
     else if unE (s.take (len9 s + 16)) = 0 then (if ∀ c ∈ pad9 s, c = 0 then 0 else 5)
     else unE (s.take (len9 s + 16)))
  else 2
def getG9 (s : List UInt8) : Int := if getE9 s = 0 then (gen9 s : Int) else 0
def getT9 (s : List UInt8) : List UInt8 := if getE9 s = 0 then (s.drop 12).take (len9 s) else []
/-- Which of two counts: -1 none, 0 the first, 1 the second. -/
def pickI (a b : List UInt8) : Int := if getE9 a ≠ 0 ∧ getE9 b ≠ 0 then -1 else if getE9 a = 0 ∧ (getE9 b ≠ 0 ∨ getG9 b ≤ getG9 a) then 0 else 1
def pickG (a b : List UInt8) : Int := if pickI a b = -1 then 0 else if pickI a b = 0 then getG9 a else getG9 b
def pickT (a b : List UInt8) : List UInt8 := if pickI a b = -1 then [] else if pickI a b = 0 then getT9 a else getT9 b
def nextG (a b : List UInt8) : Int := if pickI a b = -1 then 1 else if pickG a b = 1000000000 then 0 else pickG a b + 1
def nextS (a b : List UInt8) : Int := if pickI a b = -1 then 0 else 1 - pickI a b

theorem sect_up (n : Nat) : n + 16 ≤ 64 * sect9 n ∧ 64 * sect9 n < n + 16 + 64 := by unfold sect9; omega
theorem body_len (g : Int) (t : List UInt8) : (body9 g t).length = t.length + 12 := by
  unfold body9; rw [List.length_append, List.length_append, be_len, be_len]; omega
theorem seal_len9 (l : List UInt8) : (sealL l).length = l.length + 4 := by unfold sealL; rw [List.length_append, four_len]
theorem put9_len (g : Int) (t : List UInt8) : (put9 g t).length = 64 * sect9 t.length := by
  have := sect_up t.length
  unfold put9
  rw [List.length_append, seal_len9, body_len, List.length_replicate]
  omega
/-- A snapshot is taken of its bytes, whatever stands behind. -/
theorem back9 (g : Int) (t z : List UInt8) (h : putE9 g t = 0) : getE9 (put9 g t ++ z) = 0 ∧ getG9 (put9 g t ++ z) = g ∧ getT9 (put9 g t ++ z) = t := by
  have hg : 1 ≤ g ∧ g ≤ 1000000000 := by
    unfold putE9 at h
    split at h
    · assumption
    · omega
  have ht : t.length ≤ 100000 := by
    unfold putE9 at h
    rw [if_pos hg] at h
    split at h
    · assumption
    · omega
  obtain ⟨n, rfl⟩ : ∃ n : Nat, g = n := ⟨g.toNat, by omega⟩
  have hn : n ≤ 1000000000 := by omega
  have hl := put9_len (n : Int) t
  have hu := sect_up t.length
  have h8 : (be 8 n).length = 8 := be_len 8 n
  have h4 : (be 4 t.length).length = 4 := be_len 4 t.length
  have e0 : put9 (n : Int) t ++ z = be 8 n ++ (be 4 t.length ++ (t ++ (fourL (ofN (body9 n t)) ++ (List.replicate (64 * sect9 t.length - (t.length + 16)) 0 ++ z)))) := by
    unfold put9 sealL
    rw [show body9 (n : Int) t ++ fourL (ofN (body9 (n : Int) t)) = (be 8 n ++ (be 4 t.length ++ t)) ++ fourL (ofN (body9 (n : Int) t)) from rfl]
    simp only [List.append_assoc]
  have eg : gen9 (put9 (n : Int) t ++ z) = n := by
    unfold gen9
    rw [e0, List.take_append_of_le_length (by omega), List.take_of_length_le (by omega)]
    exact val_be 8 n (by omega)
  have el : len9 (put9 (n : Int) t ++ z) = t.length := by
    unfold len9
    rw [e0, List.drop_append, List.drop_of_length_le (show (be 8 n).length ≤ 8 by omega), List.nil_append, h8, Nat.sub_self, List.drop_zero, List.take_append_of_le_length (by omega), List.take_of_length_le (by omega)]
    exact val_be 4 t.length (by omega)
  have e1 : (put9 (n : Int) t ++ z).take (t.length + 16) = sealL (body9 n t) := by
    unfold put9
    rw [List.append_assoc, List.take_append_of_le_length (by rw [seal_len9, body_len]; omega), List.take_of_length_le (by rw [seal_len9, body_len]; omega)]
  have e2 : pad9 (put9 (n : Int) t ++ z) = List.replicate (64 * sect9 t.length - (t.length + 16)) 0 := by
    unfold pad9
    rw [el]
    unfold put9
    rw [List.append_assoc, List.drop_append, List.drop_of_length_le (by rw [seal_len9, body_len]; omega), List.nil_append, seal_len9, body_len, show t.length + 16 - (t.length + 12 + 4) = 0 by omega, List.drop_zero, List.take_append_of_le_length (by rw [List.length_replicate]; omega), List.take_of_length_le (by rw [List.length_replicate]; omega)]
  have e3 : ((put9 (n : Int) t ++ z).getD 0 0).toNat ≤ 127 := by
    have hb := first_byte (l := be 8 n) h8 (by rw [val_be 8 n (by omega)]; omega)
    rw [e0, List.getD_eq_getElem?_getD, List.getElem?_append_left (by omega), ← List.getD_eq_getElem?_getD]
    exact hb
  have hu2 := un_seal (body9 n t)
  have hE : getE9 (put9 (n : Int) t ++ z) = 0 := by
    unfold getE9
    rw [eg, el, e1, e2, if_neg (by rw [List.length_append]; omega), if_neg (by omega), if_pos (by omega), if_neg (by omega), if_neg (by rw [List.length_append]; omega), if_pos hu2.1, if_pos (fun c hc => (List.mem_replicate.1 hc).2)]
  refine ⟨hE, ?_, ?_⟩
  · unfold getG9; rw [if_pos hE, eg]
  · unfold getT9
    rw [if_pos hE, el, e0, List.drop_append, List.drop_of_length_le (by omega), List.nil_append, h8, List.drop_append, List.drop_of_length_le (by omega), List.nil_append, h4, show 12 - 8 - 4 = 0 by omega, List.drop_zero, List.take_append_of_le_length (by omega), List.take_of_length_le (by omega)]
theorem get_parts {s : List UInt8} (h : getE9 s = 0) : 16 ≤ s.length ∧ (s.getD 0 0).toNat ≤ 127 ∧ (1 ≤ gen9 s ∧ gen9 s ≤ 1000000000) ∧ len9 s ≤ 100000 ∧ 64 * sect9 (len9 s) ≤ s.length ∧ unE (s.take (len9 s + 16)) = 0 ∧ ∀ c ∈ pad9 s, c = 0 := by
  unfold getE9 at h
  split at h
  · omega
  split at h
  · omega
  split at h
  · split at h
    · omega
    split at h
    · omega
    split at h
    · split at h
      · exact ⟨by omega, by omega, by assumption, by omega, by omega, by assumption, by assumption⟩
      · omega
    · rename_i h1
      exact absurd h h1
  · omega
/-- What is taken is just that which was put. -/
theorem canon9 {s : List UInt8} (h : getE9 s = 0) : putE9 (getG9 s) (getT9 s) = 0 ∧ put9 (getG9 s) (getT9 s) = s.take (64 * sect9 (getT9 s).length) ∧ (getT9 s).length = len9 s ∧ 64 * sect9 (len9 s) ≤ s.length := by
  obtain ⟨h16, _, hg, hl, hs, hu, hz⟩ := get_parts h
  have hup := sect_up (len9 s)
  have eG : getG9 s = (gen9 s : Int) := by unfold getG9; rw [if_pos h]
  have eT : getT9 s = (s.drop 12).take (len9 s) := by unfold getT9; rw [if_pos h]
  have hTl : (getT9 s).length = len9 s := by rw [eT, List.length_take, List.length_drop]; omega
  have hE : putE9 (getG9 s) (getT9 s) = 0 := by
    unfold putE9
    rw [eG, hTl, if_pos (by omega), if_pos hl]
  refine ⟨hE, ?_, hTl, hs⟩
  have hb : body9 (getG9 s) (getT9 s) = s.take (len9 s + 12) := by
    unfold body9
    rw [eG, Int.toNat_natCast, hTl]
    have a8 : be 8 (gen9 s) = s.take 8 := be_val 8 _ (by rw [List.length_take]; omega)
    have a4 : be 4 (len9 s) = (s.drop 8).take 4 := be_val 4 _ (by rw [List.length_take, List.length_drop]; omega)
    rw [a8, a4, eT, show s.drop 12 = (s.drop 8).drop 4 by rw [List.drop_drop], ← List.take_add, ← List.take_add]
    congr 1
    omega
  have hsl : sealL (body9 (getG9 s) (getT9 s)) = s.take (len9 s + 16) := by
    have hf := un_fine hu
    rw [hf]
    congr 1
    rw [hb]
    unfold unL
    rw [if_pos hu, List.length_take, Nat.min_eq_left (by omega), List.take_take, Nat.min_eq_left (by omega)]
    congr 1
  have hp : List.replicate (64 * sect9 (getT9 s).length - ((getT9 s).length + 16)) (0 : UInt8) = pad9 s := by
    rw [hTl]
    refine (List.eq_replicate_iff.2 ⟨?_, fun c hc => hz c hc⟩).symm
    unfold pad9
    rw [List.length_take, List.length_drop]
    omega
  unfold put9
  rw [hsl, hp, hTl]
  unfold pad9
  rw [← List.take_add]
  congr 1
  omega
theorem pick_cases (a b : List UInt8) : (pickI a b = -1 ∧ getE9 a ≠ 0 ∧ getE9 b ≠ 0) ∨ (pickI a b = 0 ∧ getE9 a = 0 ∧ (getE9 b ≠ 0 ∨ getG9 b ≤ getG9 a)) ∨ (pickI a b = 1 ∧ getE9 b = 0 ∧ (getE9 a ≠ 0 ∨ getG9 a < getG9 b)) := by
  unfold pickI
  by_cases ha : getE9 a = 0 <;> by_cases hb : getE9 b = 0
  · by_cases hg : getG9 b ≤ getG9 a
    · simp [ha, hb, hg]
    · simp [ha, hb, hg]; omega
  · simp [ha, hb]
  · simp [ha, hb]
  · simp [ha, hb]
end Go.Proofs.YtkmkohpdldamhaaDoor
