/- Frames in plain words: their sectors, the frame with which sectors begin, and the frames that follow one another. -/
import Derived.Test.YtpjahfobjnajcaaDoorForm
import Derived.Test.YtpjahfobjnajcaaDoorSum7
namespace Go.Proofs.YtpjahfobjnajcaaDoor

/-- How many sectors a frame with a body of that length has. -/
def nsec (n : Nat) : Nat := (n + 82) / 63
def wrong10 (ep sq : Int) (n : Nat) : Int := if (1 ≤ ep ∧ ep ≤ 1000000000) ∧ 1 ≤ sq ∧ sq ≤ 1000000 then (if 3000 < n then 3 else 0) else 2
def head10 (ep sq : Int) (b : List UInt8) : List UInt8 := be 8 ep.toNat ++ (be 4 sq.toNat ++ (be 4 b.length ++ b))
/-- The sealed text with the zeros behind it. -/
def full10 (ep sq : Int) (b : List UInt8) : List UInt8 := sealL (head10 ep sq b) ++ List.replicate (63 * nsec b.length - (b.length + 20)) 0
/-- Pieces of 63 bytes, each with a byte ahead: h ahead of the first, 2 ahead of the others. -/
def chop (h : UInt8) : Nat → List UInt8 → List UInt8
  | 0, _ => []
  | k + 1, t => h :: (t.take 63 ++ chop 2 k (t.drop 63))
def put10 (ep sq : Int) (b : List UInt8) : List UInt8 := chop 1 (nsec b.length) (full10 ep sq b)
def putL10 (ep sq : Int) (b : List UInt8) : List UInt8 := if wrong10 ep sq b.length = 0 then put10 ep sq b else []
/-- The pieces of k sectors, without the bytes ahead. -/
def join10 : Nat → List UInt8 → List UInt8
  | 0, _ => []
  | k + 1, r => (r.drop 1).take 63 ++ join10 k (r.drop 64)
def ep10 (r : List UInt8) : Nat := val ((r.drop 1).take 8)
def sq10 (r : List UInt8) : Nat := val ((r.drop 9).take 4)
def n10 (r : List UInt8) : Nat := val ((r.drop 13).take 4)
/-- What stands behind the sealed text. -/
def rest10 (r : List UInt8) : List UInt8 := (join10 (nsec (n10 r)) r).drop (n10 r + 20)
/-- What is wrong with the frame with which sectors begin. -/
def gotE (r : List UInt8) : Int :=
  if r.length = 0 then 4
  else if r.getD 0 0 ≠ 1 then 5
  else if 127 < (r.getD 1 0).toNat then 8
  else if wrong10 (ep10 r) (sq10 r) (n10 r) ≠ 0 then wrong10 (ep10 r) (sq10 r) (n10 r)
  else if r.length < 64 * nsec (n10 r) then 4
  else if ∃ i, i < nsec (n10 r) ∧ 1 ≤ i ∧ r.getD (64 * i) 0 ≠ 2 then 5
  else if unE ((join10 (nsec (n10 r)) r).take (n10 r + 20)) ≠ 0 then unE ((join10 (nsec (n10 r)) r).take (n10 r + 20))
  else if ∀ c ∈ rest10 r, c = 0 then 0 else 5
def gotB (r : List UInt8) : List UInt8 := ((join10 (nsec (n10 r)) r).drop 16).take (n10 r)
def getE10 (s : List UInt8) (p : Int) : Int := if 0 ≤ p ∧ s.length % 64 = 0 ∧ p ≤ s.length / 64 then gotE (s.drop (64 * p.toNat)) else 2
def getEp (s : List UInt8) (p : Int) : Int := if getE10 s p = 0 then (ep10 (s.drop (64 * p.toNat)) : Int) else 0
def getSq (s : List UInt8) (p : Int) : Int := if getE10 s p = 0 then (sq10 (s.drop (64 * p.toNat)) : Int) else 0
def getB (s : List UInt8) (p : Int) : List UInt8 := if getE10 s p = 0 then gotB (s.drop (64 * p.toNat)) else []
def getTo (s : List UInt8) (p : Int) : Int := if getE10 s p = 0 then p + nsec (n10 (s.drop (64 * p.toNat))) else 0
/-- The bodies of the frames that follow one another, and how many sectors they have. -/
def scan10 (ep : Int) : Nat → List UInt8 → Nat → List (List UInt8) × Nat
  | 0, _, _ => ([], 0)
  | f + 1, r, m => if gotE r = 0 ∧ (ep10 r : Int) = ep ∧ sq10 r = m + 1 then
      (gotB r :: (scan10 ep f (r.drop (64 * nsec (n10 r))) (m + 1)).1, nsec (n10 r) + (scan10 ep f (r.drop (64 * nsec (n10 r))) (m + 1)).2)
    else ([], 0)
def scanV (s : List UInt8) (ep : Int) : List (List UInt8) × Nat := if s.length % 64 = 0 then scan10 ep (s.length / 64) s 0 else ([], 0)

theorem nsec_up (n : Nat) : n + 20 ≤ 63 * nsec n ∧ 63 * nsec n < n + 20 + 63 ∧ 1 ≤ nsec n := by unfold nsec; omega
theorem head_len (ep sq : Int) (b : List UInt8) : (head10 ep sq b).length = b.length + 16 := by
  unfold head10; rw [List.length_append, List.length_append, List.length_append, be_len, be_len, be_len]; omega
theorem seal_len10 (l : List UInt8) : (sealL l).length = l.length + 4 := by unfold sealL; rw [List.length_append, four_len]
theorem full_len (ep sq : Int) (b : List UInt8) : (full10 ep sq b).length = 63 * nsec b.length := by
  have := nsec_up b.length
  unfold full10
  rw [List.length_append, seal_len10, head_len, List.length_replicate]
  omega
theorem chop_len (h : UInt8) (k : Nat) (t : List UInt8) (ht : t.length = 63 * k) : (chop h k t).length = 64 * k := by
  induction k generalizing h t with
  | zero => rfl
  | succ k ih =>
    unfold chop
    rw [List.length_cons, List.length_append, List.length_take, ih 2 (t.drop 63) (by rw [List.length_drop]; omega)]
    omega
theorem put10_len (ep sq : Int) (b : List UInt8) : (put10 ep sq b).length = 64 * nsec b.length := chop_len _ _ _ (full_len ep sq b)
theorem join_len (k : Nat) (r : List UInt8) (h : 64 * k ≤ r.length) : (join10 k r).length = 63 * k := by
  induction k generalizing r with
  | zero => rfl
  | succ k ih =>
    unfold join10
    rw [List.length_append, List.length_take, List.length_drop, ih (r.drop 64) (by rw [List.length_drop]; omega)]
    omega
theorem join_chop (h : UInt8) (k : Nat) (t z : List UInt8) (ht : t.length = 63 * k) : join10 k (chop h k t ++ z) = t := by
  induction k generalizing h t with
  | zero => obtain rfl : t = [] := List.length_eq_zero_iff.1 (by omega); rfl
  | succ k ih =>
    have e1 : (t.take 63).length = 63 := by rw [List.length_take]; omega
    unfold join10 chop
    have e2 : (h :: (t.take 63 ++ chop 2 k (t.drop 63)) ++ z).drop 1 = t.take 63 ++ (chop 2 k (t.drop 63) ++ z) := by simp
    have e3 : (h :: (t.take 63 ++ chop 2 k (t.drop 63)) ++ z).drop 64 = chop 2 k (t.drop 63) ++ z := by
      rw [show (h :: (t.take 63 ++ chop 2 k (t.drop 63)) ++ z) = (h :: t.take 63) ++ (chop 2 k (t.drop 63) ++ z) by simp]
      rw [List.drop_append, List.drop_of_length_le (by rw [List.length_cons]; omega), List.nil_append, List.length_cons, e1, Nat.sub_self, List.drop_zero]
    rw [e2, e3, List.take_append_of_le_length (by omega), List.take_of_length_le (by omega), ih 2 (t.drop 63) (by rw [List.length_drop]; omega), List.take_append_drop]
theorem chop_at (h : UInt8) (k i : Nat) (t z : List UInt8) (ht : t.length = 63 * k) (hi : i < k) : (chop h k t ++ z).getD (64 * i) 0 = if i = 0 then h else 2 := by
  induction k generalizing h t i with
  | zero => omega
  | succ k ih =>
    unfold chop
    cases i with
    | zero => simp
    | succ i =>
      have e1 : (t.take 63).length = 63 := by rw [List.length_take]; omega
      have e2 := ih 2 i (t.drop 63) (by rw [List.length_drop]; omega) (by omega)
      rw [show (h :: (t.take 63 ++ chop 2 k (t.drop 63)) ++ z) = (h :: t.take 63) ++ (chop 2 k (t.drop 63) ++ z) by simp]
      rw [List.getD_eq_getElem?_getD, List.getElem?_append_right (by rw [List.length_cons]; omega), List.length_cons, e1, show 64 * (i + 1) - (63 + 1) = 64 * i by omega, ← List.getD_eq_getElem?_getD, e2, if_neg (show ¬ (i + 1 = 0) by omega), ite_self]
theorem chop_join (h : UInt8) (k : Nat) (r : List UInt8) (hl : 64 * k ≤ r.length) (h0 : 0 < k → r.getD 0 0 = h) (h1 : ∀ i, i < k → 1 ≤ i → r.getD (64 * i) 0 = 2) : chop h k (join10 k r) = r.take (64 * k) := by
  induction k generalizing h r with
  | zero => simp [chop]
  | succ k ih =>
    have e1 : ((r.drop 1).take 63).length = 63 := by rw [List.length_take, List.length_drop]; omega
    have e2 := ih 2 (r.drop 64) (by rw [List.length_drop]; omega) (fun hk => by
      have := h1 1 (by omega) (by omega)
      rw [List.getD_eq_getElem?_getD] at this ⊢
      rw [List.getElem?_drop]
      exact this) (fun i hi hi1 => by
      have := h1 (i + 1) (by omega) (by omega)
      rw [List.getD_eq_getElem?_getD] at this ⊢
      rw [List.getElem?_drop, show 64 + 64 * i = 64 * (i + 1) by omega]
      exact this)
    unfold join10 chop
    have e4 : ((r.drop 1).take 63 ++ join10 k (r.drop 64)).take 63 = (r.drop 1).take 63 := by
      rw [List.take_append_of_le_length (by omega), List.take_of_length_le (by omega)]
    have e5 : ((r.drop 1).take 63 ++ join10 k (r.drop 64)).drop 63 = join10 k (r.drop 64) := by
      rw [List.drop_append, List.drop_of_length_le (by omega), List.nil_append, e1, Nat.sub_self, List.drop_zero]
    rw [e4, e5, e2]
    have e3 : r = h :: r.drop 1 := by
      have := h0 (by omega)
      cases r with
      | nil => simp at hl
      | cons a r => simp at this; subst this; rfl
    rw [show 64 * (k + 1) = 1 + (63 + 64 * k) by omega, List.take_add, List.take_add, List.drop_drop]
    rw [show List.take 1 r = [h] by rw [e3]; rfl]
    rfl
theorem join_part (k j w : Nat) (r : List UInt8) (hk : 1 ≤ k) (hl : 64 * k ≤ r.length) (hj : j + w ≤ 63) : ((join10 k r).drop j).take w = (r.drop (j + 1)).take w := by
  obtain ⟨m, rfl⟩ : ∃ m, k = m + 1 := ⟨k - 1, by omega⟩
  have e1 : ((r.drop 1).take 63).length = 63 := by rw [List.length_take, List.length_drop]; omega
  unfold join10
  rw [List.drop_append_of_le_length (by omega), List.take_append_of_le_length (by rw [List.length_drop]; omega), List.drop_take, List.take_take, Nat.min_eq_left (by omega), List.drop_drop, Nat.add_comm 1 j]
theorem getD_one (r : List UInt8) : r.getD 1 0 = ((r.drop 1).take 8).getD 0 0 := by
  rw [List.getD_eq_getElem?_getD, List.getD_eq_getElem?_getD, List.getElem?_take_of_lt (by omega), List.getElem?_drop]
theorem wrong_none {ep sq : Int} {n : Nat} (h : wrong10 ep sq n = 0) : (1 ≤ ep ∧ ep ≤ 1000000000) ∧ (1 ≤ sq ∧ sq ≤ 1000000) ∧ n ≤ 3000 := by
  unfold wrong10 at h
  split at h
  · split at h
    · omega
    · omega
  · omega
/-- A frame is taken of its sectors, whatever stands behind. -/
theorem got_back (ep sq : Int) (b z : List UInt8) (h : wrong10 ep sq b.length = 0) : gotE (put10 ep sq b ++ z) = 0 ∧ (ep10 (put10 ep sq b ++ z) : Int) = ep ∧ (sq10 (put10 ep sq b ++ z) : Int) = sq ∧ n10 (put10 ep sq b ++ z) = b.length ∧ gotB (put10 ep sq b ++ z) = b := by
  obtain ⟨h1, h2, h3⟩ := wrong_none h
  obtain ⟨E, rfl⟩ : ∃ E : Nat, ep = E := ⟨ep.toNat, by omega⟩
  obtain ⟨Q, rfl⟩ : ∃ Q : Nat, sq = Q := ⟨sq.toNat, by omega⟩
  have hup := nsec_up b.length
  have hfl := full_len (E : Int) (Q : Int) b
  have hpl := put10_len (E : Int) (Q : Int) b
  obtain ⟨r, hr⟩ : ∃ r, put10 (E : Int) (Q : Int) b ++ z = r := ⟨_, rfl⟩
  obtain ⟨k, hk⟩ : ∃ k, nsec b.length = k := ⟨_, rfl⟩
  have hrl : 64 * k ≤ r.length := by rw [← hr, List.length_append, hpl, hk]; omega
  have hj : join10 k r = full10 (E : Int) (Q : Int) b := by
    rw [← hr, ← hk]
    exact join_chop 1 _ _ z hfl
  have h8 : (be 8 E).length = 8 := be_len 8 E
  have h4 : (be 4 Q).length = 4 := be_len 4 Q
  have h5 : (be 4 b.length).length = 4 := be_len 4 b.length
  have e0 : full10 (E : Int) (Q : Int) b = be 8 E ++ (be 4 Q ++ (be 4 b.length ++ (b ++ (fourL (ofN (head10 (E : Int) (Q : Int) b)) ++ List.replicate (63 * nsec b.length - (b.length + 20)) 0)))) := by
    unfold full10 sealL
    rw [show head10 (E : Int) (Q : Int) b ++ fourL (ofN (head10 (E : Int) (Q : Int) b)) = (be 8 E ++ (be 4 Q ++ (be 4 b.length ++ b))) ++ fourL (ofN (head10 (E : Int) (Q : Int) b)) from rfl]
    simp only [List.append_assoc]
  have p1 : (r.drop 1).take 8 = be 8 E := by
    have := join_part k 0 8 r (by omega) hrl (by omega)
    rw [hj, List.drop_zero] at this
    rw [← this, e0, List.take_append_of_le_length (by omega), List.take_of_length_le (by omega)]
  have p2 : (r.drop 9).take 4 = be 4 Q := by
    have := join_part k 8 4 r (by omega) hrl (by omega)
    rw [hj] at this
    rw [← this, e0, List.drop_append, List.drop_of_length_le (by omega), List.nil_append, h8, Nat.sub_self, List.drop_zero, List.take_append_of_le_length (by omega), List.take_of_length_le (by omega)]
  have p3 : (r.drop 13).take 4 = be 4 b.length := by
    have := join_part k 12 4 r (by omega) hrl (by omega)
    rw [hj] at this
    rw [← this, e0, List.drop_append, List.drop_of_length_le (by omega), List.nil_append, h8, List.drop_append, List.drop_of_length_le (by omega), List.nil_append, h4, show 12 - 8 - 4 = 0 by omega, List.drop_zero, List.take_append_of_le_length (by omega), List.take_of_length_le (by omega)]
  have q1 : ep10 r = E := by unfold ep10; rw [p1]; exact val_be 8 E (by omega)
  have q2 : sq10 r = Q := by unfold sq10; rw [p2]; exact val_be 4 Q (by omega)
  have q3 : n10 r = b.length := by unfold n10; rw [p3]; exact val_be 4 b.length (by omega)
  have q4 : r.getD 0 0 = 1 := by
    have := chop_at 1 k 0 (full10 (E : Int) (Q : Int) b) z (by rw [hfl, hk]) (by omega)
    rw [← hr]
    unfold put10
    rw [hk]
    exact this
  have q5 : ∀ i, i < k → 1 ≤ i → r.getD (64 * i) 0 = 2 := fun i hi h1 => by
    have := chop_at 1 k i (full10 (E : Int) (Q : Int) b) z (by rw [hfl, hk]) hi
    rw [if_neg (by omega)] at this
    rw [← hr]
    unfold put10
    rw [hk]
    exact this
  have q6 : (r.getD 1 0).toNat ≤ 127 := by
    rw [getD_one, p1]
    exact first_byte h8 (by rw [val_be 8 E (by omega)]; omega)
  have q7 : (join10 k r).take (b.length + 20) = sealL (head10 (E : Int) (Q : Int) b) := by
    rw [hj]
    unfold full10
    rw [List.take_append_of_le_length (by rw [seal_len10, head_len]; omega), List.take_of_length_le (by rw [seal_len10, head_len]; omega)]
  have q8 : (join10 k r).drop (b.length + 20) = List.replicate (63 * nsec b.length - (b.length + 20)) 0 := by
    rw [hj]
    unfold full10
    rw [List.drop_append, List.drop_of_length_le (by rw [seal_len10, head_len]; omega), List.nil_append, seal_len10, head_len, show b.length + 20 - (b.length + 16 + 4) = 0 by omega, List.drop_zero]
  have q9 : ((join10 k r).drop 16).take b.length = b := by
    rw [hj, e0, List.drop_append, List.drop_of_length_le (by omega), List.nil_append, h8, List.drop_append, List.drop_of_length_le (by omega), List.nil_append, h4, List.drop_append, List.drop_of_length_le (by omega), List.nil_append, h5, show 16 - 8 - 4 - 4 = 0 by omega, List.drop_zero, List.take_append_of_le_length (by omega), List.take_of_length_le (by omega)]
  rw [hr]
  refine ⟨?_, by rw [q1], by rw [q2], q3, ?_⟩
  · have q10 : rest10 r = List.replicate (63 * nsec b.length - (b.length + 20)) 0 := by unfold rest10; rw [q3, hk, q8, hk]
    unfold gotE
    rw [q1, q2, q3, hk, q7, q10, if_neg (by omega), if_neg (by rw [q4]; exact fun h => h rfl), if_neg (by omega), if_neg (by rw [h]; exact fun h => h rfl), if_neg (by omega), if_neg (by
      rintro ⟨i, hi, h1, h2⟩
      exact h2 (q5 i hi h1)), if_neg (by rw [(un_seal _).1]; exact fun h => h rfl), if_pos (fun c hc => (List.mem_replicate.1 hc).2)]
  · unfold gotB
    rw [q3, hk, q9]
theorem got_parts {r : List UInt8} (h : gotE r = 0) : r.length ≠ 0 ∧ r.getD 0 0 = 1 ∧ (r.getD 1 0).toNat ≤ 127 ∧ wrong10 (ep10 r) (sq10 r) (n10 r) = 0 ∧ 64 * nsec (n10 r) ≤ r.length ∧ (∀ i, i < nsec (n10 r) → 1 ≤ i → r.getD (64 * i) 0 = 2) ∧ unE ((join10 (nsec (n10 r)) r).take (n10 r + 20)) = 0 ∧ ∀ c ∈ rest10 r, c = 0 := by
  unfold gotE at h
  split at h
  · omega
  rename_i h1
  split at h
  · omega
  rename_i h2
  split at h
  · omega
  rename_i h3
  split at h
  · rename_i h4; exact absurd h h4
  rename_i h4
  split at h
  · omega
  rename_i h5
  split at h
  · omega
  rename_i h6
  split at h
  · rename_i h7; exact absurd h h7
  rename_i h7
  split at h
  · rename_i h8
    refine ⟨h1, Decidable.not_not.1 h2, by omega, Decidable.not_not.1 h4, by omega, fun i hi h1 => ?_, Decidable.not_not.1 h7, h8⟩
    by_cases q : r.getD (64 * i) 0 = 2
    · exact q
    · exact absurd ⟨i, hi, h1, q⟩ h6
  · omega
/-- What is taken is just that which was put. -/
theorem got_canon {r : List UInt8} (h : gotE r = 0) : put10 (ep10 r) (sq10 r) (gotB r) = r.take (64 * nsec (n10 r)) ∧ (gotB r).length = n10 r ∧ wrong10 (ep10 r) (sq10 r) (n10 r) = 0 ∧ 64 * nsec (n10 r) ≤ r.length := by
  obtain ⟨h1, h2, h3, h4, h5, h6, h7, h8⟩ := got_parts h
  have hup := nsec_up (n10 r)
  obtain ⟨k, hk⟩ : ∃ k, nsec (n10 r) = k := ⟨_, rfl⟩
  obtain ⟨n, hn⟩ : ∃ n, n10 r = n := ⟨_, rfl⟩
  rw [hk] at h5 h6 h7 hup
  unfold rest10 at h8
  rw [hk] at h8
  have hjl := join_len k r h5
  have hB : gotB r = ((join10 k r).drop 16).take n := by unfold gotB; rw [hk, hn]
  have hBl : (gotB r).length = n := by rw [hB, List.length_take, List.length_drop]; omega
  have c1 := join_part k 0 8 r (by omega) h5 (by omega)
  have c2 := join_part k 8 4 r (by omega) h5 (by omega)
  have c3 := join_part k 12 4 r (by omega) h5 (by omega)
  have hh : head10 (ep10 r) (sq10 r) (gotB r) = (join10 k r).take (n + 16) := by
    unfold head10
    rw [Int.toNat_natCast, Int.toNat_natCast, hBl]
    have a1 : be 8 (ep10 r) = ((join10 k r).drop 0).take 8 := by rw [c1]; exact be_val 8 _ (by rw [List.length_take, List.length_drop]; omega)
    have a2 : be 4 (sq10 r) = ((join10 k r).drop 8).take 4 := by rw [c2]; exact be_val 4 _ (by rw [List.length_take, List.length_drop]; omega)
    have a3 : be 4 n = ((join10 k r).drop 12).take 4 := by rw [c3, ← hn]; exact be_val 4 _ (by rw [List.length_take, List.length_drop]; omega)
    rw [a1, a2, a3, hB, List.drop_zero, show (join10 k r).drop 16 = ((join10 k r).drop 12).drop 4 by rw [List.drop_drop], ← List.take_add, show (join10 k r).drop 12 = ((join10 k r).drop 8).drop 4 by rw [List.drop_drop], ← List.take_add, ← List.take_add]
    congr 1
    omega
  have hs : sealL (head10 (ep10 r) (sq10 r) (gotB r)) = (join10 k r).take (n + 20) := by
    rw [hn] at h7
    have hf := un_fine h7
    rw [hf]
    congr 1
    rw [hh]
    unfold unL
    rw [if_pos h7, List.length_take, hjl, Nat.min_eq_left (by omega), List.take_take]
    congr 1
    omega
  have hF : full10 (ep10 r) (sq10 r) (gotB r) = join10 k r := by
    unfold full10
    rw [hs, hBl, ← hn, hk]
    have : List.replicate (63 * k - (n10 r + 20)) (0 : UInt8) = (join10 k r).drop (n10 r + 20) := by
      refine (List.eq_replicate_iff.2 ⟨?_, fun c hc => h8 c hc⟩).symm
      rw [List.length_drop, hjl]
    rw [this, List.take_append_drop]
  refine ⟨?_, by rw [hBl, hn], h4, by rw [hk]; exact h5⟩
  unfold put10
  rw [hBl, ← hn, hk, hF]
  exact chop_join 1 k r h5 (fun _ => h2) h6
/-- No sector of a frame but its first one begins a frame. -/
theorem got_apart (ep sq : Int) (b z : List UInt8) (i : Nat) (h1 : 1 ≤ i) (h2 : i < nsec b.length) : gotE ((put10 ep sq b ++ z).drop (64 * i)) = 5 := by
  have hfl := full_len ep sq b
  have hpl := put10_len ep sq b
  have hc := chop_at 1 (nsec b.length) i (full10 ep sq b) z hfl h2
  rw [if_neg (by omega)] at hc
  unfold gotE
  rw [if_neg (by rw [List.length_drop, List.length_append, hpl]; omega), if_pos]
  rw [List.getD_eq_getElem?_getD, List.getElem?_drop, Nat.add_zero, ← List.getD_eq_getElem?_getD]
  unfold put10
  rw [hc]
  decide
theorem got_nil : gotE [] = 4 := rfl
/-- What is scanned stands in just as many sectors. -/
theorem scan_sum (ep : Int) (f : Nat) (r : List UInt8) (m : Nat) : (scan10 ep f r m).2 = ((scan10 ep f r m).1.map fun b => nsec b.length).sum ∧ 64 * (scan10 ep f r m).2 ≤ r.length := by
  induction f generalizing r m with
  | zero => exact ⟨rfl, Nat.zero_le _⟩
  | succ f ih =>
    unfold scan10
    split
    · rename_i h
      obtain ⟨h1, h2, h3, h4⟩ := got_canon h.1
      obtain ⟨i1, i2⟩ := ih (r.drop (64 * nsec (n10 r))) (m + 1)
      rw [List.length_drop] at i2
      refine ⟨?_, by simp only; omega⟩
      simp only [List.map_cons, List.sum_cons]
      rw [h2, ← i1]
    · exact ⟨rfl, Nat.zero_le _⟩
theorem scan_once (ep : Int) (f : Nat) (m : Nat) (b : List UInt8) (h : wrong10 ep ((m : Int) + 1) b.length = 0) (hf : nsec b.length ≤ f) : scan10 ep f (put10 ep ((m : Int) + 1) b) m = ([b], nsec b.length) := by
  have hup := nsec_up b.length
  obtain ⟨g1, g2, g3, g4, g5⟩ := got_back ep ((m : Int) + 1) b [] h
  rw [List.append_nil] at g1 g2 g3 g4 g5
  obtain ⟨g, rfl⟩ : ∃ g, f = g + 1 := ⟨f - 1, by omega⟩
  conv => lhs; unfold scan10
  rw [if_pos ⟨g1, g2, by omega⟩, g4, g5, List.drop_of_length_le (Nat.le_of_eq (put10_len _ _ _))]
  have e : scan10 ep g [] (m + 1) = ([], 0) := by
    cases g with
    | zero => rfl
    | succ g => unfold scan10; rw [if_neg (fun h => by rw [got_nil] at h; omega)]
  rw [e]
  rfl
/-- With the frame of the next number more behind those that are scanned that is scanned, too. -/
theorem scan_grows (ep : Int) (f : Nat) (r : List UInt8) (m : Nat) (b : List UInt8) (f' : Nat) (hf : r.length ≤ 64 * f)
    (h : wrong10 ep ((m : Int) + (scan10 ep f r m).1.length + 1) b.length = 0) (hf' : (scan10 ep f r m).2 + nsec b.length ≤ f') :
    scan10 ep f' (r.take (64 * (scan10 ep f r m).2) ++ put10 ep ((m : Int) + (scan10 ep f r m).1.length + 1) b) m = ((scan10 ep f r m).1 ++ [b], (scan10 ep f r m).2 + nsec b.length) := by
  induction f generalizing r m f' with
  | zero =>
    have e : scan10 ep 0 r m = ([], 0) := rfl
    rw [e] at h hf' ⊢
    simp only [List.length_nil, Int.natCast_zero, Int.add_zero, Nat.mul_zero, List.take_zero, List.nil_append, Nat.zero_add] at h hf' ⊢
    exact scan_once ep f' m b h hf'
  | succ f ih =>
    by_cases hc : gotE r = 0 ∧ (ep10 r : Int) = ep ∧ sq10 r = m + 1
    · obtain ⟨h1, h2, h3, h4⟩ := got_canon hc.1
      have hup := nsec_up (n10 r)
      have e : scan10 ep (f + 1) r m = (gotB r :: (scan10 ep f (r.drop (64 * nsec (n10 r))) (m + 1)).1, nsec (n10 r) + (scan10 ep f (r.drop (64 * nsec (n10 r))) (m + 1)).2) := by
        conv => lhs; unfold scan10
        rw [if_pos hc]
      rw [e] at h hf' ⊢
      obtain ⟨R, hR⟩ : ∃ R, r.drop (64 * nsec (n10 r)) = R := ⟨_, rfl⟩
      rw [hR] at h hf' ⊢
      simp only at h hf' ⊢
      have hRl : R.length ≤ 64 * f := by rw [← hR, List.length_drop]; omega
      obtain ⟨g, rfl⟩ : ∃ g, f' = g + 1 := ⟨f' - 1, by omega⟩
      have hi := ih R (m + 1) g hRl (by
        rw [List.length_cons] at h
        rw [← h]
        congr 1
        omega) (by omega)
      have hsame : ((m + 1 : Nat) : Int) + ((scan10 ep f R (m + 1)).1.length : Int) + 1 = (m : Int) + ((gotB r :: (scan10 ep f R (m + 1)).1).length : Int) + 1 := by rw [List.length_cons]; omega
      rw [hsame] at hi
      generalize put10 ep ((m : Int) + ((gotB r :: (scan10 ep f R (m + 1)).1).length : Int) + 1) b = T at *
      have hsplit : r.take (64 * (nsec (n10 r) + (scan10 ep f R (m + 1)).2)) ++ T = put10 (ep10 r) (sq10 r) (gotB r) ++ (R.take (64 * (scan10 ep f R (m + 1)).2) ++ T) := by
        rw [h1, ← List.append_assoc, Nat.mul_add, List.take_add, hR]
      obtain ⟨g1, g2, g3, g4, g5⟩ := got_back (ep10 r) (sq10 r) (gotB r) (R.take (64 * (scan10 ep f R (m + 1)).2) ++ T) (by rw [h2]; exact h3)
      rw [hsplit]
      have e2 : (put10 (ep10 r) (sq10 r) (gotB r) ++ (R.take (64 * (scan10 ep f R (m + 1)).2) ++ T)).drop (64 * nsec (gotB r).length) = R.take (64 * (scan10 ep f R (m + 1)).2) ++ T := by
        rw [List.drop_append, List.drop_of_length_le (Nat.le_of_eq (put10_len _ _ _)), List.nil_append, put10_len, Nat.sub_self, List.drop_zero]
      conv => lhs; unfold scan10
      rw [if_pos ⟨g1, by rw [g2]; exact hc.2.1, by have := hc.2.2; omega⟩, g4, g5, e2, hi, h2]
      simp only [List.cons_append, Nat.add_assoc]
    · have e : scan10 ep (f + 1) r m = ([], 0) := by
        conv => lhs; unfold scan10
        rw [if_neg hc]
      rw [e] at h hf' ⊢
      simp only [List.length_nil, Int.natCast_zero, Int.add_zero, Nat.mul_zero, List.take_zero, List.nil_append, Nat.zero_add] at h hf' ⊢
      exact scan_once ep f' m b h hf'
end Go.Proofs.YtpjahfobjnajcaaDoor
