/- Frames that follow one another, scanned step by step: in plain words. -/
import Derived.Test.YtpjahfobjnajcaaDoorFram10
namespace Go.Proofs.YtpjahfobjnajcaaDoor

/-- Behind some rounds of a scan: the bodies that were found, and the sector behind them. -/
def Sc (L : List UInt8) (ep : Int) (xs : List (List UInt8)) (at_ : Nat) : Prop :=
  (L.length % 64 ≠ 0 ∧ xs = [] ∧ at_ = 0) ∨
  (L.length % 64 = 0 ∧ 64 * at_ ≤ L.length ∧ xs.length ≤ at_ ∧ ∃ f, L.length - 64 * at_ ≤ 64 * f ∧
    scanV L ep = (xs ++ (scan10 ep f (L.drop (64 * at_)) xs.length).1, at_ + (scan10 ep f (L.drop (64 * at_)) xs.length).2))
theorem sc_start (L : List UInt8) (ep : Int) : Sc L ep [] 0 := by
  by_cases h : L.length % 64 = 0
  · refine Or.inr ⟨h, by omega, Nat.le_refl _, L.length / 64, by omega, ?_⟩
    unfold scanV
    rw [if_pos h]
    simp
  · exact Or.inl ⟨h, rfl, rfl⟩
theorem sc_len {L : List UInt8} {ep : Int} {xs : List (List UInt8)} {at_ : Nat} (h : Sc L ep xs at_) : xs.length ≤ at_ ∧ 64 * at_ ≤ L.length := by
  rcases h with ⟨_, rfl, rfl⟩ | ⟨_, h2, h3, _⟩
  · exact ⟨Nat.le_refl _, by omega⟩
  · exact ⟨h3, h2⟩
theorem scan10_stop {ep : Int} {f : Nat} {r : List UInt8} {m : Nat} (h : ¬ (gotE r = 0 ∧ (ep10 r : Int) = ep ∧ sq10 r = m + 1)) : scan10 ep f r m = ([], 0) := by
  cases f with
  | zero => rfl
  | succ f => unfold scan10; rw [if_neg h]
theorem get_in {L : List UInt8} {at_ : Nat} (h1 : L.length % 64 = 0) (h2 : 64 * at_ ≤ L.length) : getE10 L (at_ : Int) = gotE (L.drop (64 * at_)) := by
  unfold getE10
  rw [if_pos ⟨by omega, h1, by omega⟩, Int.toNat_natCast]
theorem sc_stop {L : List UInt8} {ep : Int} {xs : List (List UInt8)} {at_ : Nat} (h : Sc L ep xs at_)
    (hn : ¬ (getE10 L at_ = 0 ∧ getEp L at_ = ep ∧ getSq L at_ = (xs.length : Int) + 1)) : scanV L ep = (xs, at_) := by
  rcases h with ⟨h1, rfl, rfl⟩ | ⟨h1, h2, h3, f, _, h5⟩
  · unfold scanV; rw [if_neg h1]
  · rw [h5, scan10_stop, List.append_nil, Nat.add_zero]
    rintro ⟨g1, g2, g3⟩
    have e := get_in h1 h2
    apply hn
    rw [e]
    refine ⟨g1, ?_, ?_⟩
    · unfold getEp; rw [e, if_pos g1, Int.toNat_natCast]; exact g2
    · unfold getSq; rw [e, if_pos g1, Int.toNat_natCast]; omega
theorem sc_step {L : List UInt8} {ep : Int} {xs : List (List UInt8)} {at_ : Nat} (h : Sc L ep xs at_)
    (g1 : getE10 L at_ = 0) (g2 : getEp L at_ = ep) (g3 : getSq L at_ = (xs.length : Int) + 1) :
    ∃ to : Nat, getTo L at_ = to ∧ at_ < to ∧ 64 * to ≤ L.length ∧ Sc L ep (xs ++ [getB L at_]) to := by
  rcases h with ⟨h1, rfl, rfl⟩ | ⟨h1, h2, h3, f, h4, h5⟩
  · unfold getE10 at g1
    rw [if_neg (fun h => h1 h.2.1)] at g1
    omega
  · have e := get_in h1 h2
    unfold getEp at g2
    unfold getSq at g3
    rw [if_pos g1, Int.toNat_natCast] at g2 g3
    rw [e] at g1
    obtain ⟨c1, c2, c3, c4⟩ := got_canon g1
    have hup := nsec_up (n10 (L.drop (64 * at_)))
    have hto : getTo L at_ = ((at_ + nsec (n10 (L.drop (64 * at_))) : Nat) : Int) := by
      unfold getTo
      rw [e, if_pos g1, Int.toNat_natCast]
      omega
    have hb : getB L at_ = gotB (L.drop (64 * at_)) := by unfold getB; rw [e, if_pos g1, Int.toNat_natCast]
    rw [List.length_drop] at c4
    refine ⟨_, hto, by omega, by omega, ?_⟩
    rw [hb]
    obtain ⟨g, rfl⟩ : ∃ g, f = g + 1 := ⟨f - 1, by omega⟩
    refine Or.inr ⟨h1, by omega, by rw [List.length_append]; simp; omega, g, by omega, ?_⟩
    rw [h5]
    conv => lhs; unfold scan10
    rw [if_pos ⟨g1, g2, by omega⟩, List.drop_drop, List.length_append, List.append_assoc, ← Nat.mul_add]
    simp only [List.length_cons, List.length_nil, Nat.zero_add, List.cons_append, List.nil_append, Nat.add_assoc]
/-- What is scanned stands in just as many sectors. -/
theorem scanV_sum (L : List UInt8) (ep : Int) : (scanV L ep).2 = ((scanV L ep).1.map fun b => nsec b.length).sum ∧ 64 * (scanV L ep).2 ≤ L.length := by
  unfold scanV
  split
  · exact scan_sum ep _ L 0
  · exact ⟨rfl, Nat.zero_le _⟩
/-- With the frame of the next number more that is scanned, too. -/
theorem scanV_grows (L : List UInt8) (ep : Int) (b : List UInt8) (h : wrong10 ep (((scanV L ep).1.length : Int) + 1) b.length = 0) :
    scanV (L.take (64 * (scanV L ep).2) ++ put10 ep (((scanV L ep).1.length : Int) + 1) b) ep = ((scanV L ep).1 ++ [b], (scanV L ep).2 + nsec b.length) := by
  have hs := scanV_sum L ep
  have hl : (L.take (64 * (scanV L ep).2) ++ put10 ep (((scanV L ep).1.length : Int) + 1) b).length = 64 * ((scanV L ep).2 + nsec b.length) := by
    rw [List.length_append, List.length_take, put10_len, Nat.min_eq_left hs.2]; omega
  have e : ∀ M : List UInt8, M.length = 64 * ((scanV L ep).2 + nsec b.length) → scanV M ep = scan10 ep ((scanV L ep).2 + nsec b.length) M 0 := fun M hM => by
    unfold scanV at hM ⊢
    rw [if_pos (by omega), hM]
    congr 1
    omega
  rw [e _ hl]
  by_cases hw : L.length % 64 = 0
  · have e2 : scanV L ep = scan10 ep (L.length / 64) L 0 := by unfold scanV; rw [if_pos hw]
    rw [e2] at h ⊢
    have hz : ((0 : Nat) : Int) + ((scan10 ep (L.length / 64) L 0).1.length : Int) + 1 = ((scan10 ep (L.length / 64) L 0).1.length : Int) + 1 := by omega
    have hg := scan_grows ep (L.length / 64) L 0 b ((scan10 ep (L.length / 64) L 0).2 + nsec b.length) (by omega) (by rw [hz]; exact h) (Nat.le_refl _)
    rw [hz] at hg
    exact hg
  · have e2 : scanV L ep = ([], 0) := by unfold scanV; rw [if_neg hw]
    rw [e2] at h ⊢
    simp only [List.length_nil, Nat.mul_zero, List.take_zero, List.nil_append, Nat.zero_add] at h ⊢
    exact scan_once ep _ 0 b h (Nat.le_refl _)
theorem get_bad10 {L : List UInt8} {p : Int} (h : getE10 L p ≠ 0) : getEp L p = 0 ∧ getSq L p = 0 ∧ getB L p = [] ∧ getTo L p = 0 := by
  unfold getEp getSq getB getTo
  rw [if_neg h, if_neg h, if_neg h, if_neg h]
  exact ⟨rfl, rfl, rfl, rfl⟩
/-- What is taken of a place, and where it ends. -/
theorem get_fine10 {L : List UInt8} {p : Int} (h : getE10 L p = 0) : ∃ q n : Nat, p = q ∧ getTo L p = ((q + nsec n : Nat) : Int) ∧ (getB L p).length = n ∧ wrong10 (getEp L p) (getSq L p) n = 0 ∧ 64 * (q + nsec n) ≤ L.length ∧ put10 (getEp L p) (getSq L p) (getB L p) = (L.drop (64 * q)).take (64 * nsec n) := by
  have h0 := h
  unfold getE10 at h
  split at h
  · rename_i h1
    obtain ⟨c1, c2, c3, c4⟩ := got_canon h
    obtain ⟨q, rfl⟩ : ∃ q : Nat, p = q := ⟨p.toNat, by omega⟩
    rw [Int.toNat_natCast] at c1 c2 c3 c4 h
    rw [List.length_drop] at c4
    have hup := nsec_up (n10 (L.drop (64 * q)))
    refine ⟨q, n10 (L.drop (64 * q)), rfl, ?_, ?_, ?_, by omega, ?_⟩
    · unfold getTo; rw [if_pos h0, Int.toNat_natCast]; omega
    · unfold getB; rw [if_pos h0, Int.toNat_natCast]; exact c2
    · unfold getEp getSq; rw [if_pos h0, if_pos h0, Int.toNat_natCast]; exact c3
    · unfold getEp getSq getB; rw [if_pos h0, if_pos h0, if_pos h0, Int.toNat_natCast]; exact c1
  · omega
/-- A frame is taken of its sectors, whatever whole sectors stand ahead and behind. -/
theorem get_back10 (ep sq : Int) (b A Z : List UInt8) (k : Nat) (hA : A.length = 64 * k) (hZ : Z.length % 64 = 0) (h : wrong10 ep sq b.length = 0) :
    getE10 (A ++ (put10 ep sq b ++ Z)) k = 0 ∧ getEp (A ++ (put10 ep sq b ++ Z)) k = ep ∧ getSq (A ++ (put10 ep sq b ++ Z)) k = sq ∧ getB (A ++ (put10 ep sq b ++ Z)) k = b ∧ getTo (A ++ (put10 ep sq b ++ Z)) k = ((k + nsec b.length : Nat) : Int) := by
  have hp := put10_len ep sq b
  have hd : (A ++ (put10 ep sq b ++ Z)).drop (64 * k) = put10 ep sq b ++ Z := by rw [← hA, List.drop_left]
  obtain ⟨g1, g2, g3, g4, g5⟩ := got_back ep sq b Z h
  have e : getE10 (A ++ (put10 ep sq b ++ Z)) k = 0 := by
    rw [get_in (by rw [List.length_append, List.length_append]; omega) (by rw [List.length_append]; omega), hd]
    exact g1
  refine ⟨e, ?_, ?_, ?_, ?_⟩
  · unfold getEp; rw [if_pos e, Int.toNat_natCast, hd]; exact g2
  · unfold getSq; rw [if_pos e, Int.toNat_natCast, hd]; exact g3
  · unfold getB; rw [if_pos e, Int.toNat_natCast, hd]; exact g5
  · unfold getTo; rw [if_pos e, Int.toNat_natCast, hd, g4]; omega
/-- No sector of a frame but its first one begins a frame. -/
theorem get_apart10 (ep sq : Int) (b Z : List UInt8) (i : Nat) (h1 : 1 ≤ i) (h2 : i < nsec b.length) (hZ : Z.length % 64 = 0) : getE10 (put10 ep sq b ++ Z) i = 5 := by
  have hp := put10_len ep sq b
  rw [get_in (by rw [List.length_append]; omega) (by rw [List.length_append]; omega)]
  exact got_apart ep sq b Z i h1 h2
end Go.Proofs.YtpjahfobjnajcaaDoor
