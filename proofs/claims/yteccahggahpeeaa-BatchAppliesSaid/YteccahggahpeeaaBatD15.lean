/- The bytes of a store, in plain words: they are read back, and what is read, laid anew, is the bytes. -/
import Derived.Test.YteccahggahpeeaaMBatA15
import Derived.Test.YteccahggahpeeaaMByte
namespace Go.Proofs.Yteccahggahpeeaa

def recL (r : Rec15) : List UInt8 := putL r.1 4 ++ layL r.2
def tabL (T : Tb15) : List UInt8 := putL T.length 1 ++ T.flatMap recL
def storeL (S : St15) : List UInt8 := putL S.length 1 ++ S.flatMap tabL
def putS (S : St15) : List UInt8 := if checkS S = 0 then storeL S else []
/-- Rows are read, as many as are told, up to the first fault. -/
def rowsOn (L : List UInt8) : Nat → Rs → Tb15 → Rs × Tb15
  | 0, r, T => (r, T)
  | m + 1, r, T => if r.e = 0 then rowsOn L m (textR L (numR L r 4 999999) 200) (T ++ [(numV L r 4 999999, textL L (numR L r 4 999999) 200)]) else (r, T)
def tabsOn (L : List UInt8) : Nat → Rs → St15 → Rs × St15
  | 0, r, S => (r, S)
  | n + 1, r, S => if r.e = 0 then tabsOn L n (rowsOn L (numV L r 1 60).toNat (numR L r 1 60) []).1 (S ++ [(rowsOn L (numV L r 1 60).toNat (numR L r 1 60) []).2]) else (r, S)
def takeA (L : List UInt8) : Rs × St15 := tabsOn L (numV L ⟨0, 0⟩ 1 8).toNat (numR L ⟨0, 0⟩ 1 8) []
def takeSE (L : List UInt8) : Int := if (endR L (takeA L).1).e ≠ 0 then (endR L (takeA L).1).e else checkS (takeA L).2
def takeSV (L : List UInt8) : St15 := if takeSE L = 0 then (takeA L).2 else []

theorem put_fine {n x : Int} (hw : wideW x) (h0 : 0 ≤ n) (h1 : n < 256 ^ x.toNat) : putE n x = 0 := by unfold putE; rw [if_pos hw, if_pos ⟨h0, h1⟩]
theorem num_back {A B : List UInt8} {n x m : Int} (hn : n ≤ m) (h8 : n ≤ 9223372036854775807) (h : putE n x = 0) : numR (A ++ (putL n x ++ B)) ⟨A.length, 0⟩ x m = ⟨(A ++ putL n x).length, 0⟩ ∧ numV (A ++ (putL n x ++ B)) ⟨A.length, 0⟩ x m = n := by
  obtain ⟨g0, g1, g2, g3⟩ := get_back (A := A) (B := B) h8 h A.length rfl
  have hE : numE (A ++ (putL n x ++ B)) A.length x m = 0 := by unfold numE; rw [if_pos g0, g1, if_neg (by omega)]
  unfold numR numV
  refine ⟨?_, ?_⟩
  · rw [if_pos rfl, hE]
    unfold stp
    rw [if_pos rfl, g2, List.length_append]
    congr 1
    omega
  · rw [if_pos rfl, if_pos hE, g1]
theorem text_back {A B t : List UInt8} {m : Int} (hm : (t.length : Int) ≤ m) (ht : t.length ≤ 65535) : textR (A ++ (layL t ++ B)) ⟨A.length, 0⟩ m = ⟨(A ++ layL t).length, 0⟩ ∧ textL (A ++ (layL t ++ B)) ⟨A.length, 0⟩ m = t := by
  obtain ⟨_, g1, g2, g3⟩ := take_back (A := A) (B := B) ht A.length m rfl hm
  unfold textR textL
  refine ⟨?_, ?_⟩
  · rw [if_pos rfl, g1]
    unfold stp
    rw [if_pos rfl, g3, List.length_append]
    rfl
  · rw [if_pos rfl, g2]
theorem rows_back {T : Tb15} (hi : ∀ r ∈ T, 1 ≤ r.1 ∧ r.1 ≤ 999999) (ht : ∀ r ∈ T, r.2.length ≤ 200) : ∀ (A B : List UInt8) (U : Tb15), rowsOn (A ++ (T.flatMap recL ++ B)) T.length ⟨A.length, 0⟩ U = (⟨(A ++ T.flatMap recL).length, 0⟩, U ++ T) := by
  induction T with
  | nil => intro A B U; simp [rowsOn]
  | cons r T ih =>
    intro A B U
    have h1 := hi r (List.mem_cons_self ..)
    have h2 := ht r (List.mem_cons_self ..)
    have e1 : A ++ ((r :: T).flatMap recL ++ B) = A ++ (putL r.1 4 ++ (layL r.2 ++ (T.flatMap recL ++ B))) := by rw [List.flatMap_cons]; unfold recL; simp only [List.append_assoc]
    have e2 : A ++ ((r :: T).flatMap recL ++ B) = (A ++ putL r.1 4) ++ (layL r.2 ++ (T.flatMap recL ++ B)) := by rw [e1, List.append_assoc]
    have e3 : A ++ ((r :: T).flatMap recL ++ B) = (A ++ putL r.1 4 ++ layL r.2) ++ (T.flatMap recL ++ B) := by rw [e2, List.append_assoc (A ++ putL r.1 4)]
    obtain ⟨n1, n2⟩ := num_back (A := A) (B := layL r.2 ++ (T.flatMap recL ++ B)) (n := r.1) (x := 4) (m := 999999) (by omega) (by omega) (put_fine (Or.inr (Or.inr (Or.inl rfl))) (by omega) (by rw [show (256 : Int) ^ (4 : Int).toNat = 4294967296 from by decide]; omega))
    obtain ⟨t1, t2⟩ := text_back (A := A ++ putL r.1 4) (B := T.flatMap recL ++ B) (t := r.2) (m := 200) (by omega) (by omega)
    rw [← e1] at n1 n2
    rw [← e2] at t1 t2
    rw [List.length_cons]
    unfold rowsOn
    rw [if_pos rfl, n1, n2, t1, t2, e3, ih (fun r h => hi r (List.mem_cons_of_mem _ h)) (fun r h => ht r (List.mem_cons_of_mem _ h)), List.flatMap_cons]
    unfold recL
    simp only [List.append_assoc]
    rfl
theorem tabs_back {S : St15} (hS : ∀ T ∈ S, OkT T) : ∀ (A B : List UInt8) (Q : St15), tabsOn (A ++ (S.flatMap tabL ++ B)) S.length ⟨A.length, 0⟩ Q = (⟨(A ++ S.flatMap tabL).length, 0⟩, Q ++ S) := by
  induction S with
  | nil => intro A B Q; simp [tabsOn]
  | cons T S ih =>
    intro A B Q
    have hT := hS T (List.mem_cons_self ..)
    have hl := hT.len
    have e1 : A ++ ((T :: S).flatMap tabL ++ B) = A ++ (putL T.length 1 ++ (T.flatMap recL ++ (S.flatMap tabL ++ B))) := by rw [List.flatMap_cons]; unfold tabL; simp only [List.append_assoc]
    have e2 : A ++ ((T :: S).flatMap tabL ++ B) = (A ++ putL T.length 1) ++ (T.flatMap recL ++ (S.flatMap tabL ++ B)) := by rw [e1, List.append_assoc]
    have e3 : A ++ ((T :: S).flatMap tabL ++ B) = (A ++ putL T.length 1 ++ T.flatMap recL) ++ (S.flatMap tabL ++ B) := by rw [e2, List.append_assoc (A ++ putL T.length 1)]
    obtain ⟨n1, n2⟩ := num_back (A := A) (B := T.flatMap recL ++ (S.flatMap tabL ++ B)) (n := T.length) (x := 1) (m := 60) (by omega) (by omega) (put_fine (Or.inl rfl) (by omega) (by rw [show (256 : Int) ^ (1 : Int).toNat = 256 from by decide]; omega))
    have r1 := rows_back hT.ids hT.txt (A ++ putL T.length 1) (S.flatMap tabL ++ B) []
    rw [← e1] at n1 n2
    rw [← e2] at r1
    rw [List.length_cons]
    unfold tabsOn
    rw [if_pos rfl, n1, n2, Int.toNat_natCast, r1, e3, List.nil_append, ih fun T h => hS T (List.mem_cons_of_mem _ h), List.flatMap_cons]
    unfold tabL
    simp only [List.append_assoc]
    rfl
theorem end_whole {L : List UInt8} : endR L ⟨L.length, 0⟩ = ⟨L.length, 0⟩ := by
  unfold endR
  rw [if_neg (by simp)]
/-- A store comes back of its bytes. -/
theorem take_put {S : St15} (h : OkS S) : takeSE (storeL S) = 0 ∧ takeSV (storeL S) = S := by
  have hl := h.len
  have hp : putE S.length 1 = 0 := put_fine (Or.inl rfl) (by omega) (by rw [show (256 : Int) ^ (1 : Int).toNat = 256 from by decide]; omega)
  have hn : (S.length : Int) ≤ 8 := by omega
  have hn2 : (S.length : Int) ≤ 9223372036854775807 := by omega
  obtain ⟨A, hA⟩ : ∃ A : List UInt8, A = [] := ⟨_, rfl⟩
  obtain ⟨n1, n2⟩ := num_back (A := A) (B := S.flatMap tabL) hn hn2 hp
  subst hA
  have e0 : ([] : List UInt8) ++ (putL S.length 1 ++ S.flatMap tabL) = storeL S := by unfold storeL; exact List.nil_append _
  rw [e0] at n1 n2
  have t1 := tabs_back h.tab (putL S.length 1) [] []
  rw [List.append_nil] at t1
  have hA : takeA (storeL S) = (⟨(storeL S).length, 0⟩, S) := by
    unfold takeA
    rw [List.nil_append] at n1
    have n1' : numR (storeL S) ⟨0, 0⟩ 1 8 = ⟨(putL S.length 1).length, 0⟩ := n1
    have n2' : numV (storeL S) ⟨0, 0⟩ 1 8 = S.length := n2
    rw [n1', n2', Int.toNat_natCast]
    exact t1
  have hE : takeSE (storeL S) = 0 := by
    unfold takeSE
    rw [hA, end_whole, if_neg (by simp)]
    exact checkS_ok.2 h
  refine ⟨hE, ?_⟩
  unfold takeSV
  rw [if_pos hE, hA]
theorem rows_stop {L : List UInt8} {r : Rs} (h : r.e ≠ 0) (m : Nat) (T : Tb15) : rowsOn L m r T = (r, T) := by
  cases m with
  | zero => rfl
  | succ m => unfold rowsOn; rw [if_neg h]
theorem tabs_stop {L : List UInt8} {r : Rs} (h : r.e ≠ 0) (n : Nat) (S : St15) : tabsOn L n r S = (r, S) := by
  cases n with
  | zero => rfl
  | succ n => unfold tabsOn; rw [if_neg h]
theorem rows_in {L : List UInt8} (m : Nat) : ∀ (r : Rs) (T : Tb15), Within L r → Within L (rowsOn L m r T).1 := by
  induction m with
  | zero => intro r T h; exact h
  | succ m ih =>
    intro r T h
    unfold rowsOn
    split
    · exact ih _ _ (text_in (num_in h))
    · exact h
theorem tabs_in {L : List UInt8} (n : Nat) : ∀ (r : Rs) (S : St15), Within L r → Within L (tabsOn L n r S).1 := by
  induction n with
  | zero => intro r S h; exact h
  | succ n ih =>
    intro r S h
    unfold tabsOn
    split
    · exact ih _ _ (rows_in _ _ _ (num_in h))
    · exact h
theorem num_le {L : List UInt8} {r : Rs} {x m : Int} (h : r.e = 0) (h2 : (numR L r x m).e = 0) : 0 ≤ numV L r x m ∧ numV L r x m ≤ m := by
  unfold numR at h2
  rw [if_pos h] at h2
  obtain ⟨e0, _⟩ := stp_zero h2
  obtain ⟨g, g2⟩ := num_zero e0
  unfold numV
  rw [if_pos h, if_pos e0]
  exact ⟨(get_bound g).1, g2⟩
theorem rows_text {L : List UInt8} (m : Nat) : ∀ (r : Rs) (T : Tb15), Within L r → r.e = 0 → (rowsOn L m r T).1.e = 0 → ∃ U, (rowsOn L m r T).2 = T ++ U ∧ U.length = m ∧ U.flatMap recL = seg L r.p (rowsOn L m r T).1.p ∧ r.p ≤ (rowsOn L m r T).1.p := by
  induction m with
  | zero => intro r T _ _ _; exact ⟨[], by simp [rowsOn], rfl, by simp [rowsOn, seg_none], by simp [rowsOn]⟩
  | succ m ih =>
    intro r T hw h h2
    have hu : rowsOn L (m + 1) r T = rowsOn L m (textR L (numR L r 4 999999) 200) (T ++ [(numV L r 4 999999, textL L (numR L r 4 999999) 200)]) := by
      conv => lhs; unfold rowsOn
      rw [if_pos h]
    rw [hu] at h2 ⊢
    have h4 : (textR L (numR L r 4 999999) 200).e = 0 := by
      by_cases q : (textR L (numR L r 4 999999) 200).e = 0
      · exact q
      · rw [rows_stop q] at h2; exact absurd h2 q
    have h3 : (numR L r 4 999999).e = 0 := by
      by_cases q : (numR L r 4 999999).e = 0
      · exact q
      · unfold textR at h4; rw [if_neg q] at h4; exact absurd h4 q
    obtain ⟨U, u1, u2, u3, u4⟩ := ih _ _ (text_in (num_in hw)) h4 h2
    obtain ⟨n1, n2⟩ := num_text h h3
    obtain ⟨t1, t2⟩ := text_text h3 h4
    refine ⟨(numV L r 4 999999, textL L (numR L r 4 999999) 200) :: U, by rw [u1, List.append_assoc]; rfl, by rw [List.length_cons, u2], ?_, by omega⟩
    rw [List.flatMap_cons, u3]
    unfold recL
    rw [n1, t1, seg_join hw.1 n2 t2, seg_join hw.1 (by omega) u4]
theorem tabs_text {L : List UInt8} (n : Nat) : ∀ (r : Rs) (S : St15), Within L r → r.e = 0 → (tabsOn L n r S).1.e = 0 → ∃ Q, (tabsOn L n r S).2 = S ++ Q ∧ Q.length = n ∧ Q.flatMap tabL = seg L r.p (tabsOn L n r S).1.p ∧ r.p ≤ (tabsOn L n r S).1.p := by
  induction n with
  | zero => intro r S _ _ _; exact ⟨[], by simp [tabsOn], rfl, by simp [tabsOn, seg_none], by simp [tabsOn]⟩
  | succ n ih =>
    intro r S hw h h2
    have hu : tabsOn L (n + 1) r S = tabsOn L n (rowsOn L (numV L r 1 60).toNat (numR L r 1 60) []).1 (S ++ [(rowsOn L (numV L r 1 60).toNat (numR L r 1 60) []).2]) := by
      conv => lhs; unfold tabsOn
      rw [if_pos h]
    rw [hu] at h2 ⊢
    have h4 : (rowsOn L (numV L r 1 60).toNat (numR L r 1 60) []).1.e = 0 := by
      by_cases q : (rowsOn L (numV L r 1 60).toNat (numR L r 1 60) []).1.e = 0
      · exact q
      · rw [tabs_stop q] at h2; exact absurd h2 q
    have h3 : (numR L r 1 60).e = 0 := by
      by_cases q : (numR L r 1 60).e = 0
      · exact q
      · rw [rows_stop q] at h4; exact absurd h4 q
    obtain ⟨Q, u1, u2, u3, u4⟩ := ih _ _ (rows_in _ _ _ (num_in hw)) h4 h2
    obtain ⟨n1, n2⟩ := num_text h h3
    have hb := num_le h h3
    obtain ⟨T, t1, t2, t3, t4⟩ := rows_text _ _ [] (num_in hw) h3 h4
    rw [List.nil_append] at t1
    refine ⟨(rowsOn L (numV L r 1 60).toNat (numR L r 1 60) []).2 :: Q, by rw [u1, List.append_assoc]; rfl, by rw [List.length_cons, u2], ?_, by omega⟩
    rw [List.flatMap_cons, u3]
    have e1 : tabL (rowsOn L (numV L r 1 60).toNat (numR L r 1 60) []).2 = seg L r.p (rowsOn L (numV L r 1 60).toNat (numR L r 1 60) []).1.p := by
      unfold tabL
      rw [t1, t2, t3, Int.toNat_of_nonneg hb.1, n1, seg_join hw.1 n2 t4]
    rw [e1, seg_join hw.1 (by omega) u4]
/-- What is taken, laid anew, is the bytes. -/
theorem put_take {L : List UInt8} (h : takeSE L = 0) : OkS (takeSV L) ∧ storeL (takeSV L) = L := by
  have hV : takeSV L = (takeA L).2 := by unfold takeSV; rw [if_pos h]
  unfold takeSE at h
  have hw0 : Within L ⟨0, 0⟩ := ⟨Int.le_refl _, Int.natCast_nonneg _⟩
  by_cases q : (endR L (takeA L).1).e ≠ 0
  · rw [if_pos q] at h; exact absurd h q
  have q := Decidable.not_not.1 q
  rw [if_neg (by simpa using q)] at h
  have hok := checkS_ok.1 h
  have hin : Within L (takeA L).1 := tabs_in _ _ _ (num_in hw0)
  have hend : (takeA L).1.e = 0 ∧ (takeA L).1.p = L.length := by
    unfold endR at q
    split at q
    · cases q
    · rename_i hn
      refine ⟨q, ?_⟩
      have := hin.2
      by_cases hlt : (takeA L).1.p < L.length
      · exact absurd ⟨q, hlt⟩ hn
      · omega
  have h3 : (numR L ⟨0, 0⟩ 1 8).e = 0 := by
    by_cases q3 : (numR L ⟨0, 0⟩ 1 8).e = 0
    · exact q3
    · have := hend.1
      unfold takeA at this
      rw [tabs_stop q3] at this
      exact absurd this q3
  obtain ⟨n1, n2⟩ := num_text (r := ⟨0, 0⟩) rfl h3
  have hb := num_le (r := ⟨0, 0⟩) rfl h3
  obtain ⟨Q, t1, t2, t3, t4⟩ := tabs_text _ _ [] (num_in hw0) h3 hend.1
  have t1' : (takeA L).2 = Q := t1
  have t3' : Q.flatMap tabL = seg L (numR L ⟨0, 0⟩ 1 8).p (takeA L).1.p := t3
  have t4' : (numR L ⟨0, 0⟩ 1 8).p ≤ (takeA L).1.p := t4
  refine ⟨by rw [hV]; exact hok, ?_⟩
  rw [hV, t1']
  unfold storeL
  rw [t2, t3', Int.toNat_of_nonneg hb.1, n1]
  have e1 := seg_join (S := L) (a := 0) (b := (numR L ⟨0, 0⟩ 1 8).p) (c := (takeA L).1.p) (Int.le_refl _) n2 t4'
  rw [hend.2] at e1
  rw [hend.2]
  show seg L 0 _ ++ _ = L
  rw [e1, seg_all]
end Go.Proofs.Yteccahggahpeeaa
