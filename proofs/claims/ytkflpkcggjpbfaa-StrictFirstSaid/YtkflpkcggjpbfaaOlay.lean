/- The program's Put, Lay, Take, Row and Flag, for every number, text, row and place, in every world. -/
import Derived.Test.YtkflpkcggjpbfaaOcount
namespace Go.Proofs.Ytkflpkcggjpbfaa
open Go.RowKit

theorem pairs_load {w : World} {g : Nat} {t : TypeId} {x y : Value} {fr : Nat × Nat} (h : w.heap[g]? = some (.cells #[x, y] t fr)) : (loadVar 102 ⟨g, 0, none⟩).run Try.prog w = .ok (.agg #[x, y]) w :=
  run_loadVar_row (P := Try.prog) w g t 102 #[x, y] fr _ h Try.underlying102 rfl (by kernel_rfl)

theorem oput_any (n x : Int) (hn : n ≤ 9223372036854775807) (w : World) :
    Calls Try.prog 18 #[.int .i64 n, .int .i64 x] w fun e w' => ∃ t : ByteArray, e = .returned (.tuple #[.string t, .int .i64 (putE n x)]) ∧ Hid (t.data.toList = putL n x) ∧ Below w.heap.size w w' := by
  have HW : Hid (∀ v, Calls Try.prog 47 #[.int .i64 x] v fun e w' => e = .returned (.bool (decide (wideW x))) ∧ v = w') := Lib.hid fun v => oiswidth_any x v
  by_cases hw : wideW x
  · rw [decide_eq_true hw] at HW
    have HE := Lib.hid (oenc_lit n x hw hn)
    clear hw
    go_enter Try.func18, Try.ntmps18
    go_wp2_with (first | (go_at_call 47; refine (HW.out _).mono ?_; rintro e w1 ⟨rfl, rfl⟩) | (go_at_call 48; refine (HE.out _ _).mono ?_; rintro e w1 ⟨t, rfl, ht, hb⟩))
    go_ret2
    exact ⟨t, rfl, ht, hb⟩
  · rw [decide_eq_false hw] at HW
    have he : putE n x = 2 := by unfold putE; rw [if_neg hw]
    have hl : putL n x = [] := by unfold putL; rw [if_neg (by omega)]
    rw [he, hl]
    clear he hl
    go_enter Try.func18, Try.ntmps18
    go_wp2_with (go_at_call 47; refine (HW.out _).mono ?_; rintro e w1 ⟨rfl, rfl⟩)
    go_ret2
    exact ⟨_, rfl, Lib.hid rfl, Below.refl _ _⟩

theorem len_put {n : Nat} (h : n ≤ 65535) : putE (n : Int) 2 = 0 ∧ putL (n : Int) 2 = be 2 n := by
  have e : putE (n : Int) 2 = 0 := by unfold putE; rw [if_pos (by unfold wideW; omega), if_pos (by rw [show (2 : Int).toNat = 2 from rfl]; omega)]
  exact ⟨e, by unfold putL; rw [if_pos e]; rfl⟩
theorem two_wide : wideW 2 := by unfold wideW; omega

theorem olay_any (s : ByteArray) (hs : s.size ≤ 4611686018427387904) (w : World) :
    Calls Try.prog 19 #[.string s] w fun e w' => ∃ t : ByteArray, e = .returned (.tuple #[.string t, .int .i64 (layE s.data.toList)]) ∧ Hid (t.data.toList = layL s.data.toList) ∧ Below w.heap.size w w' := by
  have hz : s.data.toList.length = s.size := by simp
  by_cases hb : s.size ≤ 65535
  · have he : layE s.data.toList = 0 := by unfold layE; rw [hz, if_pos hb]
    have HL : Hid (layL s.data.toList = be 2 s.size ++ s.data.toList) := Lib.hid (by unfold layL; rw [if_pos he, hz])
    have hd : decide ((65535 : Int) < (s.size : Int)) = false := decide_eq_false (by omega)
    obtain ⟨l1, l2⟩ := len_put hb
    have HE : Hid (∀ (w : World) (t : TypeId), Calls Try.prog 48 #[.int .i64 2, .slice (some ⟨w.heap.size, 0, none⟩) 1 1] (w.alloc (.cells #[.int .i64 s.size] t)) fun e w' => ∃ u : ByteArray, e = .returned (.tuple #[.string u, .int .i64 0]) ∧ Hid (u.data.toList = be 2 s.size) ∧ Below w.heap.size w w') := Lib.hid fun w t => by
      have h := oenc_lit (s.size : Int) 2 two_wide (by omega) w t
      rw [l1, l2] at h
      exact h
    have HS : Hid (∀ u : ByteArray, u.data.toList = be 2 s.size → ¬ 9223372036854775807 < u.size + s.size) := Lib.hid fun u hu => by
      have := congrArg List.length hu
      rw [be_len] at this
      have : u.size = 2 := by simpa using this
      omega
    rw [he]
    clear he hz l1 l2 hb
    go_enter Try.func19, Try.ntmps19
    go_wp2_with (go_at_call 48; refine (HE.out _ _).mono ?_; rintro e w1 ⟨t, rfl, ht, hb⟩; have hsz := HS.out t ht.out)
    go_ret2
    exact ⟨_, rfl, Lib.hid (by rw [HL.out, ← ht.out]; simp), hb⟩
  · have he : layE s.data.toList = 3 := by unfold layE; rw [hz, if_neg hb]
    have hl : layL s.data.toList = [] := by unfold layL; rw [if_neg (by omega)]
    have hd : decide ((65535 : Int) < (s.size : Int)) = true := decide_eq_true (by omega)
    rw [he, hl]
    clear hb he hl hz
    go_enter Try.func19, Try.ntmps19
    go_wp2
    go_ret2
    exact ⟨_, rfl, Lib.hid rfl, Below.refl _ _⟩

theorem oflag_same (b : Bool) (w : World) :
    Calls Try.prog 22 #[.bool b] w fun e w' => e = .returned (.string ⟨#[if b then 1 else 0]⟩) ∧ w' = w := by
  cases b
  all_goals (go_enter Try.func22, Try.ntmps22; go_wp2; go_ret; exact ⟨rfl, rfl⟩)
theorem oflag_any (b : Bool) (w : World) :
    Calls Try.prog 22 #[.bool b] w fun e w' => e = .returned (.string ⟨#[if b then 1 else 0]⟩) ∧ Below w.heap.size w w' :=
  (oflag_same b w).mono fun _ _ h => ⟨h.1, by rw [h.2]; exact Below.refl _ _⟩

theorem clone_any (s : ByteArray) (hs : s.size ≤ 281474976710656) (w : World) :
    Calls Try.prog 26 #[.string s] w fun e w' => e = .returned (.string s) ∧ Below w.heap.size w w' := by
  have HC : Hid (∀ v, Calls Try.prog 51 #[.string s] v fun e w' => e = .returned (.string s) ∧ Below v.heap.size v w') := Lib.hid fun v => Try.stringslite_Clone s v hs
  go_enter Try.func26, Try.ntmps26
  go_wp2_with (go_at_call 51; refine (HC.out _).mono ?_; rintro e w1 ⟨rfl, hb⟩)
  go_ret
  exact ⟨rfl, hb⟩

theorem take_cnt {s : List UInt8} {p m : Int} : takeE s p m = if cntE s p m = 0 then (if s.length < p + 2 + getV s p 2 then 4 else 0) else cntE s p m := by
  unfold takeE cntE
  by_cases h0 : m < 0
  · rw [if_neg (by omega), if_pos h0, if_neg (by omega)]
  · rw [if_neg h0]
    by_cases hg : getE s p 2 = 0
    · obtain ⟨_, f0, f1, _⟩ := get_fine hg
      rw [if_pos hg, if_pos hg, if_pos ⟨by omega, f0, by omega⟩]
      by_cases h1 : m < getV s p 2
      · rw [if_pos h1, if_pos h1, if_neg (by omega)]
      · rw [if_neg h1, if_neg h1, if_pos rfl]
    · rw [if_neg hg, if_neg hg, if_neg hg]
      by_cases h2 : 0 ≤ m ∧ 0 ≤ p ∧ p ≤ s.length
      · rw [if_pos h2]
      · rw [if_neg h2]
        unfold getE
        rw [if_neg (fun h => h2 ⟨by omega, h.2⟩)]

set_option maxHeartbeats 2000000 in
theorem otake_any (s : ByteArray) (hs : s.size ≤ 4611686018427387904) (p m : Int) (hp0 : -9223372036854775808 ≤ p) (hp1 : p ≤ 9223372036854775807) (w : World) :
    Calls Try.prog 58 #[.string s, .int .i64 p, .int .i64 m] w fun e w' => ∃ t : ByteArray, e = .returned (.tuple #[.agg #[.string t, .int .i64 (takeT s.data.toList p m)], .int .i64 (takeE s.data.toList p m)]) ∧ Hid (t.data.toList = takeL s.data.toList p m) ∧ Below w.heap.size w w' := by
  have HC : Hid (∀ v, Calls Try.prog 66 #[.string s, .int .i64 p, .int .i64 m] v fun e w' => e = .returned (.tuple #[.agg #[.int .i64 (cntV s.data.toList p m), .int .i64 (cntT s.data.toList p m)], .int .i64 (cntE s.data.toList p m)]) ∧ Below v.heap.size v w') := Lib.hid fun v => ocount_any s hs p m hp0 hp1 v
  have hz : s.data.toList.length = s.size := by simp
  have hbad : takeE s.data.toList p m ≠ 0 → takeL s.data.toList p m = [] ∧ takeT s.data.toList p m = 0 := fun h => by unfold takeL takeT; rw [if_neg h, if_neg h]; exact ⟨rfl, rfl⟩
  have htc := take_cnt (s := s.data.toList) (p := p) (m := m)
  rw [hz] at htc
  by_cases h0 : cntE s.data.toList p m = 0
  · rw [if_pos h0] at htc
    have hv : cntV s.data.toList p m = getV s.data.toList p 2 := by unfold cntV; rw [if_pos h0]
    have ht : cntT s.data.toList p m = p + 2 := by unfold cntT; rw [if_pos h0]
    have hg : getE s.data.toList p 2 = 0 := by
      unfold cntE at h0
      split at h0
      · omega
      · split at h0
        · rename_i h; exact h
        · rename_i h; exact absurd h0 h
    obtain ⟨b0, _, _, b3⟩ := get_bound hg
    have b4 := b3 rfl
    obtain ⟨_, f0, f1, _⟩ := get_fine hg
    rw [hz] at f1
    rw [hv, ht, h0] at HC
    obtain ⟨q, rfl⟩ : ∃ q : Nat, p = q := ⟨p.toNat, by omega⟩
    obtain ⟨V, hV⟩ : ∃ V : Nat, getV s.data.toList (q : Int) 2 = V := ⟨(getV s.data.toList (q : Int) 2).toNat, by omega⟩
    rw [hV] at HC htc
    have w1 : IntKind.i64.wrap ((s.size : Int) - ((q : Int) + 2)) = (s.size : Int) - ((q : Int) + 2) := IntWalk.i64_in _ (by omega)
    by_cases h2 : (s.size : Int) < (q : Int) + 2 + (V : Int)
    · rw [if_pos h2] at htc
      obtain ⟨hl, htt⟩ := hbad (by omega)
      have hd : decide ((s.size : Int) - ((q : Int) + 2) < (V : Int)) = true := decide_eq_true (by omega)
      rw [htc, hl, htt]
      clear htc hl htt hbad hv ht hg b0 b3 h2 hV h0
      go_enter Try.func58, Try.ntmps58
      go_wp2_with (go_at_call 66; refine (HC.out _).mono ?_; rintro e w2 ⟨rfl, b1⟩; obtain ⟨c0, c1, g0, g1, hb1, hg1⟩ := pair_two b1 (.cells #[.int .i64 V, .int .i64 ((q : Int) + 2)] 98))
      refine bodyPost_ret (results_row_slot rfl _ _ w.heap.size _ rfl (pairs_load (two_stored hg1.out _ _))) rfl ?_
      exact ⟨_, rfl, Lib.hid rfl, two_below hb1.out (Nat.le_refl _) _ _⟩
    · rw [if_neg h2] at htc
      have htt : takeT s.data.toList q m = (q : Int) + 2 + (V : Int) := by unfold takeT; rw [if_pos htc, hV]
      have HL : Hid ((s.extract (q + 2) (q + 2 + V)).data.toList = takeL s.data.toList (q : Int) m) := Lib.hid (by
        unfold takeL
        rw [if_pos htc, hV, extract_list, Int.toNat_natCast, show ((q : Int) + 2).toNat = q + 2 by omega, show q + 2 + V - (q + 2) = V by omega])
      have hd : decide ((s.size : Int) - ((q : Int) + 2) < (V : Int)) = false := decide_eq_false (by omega)
      have hin : q + 2 + V ≤ s.size := by omega
      have HX : Hid (∀ v, Calls Try.prog 26 #[.string (s.extract (q + 2) (q + 2 + V))] v fun e w' => e = .returned (.string (s.extract (q + 2) (q + 2 + V))) ∧ Below v.heap.size v w') := Lib.hid fun v => clone_any _ (by simp; omega) v
      rw [htc, htt]
      clear htc htt hbad hv ht hg b0 b3 h2 hV h0
      go_enter Try.func58, Try.ntmps58
      go_wp2_with (first | (go_at_call 66; refine (HC.out _).mono ?_; rintro e w2 ⟨rfl, b1⟩; obtain ⟨c0, c1, g0, g1, hb1, hg1⟩ := pair_two b1 (.cells #[.int .i64 V, .int .i64 ((q : Int) + 2)] 98)) | (go_at_call 26; refine (HX.out _).mono ?_; rintro e w3 ⟨rfl, b3⟩; clear c0 c1 g0 g1; have hg3 := old_obj b3 hg1.out; obtain ⟨c0, c1, g0, g1⟩ := two_cells hg3; have HG3 := Lib.hid hg3; clear hg3; have HB3 := Lib.hid (hb1.out.trans (b3.mono hb1.out.size))))
      refine bodyPost_ret (results_row_slot rfl _ _ w.heap.size _ rfl (pairs_load (two_stored HG3.out _ _))) rfl ?_
      exact ⟨_, rfl, HL, two_below HB3.out (Nat.le_refl _) _ _⟩
  · rw [if_neg h0] at htc
    have hv : cntV s.data.toList p m = 0 := by unfold cntV; rw [if_neg h0]
    have ht : cntT s.data.toList p m = 0 := by unfold cntT; rw [if_neg h0]
    obtain ⟨hl, htt⟩ := hbad (by omega)
    rw [hv, ht, ← htc] at HC
    rw [hl, htt]
    have hd : (takeE s.data.toList p m != 0) = true := by rw [bne_iff_ne]; omega
    clear hl htt hv ht hbad
    rw [htc] at HC hd ⊢
    generalize cntE s.data.toList p m = E at *
    clear htc h0
    go_enter Try.func58, Try.ntmps58
    go_wp2_with (go_at_call 66; refine (HC.out _).mono ?_; rintro e w2 ⟨rfl, b1⟩; obtain ⟨c0, c1, g0, g1, hb1, hg1⟩ := pair_two b1 (.cells #[.int .i64 0, .int .i64 0] 98))
    refine bodyPost_ret (results_row_slot rfl _ _ w.heap.size _ rfl (pairs_load (two_stored hg1.out _ _))) rfl ?_
    exact ⟨_, rfl, Lib.hid rfl, two_below hb1.out (Nat.le_refl _) _ _⟩
end Go.Proofs.Ytkflpkcggjpbfaa
