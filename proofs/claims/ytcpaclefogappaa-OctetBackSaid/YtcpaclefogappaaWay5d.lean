/- The walk of the law OctetBack: it returns true in every world and leaves what lay there. -/
import Derived.Test.YtcpaclefogappaaWay5c
namespace Go.Proofs.Ytcpaclefogappaa
open Go.RowKit

/-- A text between two others. -/
def amid (S : ByteArray) : ByteArray := ⟨#[98, 101, 102, 111, 114, 101]⟩ ++ S ++ ⟨#[98, 101, 104, 105, 110, 100]⟩
theorem amid_list (S : ByteArray) : (amid S).data.toList = [98, 101, 102, 111, 114, 101] ++ (S.data.toList ++ [98, 101, 104, 105, 110, 100]) := by unfold amid; simp
theorem amid_size (S : ByteArray) : (amid S).size = 12 + S.size := by
  have h := congrArg List.length (amid_list S)
  rw [List.length_append, List.length_append] at h
  simp at h
  omega
theorem bt_size (l : List UInt8) : (bt l).size = l.length := by
  have h := congrArg List.length (bt_list l)
  simpa using h
theorem back_get {n k : Int} (hn : n ≤ 9223372036854775807) (h : putE n k = 0) : getE (amid (bt (putL n k))).data.toList 6 k = 0 ∧ getV (amid (bt (putL n k))).data.toList 6 k = n ∧ getT (amid (bt (putL n k))).data.toList 6 k = 6 + k ∧ ((bt (putL n k)).size : Int) = k := by
  obtain ⟨h1, h2, h3, h4⟩ := get_back (A := [98, 101, 102, 111, 114, 101]) (B := [98, 101, 104, 105, 110, 100]) hn h 6 rfl
  rw [amid_list, bt_list, bt_size]
  exact ⟨h1, h2, h3, h4⟩
theorem back_row {l : List Int} {k : Int} (hx : ∀ y ∈ l, y ≤ 9223372036854775807) (h : rowE k l = 0) : unrowE (amid (bt (rowL k l))).data.toList 6 k l.length = 0 ∧ unrowL (amid (bt (rowL k l))).data.toList 6 k l.length = l ∧ unrowT (amid (bt (rowL k l))).data.toList 6 k l.length = 6 + (bt (rowL k l)).size := by
  obtain ⟨h1, h2, h3⟩ := row_back (A := [98, 101, 102, 111, 114, 101]) (B := [98, 101, 104, 105, 110, 100]) hx h 6 l.length rfl (Int.le_refl _)
  rw [amid_list, bt_list, bt_size]
  exact ⟨h1, h2, h3⟩
theorem back_take {t : ByteArray} (ht : t.size ≤ 65535) : layE t.data.toList = 0 ∧ takeE (amid (bt (layL t.data.toList))).data.toList 6 t.size = 0 ∧ takeL (amid (bt (layL t.data.toList))).data.toList 6 t.size = t.data.toList ∧ takeT (amid (bt (layL t.data.toList))).data.toList 6 t.size = 6 + (bt (layL t.data.toList)).size := by
  have hz : t.data.toList.length = t.size := by simp
  obtain ⟨h0, h1, h2, h3⟩ := take_back (A := [98, 101, 102, 111, 114, 101]) (B := [98, 101, 104, 105, 110, 100]) (t := t.data.toList) (by omega) 6 t.size rfl (by omega)
  rw [amid_list, bt_list, bt_size]
  exact ⟨h0, h1, h2, h3⟩
theorem lay_size {t : ByteArray} (ht : t.size ≤ 65535) : (bt (layL t.data.toList)).size = 2 + t.size := by
  have hz : t.data.toList.length = t.size := by simp
  rw [bt_size]
  unfold layL layE
  rw [hz, if_pos ht, if_pos rfl, List.length_append, be_len, hz]
theorem row_size {l : List Int} {k : Int} (h : rowE k l = 0) : (bt (rowL k l)).size = 2 + l.length * k.toNat := by
  rw [bt_size]
  unfold rowL
  rw [if_pos h, List.length_append, be_len]
  have := flat_len k.toNat l
  unfold flat at this
  omega
theorem olay_bt (s : ByteArray) (hs : s.size ≤ 4611686018427387904) (w : World) :
    Calls Try.prog 14 #[.string s] w fun e w' => e = .returned (.tuple #[.string (bt (layL s.data.toList)), .int .i64 (layE s.data.toList)]) ∧ Below w.heap.size w w' :=
  (olay_any s hs w).mono fun _ _ ⟨t, he, ht, hb⟩ => ⟨by rw [he, bt_of ht.out], hb⟩
theorem otake_bt (s : ByteArray) (hs : s.size ≤ 4611686018427387904) (p m : Int) (hp0 : -9223372036854775808 ≤ p) (hp1 : p ≤ 9223372036854775807) (w : World) :
    Calls Try.prog 16 #[.string s, .int .i64 p, .int .i64 m] w fun e w' => e = .returned (.tuple #[.agg #[.string (bt (takeL s.data.toList p m)), .int .i64 (takeT s.data.toList p m)], .int .i64 (takeE s.data.toList p m)]) ∧ Below w.heap.size w w' :=
  (otake_any s hs p m hp0 hp1 w).mono fun _ _ ⟨t, he, ht, hb⟩ => ⟨by rw [he, bt_of ht.out], hb⟩

set_option maxRecDepth 100000 in
set_option maxHeartbeats 2000000 in
theorem octetBack_walk (w : World) (n : Int) (hn : (Lit.int .i64 n).wf = true) (t : ByteArray) (_hs : t.size ≤ maxLen) (a : Option Addr) (cap : Nat) (l : List Int) (_ : l.length ≤ maxLen) (ht : Ints w.heap.size w a l) (hwf : ∀ n ∈ l, (Lit.int .i64 n).wf = true) :
    Calls Try.prog 6 #[.int .i64 n, .string t, .slice a l.length cap] w fun e w' => e = .returned (.bool true) ∧ Below w.heap.size w w' := by
  have hb := Below.refl w.heap.size w
  have hn1 := (Go.bounds_i64 hn).2
  have hlx : ∀ y ∈ l, y ≤ 9223372036854775807 := fun y hy => (Go.bounds_i64 (hwf y hy)).2
  clear hn hwf
  by_cases h : (1000 : Int) < (t.size : Int)
  · have hd : decide ((1000 : Int) < (t.size : Int)) = true := decide_eq_true h
    clear h
    go_enter Try.func6, Try.ntmps6
    go_wp2_with (go_at_call 9; refine (awake5_any _).mono ?_; rintro e w1 ⟨rfl, b1⟩; replace hb := hb.trans (b1.mono hb.size))
    go_ret
    exact ⟨rfl, hb⟩
  · have hd : decide ((1000 : Int) < (t.size : Int)) = false := decide_eq_false h
    by_cases h2 : (100 : Int) < (l.length : Int)
    · have hd2 : decide ((100 : Int) < (l.length : Int)) = true := decide_eq_true h2
      clear h h2
      go_enter Try.func6, Try.ntmps6
      go_wp2_with (go_at_call 9; refine (awake5_any _).mono ?_; rintro e w1 ⟨rfl, b1⟩; replace hb := hb.trans (b1.mono hb.size))
      go_ret
      exact ⟨rfl, hb⟩
    · have hd2 : decide ((100 : Int) < (l.length : Int)) = false := decide_eq_false h2
      have hts : t.size ≤ 1000 := by omega
      have hln : l.length ≤ 100 := by omega
      have HB := Lib.hid hb
      have HI := Lib.hid ht
      have HX := Lib.hid hlx
      clear h h2 hb ht hlx
      go_enter Try.func6, Try.ntmps6
      go_wp2
      go_loopw [7] (fun k' wr => ∃ k : Int, k' = .int .i64 k ∧ 1 ≤ k ∧ k ≤ 16 ∧ Hid (Below w.heap.size w wr) ∧ Hid (Ints wr.heap.size wr a l)) (fun k _ => 17 - (intOf k).toNat)
      case atStart => exact ⟨1, rfl, by omega, by omega, HB, HI⟩
      case round =>
        clear HB HI
        obtain ⟨k, rfl, hk1, hk2, hb, hI⟩ := hrel
        by_cases hlt : k ≤ 8
        · have d1 : decide (k ≤ 8) = true := decide_eq_true hlt
          have H1 := Lib.hid (oput_bt n k hn1)
          have H2 : Hid (∀ v, Ints v.heap.size v a l → Calls Try.prog 19 #[.int .i64 k, .slice a l.length cap] v fun e w' => e = .returned (.tuple #[.string (bt (rowL k l)), .int .i64 (rowE k l)]) ∧ Below v.heap.size v w') := Lib.hid fun v hv => orow_bt a cap k l HX.out (by omega) v hv
          have HS : Hid (∀ (p q : Option Addr) (c d : Nat) (v : World), Ints v.heap.size v p l → Ints v.heap.size v q l → Calls Try.prog 23 #[.slice p l.length c, .slice q l.length d] v fun e w' => e = .returned (.bool true) ∧ Below v.heap.size v w') := Lib.hid fun p q c d v hp hq => by
            have := same_any p q c d l l v (by omega) hp hq
            rw [decide_eq_true rfl] at this
            exact this
          go_upto_if 41 with (go_at_call 10; refine (H1.out _).mono ?_; rintro e w1 ⟨rfl, b1⟩; replace hb := Lib.hid (hb.out.trans (b1.mono hb.out.size)); replace hI := Lib.hid (hI.out.step b1); clear b1)
          go_cut [] (fun wx => Hid (Below w.heap.size w wx) ∧ Hid (Ints wx.heap.size wx a l))
          case first =>
            clear H1 H2 HS
            by_cases e1 : putE n k = 0
            · obtain ⟨g1, g2, g3, g4⟩ := back_get hn1 e1
              have f1 : (putE n k == 0) = true := by rw [e1]; rfl
              have HG := Lib.hid (oget_any (amid (bt (putL n k))) (by rw [amid_size]; omega) 6 k (by omega) (by omega))
              rw [g1, g2, g3] at HG
              have q1 : ((bt (putL n k)).size : Int) = k := g4
              clear g1 g2 g3 g4 e1
              generalize putE n k = E at *
              generalize bt (putL n k) = S at *
              have HAM : amid S = ⟨#[98, 101, 102, 111, 114, 101]⟩ ++ S ++ ⟨#[98, 101, 104, 105, 110, 100]⟩ := rfl
              rw [HAM] at HG
              clear HAM
              have q2 : ((S.size : Int) != k) = false := by rw [q1]; simp
              have q3 : ((n : Int) != n) = false := by simp
              have q4 : ((6 : Int) + k != 6 + k) = false := by simp
              have z1 : ¬ 9223372036854775807 < 6 + S.size := by omega
              have z2 : ¬ 9223372036854775807 < 6 + S.size + 6 := by omega
              go_upto_region 9 with (go_at_call 12; refine (HG.out _).mono ?_; rintro e w2 ⟨rfl, b2⟩; replace hb := Lib.hid (hb.out.trans (b2.mono hb.out.size)); replace hI := Lib.hid (hI.out.step b2); clear b2)
              have v1 := Var2.new w2 (.int .i64 n) (.int .i64 (6 + k)) 30
              replace hI := Lib.hid (hI.out.lit (Obj.cells #[.int .i64 n, .int .i64 (6 + k)] 30))
              replace hb := Lib.hid (hb.out.alloc hb.out.size (Obj.cells #[.int .i64 n, .int .i64 (6 + k)] 30))
              generalize w2.alloc (Obj.cells #[.int .i64 n, .int .i64 (6 + k)] 30) = V1 at *
              generalize w2.heap.size = n1 at *
              have c0 := v1.c0
              have c1 := v1.c1
              clear HG
              go_wp2_with fail
              go_meet
              exact ⟨hb, hI⟩
            · have f1 : (putE n k == 0) = false := by rw [beq_eq_false_iff_ne]; exact e1
              clear e1
              generalize putE n k = E at *
              go_wp2_with fail
              go_meet
              exact ⟨hb, hI⟩
          case rest =>
            clear hb hI H1
            obtain ⟨hb, hI⟩ := hcut
            go_upto_if 78 with (go_at_call 19; refine (H2.out _ hI.out).mono ?_; rintro e w1 ⟨rfl, b1⟩; replace hb := Lib.hid (hb.out.trans (b1.mono hb.out.size)); replace hI := Lib.hid (hI.out.step b1); clear b1)
            by_cases e2 : rowE k l = 0
            · obtain ⟨g1, g2, g3⟩ := back_row HX.out e2
              have f2 : (rowE k l == 0) = true := by rw [e2]; rfl
              have rs := row_size e2
              have hm : l.length * k.toNat ≤ 100 * 8 := Nat.mul_le_mul hln (by omega)
              have hS : (bt (rowL k l)).size ≤ 802 := by omega
              have HU := Lib.hid (ounrow_any (amid (bt (rowL k l))) (by rw [amid_size]; omega) 6 k l.length (by omega) (by omega))
              rw [g1, g2, g3] at HU
              clear g1 g2 g3 e2 rs hm H2
              generalize rowE k l = E at *
              generalize bt (rowL k l) = S at *
              have HAM : amid S = ⟨#[98, 101, 102, 111, 114, 101]⟩ ++ S ++ ⟨#[98, 101, 104, 105, 110, 100]⟩ := rfl
              rw [HAM] at HU
              clear HAM
              have q4 : ((6 : Int) + (S.size : Int) != 6 + (S.size : Int)) = false := by simp
              have z1 : ¬ 9223372036854775807 < 6 + S.size := by omega
              have z2 : ¬ 9223372036854775807 < 6 + S.size + 6 := by omega
              go_upto_region 14 with (go_at_call 21; refine (HU.out _).mono ?_; rintro e w3 ⟨a3, d3, rfl, hI3, b2⟩; replace hI3 := Lib.hid hI3; replace hb := Lib.hid (hb.out.trans (b2.mono hb.out.size)); replace hI := Lib.hid (hI.out.step b2); clear b2)
              have v3 := Var2.new w3 (.slice a3 l.length d3) (.int .i64 (6 + (S.size : Int))) 51
              replace hI := Lib.hid (hI.out.lit (Obj.cells #[.slice a3 l.length d3, .int .i64 (6 + (S.size : Int))] 51))
              replace hI3 := Lib.hid (hI3.out.lit (Obj.cells #[.slice a3 l.length d3, .int .i64 (6 + (S.size : Int))] 51))
              replace hb := Lib.hid (hb.out.alloc hb.out.size (Obj.cells #[.slice a3 l.length d3, .int .i64 (6 + (S.size : Int))] 51))
              generalize w3.alloc (Obj.cells #[.slice a3 l.length d3, .int .i64 (6 + (S.size : Int))] 51) = V3 at *
              generalize w3.heap.size = n3 at *
              have c0 := v3.c0
              have c1 := v3.c1
              clear HU
              go_wp2_with (go_at_call 23; refine (HS.out _ _ _ _ _ hI3.out hI.out).mono ?_; rintro e w5 ⟨rfl, b3⟩; replace hb := Lib.hid (hb.out.trans (b3.mono hb.out.size)); replace hI := Lib.hid (hI.out.step b3); have f0 := (v3.step b3).c1; clear b3)
              go_roundw
              case rel => exact ⟨k + k, rfl, by omega, by omega, hb, hI⟩
              case measure => simp [intOf]; omega
            · have f2 : (rowE k l == 0) = false := by rw [beq_eq_false_iff_ne]; exact e2
              clear e2 H2 HS
              generalize rowE k l = E at *
              go_wp2_with fail
              go_roundw
              case rel => exact ⟨k + k, rfl, by omega, by omega, hb, hI⟩
              case measure => simp [intOf]; omega
        · have d1 : decide (k ≤ 8) = false := decide_eq_false hlt
          have HL := Lib.hid (olay_bt t (by omega))
          obtain ⟨g0, g1, g2, g3⟩ := back_take (t := t) (by omega)
          have hS := lay_size (t := t) (by omega)
          rw [g0] at HL
          have HT := Lib.hid (otake_bt (amid (bt (layL t.data.toList))) (by rw [amid_size]; omega) 6 t.size (by omega) (by omega))
          rw [g1, g2, g3] at HT
          have hbt : bt t.data.toList = t := by ext1; simp [bt]
          rw [hbt] at HT
          clear g0 g1 g2 g3 hbt
          generalize bt (layL t.data.toList) = S at *
          have HAM : amid S = ⟨#[98, 101, 102, 111, 114, 101]⟩ ++ S ++ ⟨#[98, 101, 104, 105, 110, 100]⟩ := rfl
          rw [HAM] at HT
          clear HAM
          have q4 : ((6 : Int) + (S.size : Int) == 6 + (S.size : Int)) = true := by simp
          have z1 : ¬ 9223372036854775807 < 6 + S.size := by omega
          have z2 : ¬ 9223372036854775807 < 6 + S.size + 6 := by omega
          clear hS
          go_upto_region 18 with (first
            | (go_at_call 14; refine (HL.out _).mono ?_; rintro e w1 ⟨rfl, b2⟩; replace hb := Lib.hid (hb.out.trans (b2.mono hb.out.size)); clear b2)
            | (go_at_call 16; refine (HT.out _).mono ?_; rintro e w3 ⟨rfl, b2⟩; replace hb := Lib.hid (hb.out.trans (b2.mono hb.out.size)); clear b2))
          have v3 := Var2.new w3 (.string t) (.int .i64 (6 + (S.size : Int))) 39
          replace hb := Lib.hid (hb.out.alloc hb.out.size (Obj.cells #[.string t, .int .i64 (6 + (S.size : Int))] 39))
          generalize w3.alloc (Obj.cells #[.string t, .int .i64 (6 + (S.size : Int))] 39) = V3 at *
          generalize w3.heap.size = n3 at *
          have c0 := v3.c0
          have c1 := v3.c1
          clear HL HT
          go_wp2_with (go_at_call 9; refine (awake5_any _).mono ?_; rintro e w5 ⟨rfl, b1⟩; replace hb := Lib.hid (hb.out.trans (b1.mono hb.out.size)))
          go_ret
          exact ⟨rfl, hb.out⟩
end Go.Proofs.Ytcpaclefogappaa
