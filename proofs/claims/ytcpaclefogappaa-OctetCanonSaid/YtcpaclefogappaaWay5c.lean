/- The walk of the law OctetCanon: it returns true in every world and leaves what lay there. -/
import Derived.Test.YtcpaclefogappaaWay5b
import Derived.Deep.DeepCutAuto
namespace Go.Proofs.Ytcpaclefogappaa
open Go.RowKit

theorem bt_extract (s : ByteArray) (q z : Nat) {l : List UInt8} (h : l = (s.data.toList.drop q).take (z - q)) : bt l = s.extract q z := by
  rw [h, ← extract_list]; exact (bt_of rfl).symm
theorem canon_get {s : ByteArray} {p x : Int} (h : getE s.data.toList p x = 0) : ∃ q z : Nat, p = q ∧ getT s.data.toList p x = z ∧ (z : Int) = q + x ∧ q ≤ z ∧ z ≤ s.size ∧ 1 ≤ x ∧ x ≤ 8 ∧ putE (getV s.data.toList p x) x = 0 ∧ bt (putL (getV s.data.toList p x) x) = s.extract q z ∧ getV s.data.toList p x ≤ 9223372036854775807 := by
  obtain ⟨hw, h0, h1, _⟩ := get_fine h
  obtain ⟨w1, w2, w3⟩ := wide_nat hw
  obtain ⟨b1, b2, _, _⟩ := get_bound h
  obtain ⟨c1, c2⟩ := get_canon h
  have hz : s.data.toList.length = s.size := by simp
  rw [hz] at h1
  have ht : getT s.data.toList p x = p + x := by unfold getT; rw [if_pos h]
  refine ⟨p.toNat, (p + x).toNat, by omega, by rw [ht]; omega, by omega, by omega, by omega, w1, w2, c1, ?_, b2⟩
  exact bt_extract s _ _ (by rw [c2, show (p + x).toNat - p.toNat = x.toNat by omega])
theorem canon_take {s : ByteArray} {p m : Int} (h : takeE s.data.toList p m = 0) : ∃ q z : Nat, p = q ∧ takeT s.data.toList p m = z ∧ q ≤ z ∧ z ≤ s.size ∧ layE (takeL s.data.toList p m) = 0 ∧ bt (layL (takeL s.data.toList p m)) = s.extract q z := by
  obtain ⟨h1, h2, _, _⟩ := take_fine h
  obtain ⟨c1, c2, c3, c4, _⟩ := take_canon h
  have hz : s.data.toList.length = s.size := by simp
  rw [hz] at c4
  refine ⟨p.toNat, (takeT s.data.toList p m).toNat, by omega, by omega, by omega, by omega, c1, ?_⟩
  exact bt_extract s _ _ (by rw [c2, show (takeT s.data.toList p m).toNat - p.toNat = (takeT s.data.toList p m - p).toNat by omega])
theorem canon_unrow {s : ByteArray} {p x m : Int} (h : unrowE s.data.toList p x m = 0) : ∃ q z : Nat, p = q ∧ unrowT s.data.toList p x m = z ∧ q ≤ z ∧ z ≤ s.size ∧ rowE x (unrowL s.data.toList p x m) = 0 ∧ bt (rowL x (unrowL s.data.toList p x m)) = s.extract q z ∧ (∀ y ∈ unrowL s.data.toList p x m, y ≤ 9223372036854775807) ∧ (unrowL s.data.toList p x m).length ≤ 1000 := by
  obtain ⟨_, h2, hg, _, hk, hel⟩ := unrow_fine h
  obtain ⟨c1, c2, c3, c4, c5⟩ := unrow_canon h
  have hz : s.data.toList.length = s.size := by simp
  rw [hz] at c4
  have hv : ∀ t, getV s.data.toList t x ≤ 9223372036854775807 := fun t => by
    by_cases he : getE s.data.toList t x = 0
    · exact (get_bound he).2.1
    · unfold getV; rw [if_neg he]; omega
  refine ⟨p.toNat, (unrowT s.data.toList p x m).toNat, by omega, by omega, by omega, by omega, c1, ?_, ?_, by omega⟩
  · exact bt_extract s _ _ (by rw [c2, show (unrowT s.data.toList p x m).toNat - p.toNat = (unrowT s.data.toList p x m - p).toNat by omega])
  · intro y hy
    unfold unrowL at hy
    rw [if_pos h] at hy
    obtain ⟨i, _, rfl⟩ := List.mem_map.1 hy
    exact hv _

set_option maxRecDepth 100000 in
set_option maxHeartbeats 2000000 in
theorem octetCanon_walk (w : World) (s : ByteArray) (_hs : s.size ≤ maxLen) (p : Int) (hp : (Lit.int .i64 p).wf = true) (x : Int) (_hx : (Lit.int .i64 x).wf = true) :
    Calls Try.prog 7 #[.string s, .int .i64 p, .int .i64 x] w fun e w' => e = .returned (.bool true) ∧ Below w.heap.size w w' := by
  have hb := Below.refl w.heap.size w
  have hp1 := Go.bounds_i64 hp
  clear hp
  by_cases h : (3000 : Int) < (s.size : Int)
  · have hd : decide ((3000 : Int) < (s.size : Int)) = true := decide_eq_true h
    go_enter Try.func7, Try.ntmps7
    go_wp2_with (go_at_call 9; refine (awake5_any _).mono ?_; rintro e w1 ⟨rfl, b1⟩; replace hb := hb.trans (b1.mono hb.size))
    go_ret
    exact ⟨rfl, hb⟩
  · have hd : decide ((3000 : Int) < (s.size : Int)) = false := decide_eq_false h
    have hs : s.size ≤ 4611686018427387904 := by omega
    have hs2 : s.size ≤ 3000 := by omega
    clear h
    have H1 := Lib.hid (oget_any s hs p x (by omega) (by omega))
    have H3 := Lib.hid (otake_any s hs p 2000 (by omega) (by omega))
    have H5 := Lib.hid (ounrow_any s hs p x 1000 (by omega) (by omega))
    go_enter Try.func7, Try.ntmps7
    go_upto_if 31 with (go_at_call 12; refine (H1.out _).mono ?_; rintro e w1 ⟨rfl, b1⟩; replace hb := hb.trans (b1.mono hb.size))
    have v1 := Var2.new w1 (.int .i64 (getV s.data.toList p x)) (.int .i64 (getT s.data.toList p x)) 30
    replace hb := hb.alloc hb.size (Obj.cells #[.int .i64 (getV s.data.toList p x), .int .i64 (getT s.data.toList p x)] 30)
    generalize w1.alloc (Obj.cells #[.int .i64 (getV s.data.toList p x), .int .i64 (getT s.data.toList p x)] 30) = V1 at *
    generalize w1.heap.size = n1 at *
    go_cut [] (fun wx => Hid (Below w.heap.size w wx))
    case first =>
      by_cases he : getE s.data.toList p x = 0
      · obtain ⟨q, z, rfl, hz, hzx, hqz, hzs, hx1, hx8, hpe, hpl, hvm⟩ := canon_get he
        have H2 := Lib.hid (oput_bt (getV s.data.toList q x) x hvm)
        rw [hpe, hpl] at H2
        rw [hz] at v1
        have d0 : (getE s.data.toList q x == 0) = true := by rw [he]; rfl
        have d1 : ((z : Int) != (q : Int) + x) = false := by rw [← hzx]; simp
        have d2 : decide ((s.size : Int) < (z : Int)) = false := decide_eq_false (by omega)
        have d3 : decide (s.size < z) = false := decide_eq_false (by omega)
        generalize getE s.data.toList q x = E at *
        generalize getV s.data.toList q x = GV at *
        have c0 := v1.c0
        have c1 := v1.c1
        clear hpe hpl he hz H1 H3 H5
        have HZX := Lib.hid hzx
        clear hzx
        go_wp2_with (go_at_call 10; refine (H2.out _).mono ?_; rintro e w2 ⟨rfl, b2⟩; replace hb := hb.trans (b2.mono hb.size); replace v1 := v1.step b2; clear b2; have e0 := v1.c0; have e1 := v1.c1)
        go_meet
        exact Lib.hid hb
      · have d0 : (getE s.data.toList p x == 0) = false := by rw [beq_eq_false_iff_ne]; exact he
        clear he H1 H3 H5
        generalize getE s.data.toList p x = E at *
        go_wp2_with fail
        go_meet
        exact Lib.hid hb
    case rest =>
      clear hb v1 H1
      have hb := hcut
      clear hcut
      go_upto_if 72 with (go_at_call 16; refine (H3.out _).mono ?_; rintro e w3 ⟨T, rfl, hT, b1⟩; replace hb := Lib.hid (hb.out.trans (b1.mono hb.out.size)))
      have v2 := Var2.new w3 (.string T) (.int .i64 (takeT s.data.toList p 2000)) 39
      replace hb := Lib.hid (hb.out.alloc hb.out.size (Obj.cells #[.string T, .int .i64 (takeT s.data.toList p 2000)] 39))
      generalize w3.alloc (Obj.cells #[.string T, .int .i64 (takeT s.data.toList p 2000)] 39) = V2 at *
      generalize w3.heap.size = n2 at *
      go_cut [] (fun wx => Hid (Below w.heap.size w wx))
      case first =>
        by_cases he : takeE s.data.toList p 2000 = 0
        · obtain ⟨q, z, rfl, hz, hqz, hzs, hpe, hpl⟩ := canon_take he
          have hTs : T.size ≤ 4611686018427387904 := by
            have h8 := hpe
            unfold layE at h8
            have h9 := congrArg List.length hT.out
            have h10 : T.data.toList.length = T.size := by simp
            split at h8
            · omega
            · omega
          have hLay : Hid (∀ v, Calls Try.prog 14 #[.string T] v fun e w' => e = .returned (.tuple #[.string (s.extract q z), .int .i64 0]) ∧ Below v.heap.size v w') := Lib.hid fun v =>
            (olay_any T hTs v).mono fun e w' hh => by
              obtain ⟨t, h1, h2, h3⟩ := hh
              have e2 := h2.out
              rw [hT.out] at h1 e2
              exact ⟨by rw [h1, hpe, bt_of e2, hpl], h3⟩
          rw [hz] at v2
          have d0 : (takeE s.data.toList q 2000 == 0) = true := by rw [he]; rfl
          have d2 : decide ((s.size : Int) < (z : Int)) = false := decide_eq_false (by omega)
          have d3 : decide (s.size < z) = false := decide_eq_false (by omega)
          have d4 : decide ((z : Int) < (q : Int)) = false := decide_eq_false (by omega)
          have d5 : decide (z < q) = false := decide_eq_false (by omega)
          generalize takeE s.data.toList q 2000 = E at *
          have c0 := v2.c0
          have c1 := v2.c1
          clear hpe hpl he hz H3 H5 hT hTs
          go_wp2_with (go_at_call 14; refine (hLay.out _).mono ?_; rintro e w4 ⟨rfl, b2⟩; replace hb := Lib.hid (hb.out.trans (b2.mono hb.out.size)); replace v2 := v2.step b2; clear b2; have e0 := v2.c0; have e1 := v2.c1)
          go_meet
          exact hb
        · have d0 : (takeE s.data.toList p 2000 == 0) = false := by rw [beq_eq_false_iff_ne]; exact he
          clear he H3 H5 hT
          generalize takeE s.data.toList p 2000 = E at *
          go_wp2_with fail
          go_meet
          exact hb
      case rest =>
        clear hb v2 H3
        have hb := hcut
        clear hcut
        go_upto_if 111 with (go_at_call 21; refine (H5.out _).mono ?_; rintro e w5 ⟨a5, d5, rfl, hI, b1⟩; replace hI := Lib.hid hI; replace hb := Lib.hid (hb.out.trans (b1.mono hb.out.size)))
        have v3 := Var2.new w5 (.slice a5 (unrowL s.data.toList p x 1000).length d5) (.int .i64 (unrowT s.data.toList p x 1000)) 51
        replace hI := Lib.hid (hI.out.lit (Obj.cells #[.slice a5 (unrowL s.data.toList p x 1000).length d5, .int .i64 (unrowT s.data.toList p x 1000)] 51))
        replace hb := Lib.hid (hb.out.alloc hb.out.size (Obj.cells #[.slice a5 (unrowL s.data.toList p x 1000).length d5, .int .i64 (unrowT s.data.toList p x 1000)] 51))
        generalize w5.alloc (Obj.cells #[.slice a5 (unrowL s.data.toList p x 1000).length d5, .int .i64 (unrowT s.data.toList p x 1000)] 51) = V3 at *
        generalize w5.heap.size = n3 at *
        by_cases he : unrowE s.data.toList p x 1000 = 0
        · obtain ⟨q, z, rfl, hz, hqz, hzs, hpe, hpl, hel, hln⟩ := canon_unrow he
          have hRow : Hid (∀ v, Ints v.heap.size v a5 (unrowL s.data.toList q x 1000) → Calls Try.prog 19 #[.int .i64 x, .slice a5 (unrowL s.data.toList q x 1000).length d5] v fun e w' => e = .returned (.tuple #[.string (s.extract q z), .int .i64 0]) ∧ Below v.heap.size v w') := Lib.hid fun v hv => by
            have h1 := orow_bt a5 d5 x (unrowL s.data.toList q x 1000) hel (by omega) v hv
            rw [hpe, hpl] at h1
            exact h1
          rw [hz] at v3
          have d0 : (unrowE s.data.toList q x 1000 == 0) = true := by rw [he]; rfl
          have d2 : decide ((s.size : Int) < (z : Int)) = false := decide_eq_false (by omega)
          have d3 : decide (s.size < z) = false := decide_eq_false (by omega)
          have d4 : decide ((z : Int) < (q : Int)) = false := decide_eq_false (by omega)
          have d6 : decide (z < q) = false := decide_eq_false (by omega)
          generalize unrowE s.data.toList q x 1000 = E at *
          clear hpe hpl he hz H5 hel
          generalize unrowL s.data.toList q x 1000 = UL at *
          have c0 := v3.c0
          have c1 := v3.c1
          go_wp2_with (first
            | (go_at_call 19; refine (hRow.out _ hI.out).mono ?_; rintro e w6 ⟨rfl, b2⟩; replace hb := Lib.hid (hb.out.trans (b2.mono hb.out.size)); replace v3 := v3.step b2; clear b2; have e0 := v3.c0; have e1 := v3.c1)
            | (go_at_call 9; refine (awake5_any _).mono ?_; rintro e w7 ⟨rfl, b1⟩; replace hb := Lib.hid (hb.out.trans (b1.mono hb.out.size))))
          go_ret
          exact ⟨rfl, hb.out⟩
        · have d0 : (unrowE s.data.toList p x 1000 == 0) = false := by rw [beq_eq_false_iff_ne]; exact he
          clear he H5
          generalize unrowE s.data.toList p x 1000 = E at *
          go_wp2_with (go_at_call 9; refine (awake5_any _).mono ?_; rintro e w7 ⟨rfl, b1⟩; replace hb := Lib.hid (hb.out.trans (b1.mono hb.out.size)))
          go_ret
          exact ⟨rfl, hb.out⟩
end Go.Proofs.Ytcpaclefogappaa
