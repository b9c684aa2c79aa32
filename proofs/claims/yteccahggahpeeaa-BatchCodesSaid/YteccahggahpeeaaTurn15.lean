/- The program's turn and Diff. -/
import Derived.Test.YteccahggahpeeaaApu15
import Derived.Test.YteccahggahpeeaaMDocA15
namespace Go.Proofs.Yteccahggahpeeaa
open Go.RowKit

theorem OutE.step15 {α : Type} {E : Elt α} {e : TypeId} {w W V : World} {a : Option Addr} {c : Nat} {l : List α} (h : OutE E e w W a c l) (hb : Below W.heap.size W V) : OutE E e w V a c l := ⟨ownk_on h.own hb, h.below.trans (hb.mono h.below.size)⟩
theorem rec_fields : Try.prog.underlying 67 = some (.struct (Try.prog.fieldsOf 67)) := by kernel_rfl
theorem rec_plain : Try.prog.stoodInHeld 67 = false := by kernel_rfl
theorem rec_guard : Try.prog.eqGuardType Try.prog.depth 67 = false := by kernel_rfl
theorem rec_equal (i : Int) (x y : ByteArray) (w : World) : (Op.equalIn 10000 67 (.agg #[.int .i64 i, .string x]) (.agg #[.int .i64 i, .string y])).run Try.prog w = .ok (x.toList == y.toList) w := by
  have u3 := Try.underlying3
  have u9 := Try.underlying9
  have a3 := Try.isAgg3
  have z3 := Try.sizeOf3
  have a9 := Try.isAgg9
  have z9 := Try.sizeOf9
  rw [show (10000 : Nat) = 9999 + 1 from rfl, run_equalIn_agg w 9999 _ _ _ rec_fields rec_plain]
  simp only [Program.fieldsOf, Try.underlying67]
  go_simp
  by_cases h : x.toList = y.toList
  · rw [if_pos h, h]; simp
  · rw [if_neg h, beq_eq_false_iff_ne.2 h]
theorem gone_next (t : Int) (A B : Tb15) {k : Nat} (h : k < A.length) : goneT t (A.take (k + 1)) B = goneT t (A.take k) B ++ (if hasT B (recAt A k).1 = false then [⟨t, 3, (recAt A k).1, []⟩] else []) := by
  unfold goneT
  rw [List.take_add_one, recAt_get h, List.filter_append, List.map_append]
  congr 1
  show List.map _ (List.filter _ [recAt A k]) = _
  cases hq : hasT B (recAt A k).1 with
  | true => simp [hq]
  | false => simp [hq]
theorem new_next (t : Int) (A B : Tb15) {k : Nat} (h : k < B.length) : newT t A (B.take (k + 1)) = newT t A (B.take k) ++ oneT t A (recAt B k) := by
  unfold newT
  rw [List.take_add_one, recAt_get h, List.flatMap_append]
  show _ ++ List.flatMap _ [recAt B k] = _
  rw [List.flatMap_cons, List.flatMap_nil, List.append_nil]
theorem gone_len (t : Int) (A B : Tb15) : (goneT t A B).length ≤ A.length := by unfold goneT; rw [List.length_map]; exact List.length_filter_le _ _
set_option maxRecDepth 100000 in
set_option maxHeartbeats 16000000 in
theorem pturn15_any (t : Int) (fa : Option Addr) (fc : Nat) (A : Tb15) (ta : Option Addr) (tc : Nat) (B : Tb15) (w : World) (ha : Els recE 0 w.heap.size w fa A) (hb : Els recE 0 w.heap.size w ta B) (okA : OkT A) (okB : OkT B) :
    Calls Try.prog 57 #[.int .i64 t, .slice fa A.length fc, .slice ta B.length tc] w fun e w' => ∃ a' c', e = .returned (.slice a' (diffT t A B).length c') ∧ (diffT t A B).length ≤ c' ∧ Els opE w.heap.size w'.heap.size w' a' (diffT t A B) ∧ Below w.heap.size w w' := by
  have HA := Lib.hid ha
  have HBB := Lib.hid hb
  have hla := okA.len
  have hlb := okB.len
  have HSR := Lib.hid okA.srt
  have HO0 := Lib.hid (OutE.start opE 69 w)
  have HFB : Hid (∀ (W : World) (id : Int), Below w.heap.size w W → Calls Try.prog 35 #[.slice ta B.length tc, .int .i64 id] W fun e w' => e = .returned (.tuple #[.int .i64 (atN B id : Nat), .bool (hasT B id)]) ∧ Below W.heap.size W w') := Lib.hid fun W id hW => pfind15_any ta tc B id 0 W (hb.step hW) (by omega)
  have HFA : Hid (∀ (W : World) (id : Int), Below w.heap.size w W → Calls Try.prog 35 #[.slice fa A.length fc, .int .i64 id] W fun e w' => e = .returned (.tuple #[.int .i64 (atN A id : Nat), .bool (hasT A id)]) ∧ Below W.heap.size W w') := Lib.hid fun W id hW => pfind15_any fa fc A id 0 W (ha.step hW) (by omega)
  have gd := rec_guard
  clear ha hb okA okB
  go_enter Try.func57, Try.ntmps57
  go_upto_region 3 with fail
  go_loopw [7, 18] (fun s7 s18 wr => ∃ (k : Nat) (oa : Option Addr) (oc : Nat) (m : List Op15), s7 = .slice oa m.length oc ∧ s18 = .int .i64 k ∧ k ≤ A.length ∧ Hid (OutE opE 69 w wr oa oc m) ∧ Hid (m = goneT t (A.take k) B)) (fun _ k _ => A.length + 1 - (intOf k).toNat)
  case atStart => exact ⟨0, none, 0, [], rfl, rfl, by omega, HO0, Lib.hid rfl⟩
  case round =>
    clear HO0
    obtain ⟨k, oa, oc, m, rfl, rfl, hk, HO, HM⟩ := hrel
    by_cases hlt : k < A.length
    · have i1 : (k : Int) < (A.length : Int) := by omega
      have i3 : (0 : Int) ≤ (k : Int) := by omega
      obtain ⟨b, off, eb, hbb, o0, o1⟩ := recs_at (HA.out.step HO.out.below) hlt
      have HNX := Lib.hid (gone_next t A B hlt)
      have hml : m.length ≤ 900000 := by
        rw [HM.out]
        have := gone_len t (A.take k) B
        have h2 := List.length_take_le k A
        omega
      have hw1 := (Below.refl wr.heap.size wr).alloc (Nat.le_refl _) (.cells #[.int .i64 (recAt A k).1, .string (tx (recAt A k).2)] 67)
      have HO1 := Lib.hid (HO.out.step15 hw1)
      have HV1 := Lib.hid (heap_alloc_new wr (.cells #[.int .i64 (recAt A k).1, .string (tx (recAt A k).2)] 67))
      subst eb
      clear hw1 hbb
      generalize recAt A k = r at *
      go_upto_region 5 with fail
      generalize wr.alloc (.cells #[.int .i64 r.1, .string (tx r.2)] 67) = W1 at *
      have v0 := cell_of HV1.out (j := 0) rfl
      have HF := Lib.hid (HFB.out W1 r.1 HO1.out.below)
      cases hq : hasT B r.1 with
      | true =>
        rw [hq] at HF HNX
        have HM2 : Hid (m = goneT t (A.take (k + 1)) B) := Lib.hid (by rw [HNX.out, HM.out]; simp)
        clear hq
        go_wp2_with (go_at_call 35; refine HF.out.mono ?_; rintro e w2 ⟨rfl, hb⟩; have HO2 := Lib.hid (HO1.out.step15 hb); clear hb v0)
        go_roundw
        case rel => exact ⟨k + 1, oa, oc, m, rfl, by first | rfl | go_num, by omega, HO2, HM2⟩
        case measure => first | (simp [intOf]; omega) | simp [intOf]
      | false =>
        rw [hq] at HF HNX
        have HM2 : Hid (m ++ [⟨t, 3, r.1, []⟩] = goneT t (A.take (k + 1)) B) := Lib.hid (by rw [HNX.out, HM.out]; simp)
        clear hq
        go_upto_region 7 with (go_at_call 35; refine HF.out.mono ?_; rintro e w2 ⟨rfl, hb⟩; have HO2 := Lib.hid (HO1.out.step15 hb); have v1 := cell_of (old_obj hb HV1.out) (j := 0) rfl; clear hb v0)
        go_wp2_with (at_builtin; refine append_elt (w := w) opE Try.underlying25 infoOpP rfl (by decide) rfl _ _ rfl oa oc m rfl HO2.out ⟨t, 3, r.1, []⟩ rfl _ rfl rfl hml ?_)
        intro a7 c7 V7 ts hts' hO7
        have HO7 := Lib.hid hO7
        have HM7 := Lib.hid (hts'.out.trans HM2.out)
        clear hO7 v1
        go_wp2
        go_roundw
        case rel => exact ⟨k + 1, a7, c7, ts, rfl, by first | rfl | go_num, by omega, HO7, HM7⟩
        case measure => first | (simp [intOf]; omega) | simp [intOf]
    · obtain rfl : k = A.length := by omega
      have HM3 : Hid (m = goneT t A B ++ newT t A (B.take 0)) := Lib.hid (by rw [HM.out, List.take_length]; show _ = _ ++ []; rw [List.append_nil])
      clear HM hlt hk
      go_upto_region 10 with fail
      go_loopw [7, 41] (fun s7 s41 wr => ∃ (k : Nat) (oa : Option Addr) (oc : Nat) (m : List Op15), s7 = .slice oa m.length oc ∧ s41 = .int .i64 k ∧ k ≤ B.length ∧ Hid (OutE opE 69 w wr oa oc m) ∧ Hid (m = goneT t A B ++ newT t A (B.take k))) (fun _ k _ => B.length + 1 - (intOf k).toNat)
      case atStart => exact ⟨0, oa, oc, m, rfl, rfl, by omega, HO, HM3⟩
      case round =>
        clear HO HM3
        obtain ⟨k, oa, oc, m, rfl, rfl, hk, HO, HM⟩ := hrel
        by_cases hlt : k < B.length
        · have i1 : (k : Int) < (B.length : Int) := by omega
          have i3 : (0 : Int) ≤ (k : Int) := by omega
          obtain ⟨b, off, eb, hbb, o0, o1⟩ := recs_at (HBB.out.step HO.out.below) hlt
          have HNX := Lib.hid (new_next t A B hlt)
          have hml : m.length ≤ 900000 := by
            rw [HM.out, List.length_append]
            have h1 := gone_len t A B
            have h2 := newT_len t A (B.take k)
            have h3 := List.length_take_le k B
            omega
          have hw1 := (Below.refl wr.heap.size wr).alloc (Nat.le_refl _) (.cells #[.int .i64 (recAt B k).1, .string (tx (recAt B k).2)] 67)
          have HO1 := Lib.hid (HO.out.step15 hw1)
          have HV1 := Lib.hid (heap_alloc_new wr (.cells #[.int .i64 (recAt B k).1, .string (tx (recAt B k).2)] 67))
          subst eb
          clear hw1 hbb
          generalize recAt B k = r at *
          go_upto_region 12 with fail
          generalize wr.alloc (.cells #[.int .i64 r.1, .string (tx r.2)] 67) = W1 at *
          have v0 := cell_of HV1.out (j := 0) rfl
          have HF := Lib.hid (HFA.out W1 r.1 HO1.out.below)
          cases hq : hasT A r.1 with
          | false =>
            rw [hq] at HF
            have HM2 : Hid (m ++ [⟨t, 1, r.1, r.2⟩] = goneT t A B ++ newT t A (B.take (k + 1))) := Lib.hid (by rw [HNX.out, HM.out, List.append_assoc]; unfold oneT; rw [if_pos hq])
            clear hq
            go_upto_region 14 with (go_at_call 35; refine HF.out.mono ?_; rintro e w2 ⟨rfl, hb⟩; have HO2 := Lib.hid (HO1.out.step15 hb); have hv := old_obj hb HV1.out; have v1 := cell_of hv (j := 0) rfl; have v2 := cell_of hv (j := 1) rfl; clear hb v0 hv)
            go_wp2_with (at_builtin; refine append_elt (w := w) opE Try.underlying25 infoOpP rfl (by decide) rfl _ _ rfl oa oc m rfl HO2.out ⟨t, 1, r.1, r.2⟩ rfl _ rfl rfl hml ?_)
            intro a7 c7 V7 ts hts' hO7
            have HO7 := Lib.hid hO7
            have HM7 := Lib.hid (hts'.out.trans HM2.out)
            clear hO7 v1 v2
            go_wp2
            go_roundw
            case rel => exact ⟨k + 1, a7, c7, ts, rfl, by first | rfl | go_num, by omega, HO7, HM7⟩
            case measure => first | (simp [intOf]; omega) | simp [intOf]
          | true =>
            rw [hq] at HF
            obtain ⟨hat, hid⟩ := at_has hq
            have htx := (at_set HSR.out hq []).2.2
            have k1 : ((atN A r.1 : Nat) : Int) < (A.length : Int) := by omega
            have k3 : (0 : Int) ≤ ((atN A r.1 : Nat) : Int) := by omega
            obtain ⟨tb, toff, efa, htb, _, _⟩ := recs_at (HA.out) hat
            have HRC : Hid (∀ W, Below w.heap.size w W → W.cell? ⟨tb, toff + atN A r.1 * 2, none⟩ = some (.int .i64 r.1) ∧ W.cell? ⟨tb, toff + atN A r.1 * 2 + 1, none⟩ = some (.string (tx (textT A r.1)))) := Lib.hid fun W hW => by
              obtain ⟨b2, o2, e2, _, y0, y1⟩ := recs_at (HA.out.step hW) hat
              rw [efa] at e2
              cases e2
              rw [hid] at y0
              rw [← htx] at y1
              exact ⟨y0, y1⟩
            have HOT : Hid (oneT t A r = if textT A r.1 = r.2 then [] else [⟨t, 2, r.1, r.2⟩]) := Lib.hid (by unfold oneT; rw [if_neg (by rw [hq]; simp)])
            subst efa
            have heq := rec_equal r.1 (tx (textT A r.1)) (tx r.2)
            clear hq hat hid htx htb
            go_upto_region 15 with (go_at_call 35; refine HF.out.mono ?_; rintro e w2 ⟨rfl, hb⟩; have HO2 := Lib.hid (HO1.out.step15 hb); have HV2 := Lib.hid (old_obj hb HV1.out); have v1 := cell_of HV2.out (j := 0) rfl; have v2 := cell_of HV2.out (j := 1) rfl; clear hb v0)
            obtain ⟨y0, y1⟩ := HRC.out _ HO2.out.below
            by_cases hx : textT A r.1 = r.2
            · have HM2 : Hid (m = goneT t A B ++ newT t A (B.take (k + 1))) := Lib.hid (by rw [HNX.out, HM.out, HOT.out, if_pos hx, List.append_nil])
              have hbq : ((tx (textT A r.1)).toList == (tx r.2).toList) = true := by rw [tx_beq, hx]; simp
              clear hx
              generalize textT A r.1 = X at *
              generalize atN A r.1 = q at *
              go_quiet (fail)
              go_wp2
              go_roundw
              case rel => exact ⟨k + 1, oa, oc, m, rfl, by first | rfl | go_num, by omega, Lib.hid (HO2.out.step15 (drawn_below (Below.refl _ w2) _)), HM2⟩
              case measure => first | (simp [intOf]; omega) | simp [intOf]
            · have HM2 : Hid (m ++ [⟨t, 2, r.1, r.2⟩] = goneT t A B ++ newT t A (B.take (k + 1))) := Lib.hid (by rw [HNX.out, HM.out, HOT.out, if_neg hx, List.append_assoc])
              have hbq : ((tx (textT A r.1)).toList == (tx r.2).toList) = false := by rw [tx_beq]; exact beq_eq_false_iff_ne.2 hx
              clear hx
              generalize textT A r.1 = X at *
              generalize atN A r.1 = q at *
              go_quiet (fail)
              have HO3 := Lib.hid (HO2.out.step15 (drawn_below (Below.refl _ w2) nq))
              have HV3 := Lib.hid (old_obj (drawn_below (Below.refl _ w2) nq) HV2.out)
              clear v1 v2 y0 y1
              generalize w2.drewN nq = W3 at *
              have v1 := cell_of HV3.out (j := 0) rfl
              have v2 := cell_of HV3.out (j := 1) rfl
              go_upto_region 16 with fail
              go_wp2_with (at_builtin; refine append_elt (w := w) opE Try.underlying25 infoOpP rfl (by decide) rfl _ _ rfl oa oc m rfl HO3.out ⟨t, 2, r.1, r.2⟩ rfl _ rfl rfl hml ?_)
              intro a7 c7 V7 ts hts' hO7
              have HO7 := Lib.hid hO7
              have HM7 := Lib.hid (hts'.out.trans HM2.out)
              clear hO7 v1 v2
              go_wp2
              go_roundw
              case rel => exact ⟨k + 1, a7, c7, ts, rfl, by first | rfl | go_num, by omega, HO7, HM7⟩
              case measure => first | (simp [intOf]; omega) | simp [intOf]
        · obtain rfl : k = B.length := by omega
          have HR : Hid (m = diffT t A B) := Lib.hid (by rw [HM.out, List.take_length]; rfl)
          have HE := Lib.hid HO.out.els
          go_wp2
          go_ret
          exact ⟨oa, oc, by rw [← HR.out]; rfl, by rw [← HR.out]; exact HE.out.1, by rw [← HR.out]; exact HE.out.2, HO.out.below⟩
end Go.Proofs.Yteccahggahpeeaa
