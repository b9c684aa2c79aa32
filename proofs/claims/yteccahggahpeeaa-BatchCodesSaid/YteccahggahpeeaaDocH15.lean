/- The document's Diff of two stores, for every two and in every world. -/
import Derived.Test.YteccahggahpeeaaDocG15
import Derived.Test.YteccahggahpeeaaMRefA14
namespace Go.Proofs.Yteccahggahpeeaa
open Go.RowKit

def dfE (n m : Nat) (xs ys : List Cl15) : Int := if checkC n xs ≠ 0 ∨ checkC m ys ≠ 0 then 40 else if n ≠ m then 2 else 0
def dfV (n m : Nat) (xs ys : List Cl15) : List Op15 := if dfE n m xs ys = 0 then diffC n xs ys else []
theorem gone_step {xs ys : List Cl15} {t : Int} {i : Nat} (h : i < xs.length) : goneC t (xs.take (i + 1)) ys = goneC t (xs.take i) ys ++ (if (clAt xs i).1 = t ∧ hasC ys t (clAt xs i).2.1 = false then [⟨t, 3, (clAt xs i).2.1, []⟩] else []) := by
  unfold goneC
  rw [take_cl xs i h, List.filter_append, List.map_append]
  congr 1
  by_cases q1 : (clAt xs i).1 = t
  · cases q2 : hasC ys t (clAt xs i).2.1 with
    | true => rw [List.filter_cons_of_neg (by simp [q2]), if_neg (by simp)]; rfl
    | false => rw [List.filter_cons_of_pos (by simp [q1, q2]), if_pos ⟨q1, rfl⟩]; rfl
  · rw [List.filter_cons_of_neg (by simp [q1]), if_neg (fun q => q1 q.1)]; rfl
theorem new_step {xs ys : List Cl15} {t : Int} {i : Nat} (h : i < ys.length) : newC t xs (ys.take (i + 1)) = newC t xs (ys.take i) ++ oneC t xs (clAt ys i) := by
  unfold newC
  rw [take_cl ys i h, List.flatMap_append]
  simp
/-- The boxes of two stores. -/
structure Df15 (w : World) (n : Nat) (a : Option Addr) (ca : Nat) (xs : List Cl15) (m : Nat) (b : Option Addr) (cb : Nat) (ys : List Cl15) (W : World) : Prop where
  old : Below w.heap.size w W
  sa : W.heap[w.heap.size]? = some (.cells #[.int .i64 n, .slice a xs.length ca] 32 (0, 0))
  sb : W.heap[w.heap.size + 1]? = some (.cells #[.int .i64 m, .slice b ys.length cb] 32 (0, 0))
theorem Df15.step {w : World} {n : Nat} {a : Option Addr} {ca : Nat} {xs : List Cl15} {m : Nat} {b : Option Addr} {cb : Nat} {ys : List Cl15} {W V : World} (h : Df15 w n a ca xs m b cb ys W) (hb : Below W.heap.size W V) : Df15 w n a ca xs m b cb ys V :=
  ⟨h.old.trans (hb.mono h.old.size), old_obj hb h.sa, old_obj hb h.sb⟩
theorem Df15.size {w : World} {n : Nat} {a : Option Addr} {ca : Nat} {xs : List Cl15} {m : Nat} {b : Option Addr} {cb : Nat} {ys : List Cl15} {W : World} (h : Df15 w n a ca xs m b cb ys W) : w.heap.size + 2 ≤ W.heap.size := obj_lt h.sb
theorem Df15.grown {w : World} {n : Nat} {a : Option Addr} {ca : Nat} {xs : List Cl15} {m : Nat} {b : Option Addr} {cb : Nat} {ys : List Cl15} {W V : World} {row : Option Nat} (h : Df15 w n a ca xs m b cb ys W) (hg : W.grownBy V row) (hr : ∀ r, row = some r → w.heap.size + 2 ≤ r) : Df15 w n a ca xs m b cb ys V := by
  have hs := h.size
  have keep : ∀ {k : Nat} {x : Obj}, k < w.heap.size + 2 → W.heap[k]? = some x → V.heap[k]? = some x := fun hk hx => by
    rw [hg.block _ (by omega) (fun e => by have := hr _ e.symm; omega)]; exact hx
  exact ⟨h.old.grown hg (by omega) (fun k e => by have := hr k e; omega), keep (by omega) h.sa, keep (by omega) h.sb⟩
theorem Df15.facts {w : World} {n : Nat} {a : Option Addr} {ca : Nat} {xs : List Cl15} {m : Nat} {b : Option Addr} {cb : Nat} {ys : List Cl15} {W : World} (h : Df15 w n a ca xs m b cb ys W) : W.cell? ⟨w.heap.size, 0, none⟩ = some (.int .i64 n) ∧ W.cell? ⟨w.heap.size, 1, none⟩ = some (.slice a xs.length ca) ∧ W.cell? ⟨w.heap.size + 1, 0, none⟩ = some (.int .i64 m) ∧ W.cell? ⟨w.heap.size + 1, 1, none⟩ = some (.slice b ys.length cb) :=
  ⟨cell_of h.sa rfl, cell_of h.sa rfl, cell_of h.sb rfl, cell_of h.sb rfl⟩
theorem len_next {x t i : Nat} (h : x ≤ t * 100000 + 50000 + i) (hi : i ≤ 50000) : x ≤ (t + 1) * 100000 := by
  rw [Nat.succ_mul]
  exact Nat.le_trans h (by rw [Nat.add_assoc]; exact Nat.add_le_add_left (Nat.le_trans (Nat.add_le_add_left hi 50000) (by decide)) _)
abbrev Own15 (w : World) (oa : Option Addr) (oc : Nat) (out : List Op15) (W : World) : Prop := W.ownsRow (w.heap.size + 2) 76 opE.k (.slice oa out.length oc) out.length (opE.cells out)
set_option maxRecDepth 100000 in
set_option maxHeartbeats 8000000 in
theorem rdiff15_any (n : Nat) (a : Option Addr) (ca : Nat) (xs : List Cl15) (m : Nat) (b : Option Addr) (cb : Nat) (ys : List Cl15) (w : World) (ha : Els clE 0 w.heap.size w a xs) (hb : Els clE 0 w.heap.size w b ys) (hcn : n ≤ 100000) (hcm : m ≤ 100000) (hna : xs.length ≤ 50000) (hnb : ys.length ≤ 50000) :
    Calls Try.prog 28 #[docVal n a ca xs, docVal m b cb ys] w fun e w' => ∃ a' c', e = .returned (.tuple #[.slice a' (dfV n m xs ys).length c', .int .i64 (dfE n m xs ys)]) ∧ Els opE 0 w'.heap.size w' a' (dfV n m xs ys) ∧ Below w.heap.size w w' := by
  have hd0 : Df15 w n a ca xs m b cb ys ((w.alloc (.cells #[.int .i64 n, .slice a xs.length ca] 32)).alloc (.cells #[.int .i64 m, .slice b ys.length cb] 32)) := ⟨((Below.refl _ w).alloc (Nat.le_refl _) _).alloc (by simp) _, heap_alloc2_old w _ _, heap_alloc2_new w _ _⟩
  have HD := Lib.hid hd0
  have HA := Lib.hid ha
  have HB := Lib.hid hb
  have HCA : Hid (∀ W, Df15 w n a ca xs m b cb ys W → Calls Try.prog 20 #[docVal n a ca xs] W fun e w' => e = .returned (.int .i64 (checkC n xs)) ∧ Below W.heap.size W w') := Lib.hid fun W hW => rcheck15_any n a ca xs W (HA.out.step hW.old) hcn (by omega)
  have HCB : Hid (∀ W, Df15 w n a ca xs m b cb ys W → Calls Try.prog 20 #[docVal m b cb ys] W fun e w' => e = .returned (.int .i64 (checkC m ys)) ∧ Below W.heap.size W w') := Lib.hid fun W hW => rcheck15_any m b cb ys W (HB.out.step hW.old) hcm (by omega)
  obtain ⟨c0, c1, c2, c3⟩ := hd0.facts
  have HE : Hid (dfE n m xs ys = if checkC n xs ≠ 0 ∨ checkC m ys ≠ 0 then 40 else if n ≠ m then 2 else 0) := Lib.hid rfl
  have HV : Hid (dfV n m xs ys = if dfE n m xs ys = 0 then diffC n xs ys else []) := Lib.hid rfl
  have HF : Hid (checkC n xs = 0 → n ≤ 8) := Lib.hid fun h => by
    by_cases q : fineC n xs
    · exact q.1
    · rw [check_bad q] at h; cases h
  clear ha hb hd0
  obtain ⟨Ea, hEa⟩ : ∃ Ea, checkC n xs = Ea := ⟨_, rfl⟩
  obtain ⟨Eb, hEb⟩ : ∃ Eb, checkC m ys = Eb := ⟨_, rfl⟩
  rw [hEa] at HCA HE HF
  rw [hEb] at HCB HE
  clear hEa hEb
  by_cases q1 : ¬ Ea = 0
  · have d1 : (Ea != 0) = true := by rw [bne_iff_ne]; exact q1
    have HR : Hid (dfE n m xs ys = 40) := Lib.hid (by rw [HE.out, if_pos (Or.inl q1)])
    have HR2 : Hid (dfV n m xs ys = []) := Lib.hid (by rw [HV.out, HR.out, if_neg (by decide)])
    clear q1
    go_enter Try.func28, Try.ntmps28
    go_wp2_with (go_at_call 20; refine (HCA.out _ HD.out).mono ?_; rintro e w2 ⟨rfl, hb⟩; have D2 := Lib.hid (HD.out.step hb); clear hb)
    go_ret2
    rw [HR.out, HR2.out]
    exact ⟨none, 0, rfl, Or.inl rfl, D2.out.old⟩
  have q1 := Decidable.not_not.1 q1
  have d1 : (Ea != 0) = false := by rw [q1]; rfl
  by_cases q2 : ¬ Eb = 0
  · have d2 : (Eb != 0) = true := by rw [bne_iff_ne]; exact q2
    have HR : Hid (dfE n m xs ys = 40) := Lib.hid (by rw [HE.out, if_pos (Or.inr q2)])
    have HR2 : Hid (dfV n m xs ys = []) := Lib.hid (by rw [HV.out, HR.out, if_neg (by decide)])
    clear q1 q2
    go_enter Try.func28, Try.ntmps28
    go_wp2_with (first
      | (go_at_call 20; refine (HCA.out _ HD.out).mono ?_; rintro e w2 ⟨rfl, hb⟩; have D2 := Lib.hid (HD.out.step hb); obtain ⟨p0, p1, p2, p3⟩ := D2.out.facts; clear hb HCA)
      | (go_at_call 20; refine (HCB.out _ D2.out).mono ?_; rintro e w3 ⟨rfl, hb⟩; have D3 := Lib.hid (D2.out.step hb); clear hb))
    go_ret2
    rw [HR.out, HR2.out]
    exact ⟨none, 0, rfl, Or.inl rfl, D3.out.old⟩
  have q2 := Decidable.not_not.1 q2
  have d2 : (Eb != 0) = false := by rw [q2]; rfl
  have hn8 := HF.out q1
  by_cases q3 : ¬ n = m
  · have d3 : ((n : Int) != (m : Int)) = true := by rw [bne_iff_ne]; omega
    have HR : Hid (dfE n m xs ys = 2) := Lib.hid (by rw [HE.out, if_neg (by omega), if_pos q3])
    have HR2 : Hid (dfV n m xs ys = []) := Lib.hid (by rw [HV.out, HR.out, if_neg (by decide)])
    clear q1 q2 q3
    go_enter Try.func28, Try.ntmps28
    go_wp2_with (first
      | (go_at_call 20; refine (HCA.out _ HD.out).mono ?_; rintro e w2 ⟨rfl, hb⟩; have D2 := Lib.hid (HD.out.step hb); obtain ⟨p0, p1, p2, p3⟩ := D2.out.facts; clear hb HCA)
      | (go_at_call 20; refine (HCB.out _ D2.out).mono ?_; rintro e w3 ⟨rfl, hb⟩; have D3 := Lib.hid (D2.out.step hb); obtain ⟨r0, r1, r2, r3⟩ := D3.out.facts; clear hb))
    go_ret2
    rw [HR.out, HR2.out]
    exact ⟨none, 0, rfl, Or.inl rfl, D3.out.old⟩
  have q3 := Decidable.not_not.1 q3
  have d3 : ((n : Int) != (m : Int)) = false := by rw [q3]; simp
  have HR : Hid (dfE n m xs ys = 0) := Lib.hid (by rw [HE.out, if_neg (by omega), if_neg (by omega)])
  have HR2 : Hid (dfV n m xs ys = diffC n xs ys) := Lib.hid (by rw [HV.out, HR.out, if_pos rfl])
  have HAA : Hid (∀ (t id : Int) (W : World), Df15 w n a ca xs m b cb ys W → Calls Try.prog 36 #[docVal n a ca xs, .int .i64 t, .int .i64 id] W fun e w' => e = .returned (.int .i64 (atC xs t id)) ∧ Below W.heap.size W w') := Lib.hid fun t id W hW => rat15_any n a ca xs t id W (HA.out.step hW.old) (by omega)
  have HAB : Hid (∀ (t id : Int) (W : World), Df15 w n a ca xs m b cb ys W → Calls Try.prog 36 #[docVal m b cb ys, .int .i64 t, .int .i64 id] W fun e w' => e = .returned (.int .i64 (atC ys t id)) ∧ Below W.heap.size W w') := Lib.hid fun t id W hW => rat15_any m b cb ys t id W (HB.out.step hW.old) (by omega)
  clear q1 q2 q3 HE HV HF
  go_enter Try.func28, Try.ntmps28
  go_upto_region 7 with (first
    | (go_at_call 20; refine (HCA.out _ HD.out).mono ?_; rintro e w2 ⟨rfl, hb⟩; have D2 := Lib.hid (HD.out.step hb); obtain ⟨p0, p1, p2, p3⟩ := D2.out.facts; clear hb HCA)
    | (go_at_call 20; refine (HCB.out _ D2.out).mono ?_; rintro e w3 ⟨rfl, hb⟩; have D3 := Lib.hid (D2.out.step hb); obtain ⟨r0, r1, r2, r3⟩ := D3.out.facts; clear hb))
  clear c0 c1 c2 c3 p0 p1 p2 p3 r0 r1 r2 r3 D2
  go_loopw [6, 7] (fun s6 s7 wr => ∃ (t : Nat) (oa : Option Addr) (oc : Nat) (out : List Op15), s6 = .slice oa out.length oc ∧ s7 = .int .i64 t ∧ t ≤ n ∧ Hid (Df15 w n a ca xs m b cb ys wr) ∧ Hid (Own15 w oa oc out wr) ∧ Hid (out = (List.range t).flatMap fun s : Nat => goneC (s : Int) xs ys ++ newC (s : Int) xs ys) ∧ Hid (out.length ≤ t * 100000)) (fun _ t _ => n + 1 - (intOf t).toNat)
  case atStart => exact ⟨0, none, 0, [], rfl, rfl, by omega, D3, Lib.hid (World.ownsRow_nil _ _ _ _), Lib.hid rfl, Lib.hid (by simp)⟩
  case round =>
    clear D3
    obtain ⟨t, oa, oc, out, rfl, rfl, ht, HDt, HO, HM, HLN⟩ := hrel
    obtain ⟨p0, p1, p2, p3⟩ := HDt.out.facts
    by_cases hlt : t < n
    · have j1 : (t : Int) < (n : Int) := by omega
      obtain ⟨pre, hpre⟩ : ∃ pre, out = pre := ⟨_, rfl⟩
      have HPRE : Hid (pre = (List.range t).flatMap fun s : Nat => goneC (s : Int) xs ys ++ newC (s : Int) xs ys) := Lib.hid (by rw [← hpre]; exact HM.out)
      have HM0 : Hid (out = pre ++ goneC (t : Int) (xs.take 0) ys) := Lib.hid (by rw [hpre]; simp [goneC])
      clear hpre
      go_upto_region 10 with fail
      clear p0 p1 p2 p3
      go_loopw [6, 8] (fun s6 s8 wr => ∃ (i : Nat) (oa : Option Addr) (oc : Nat) (out : List Op15), s6 = .slice oa out.length oc ∧ s8 = .int .i64 i ∧ i ≤ xs.length ∧ Hid (Df15 w n a ca xs m b cb ys wr) ∧ Hid (Own15 w oa oc out wr) ∧ Hid (out = pre ++ goneC (t : Int) (xs.take i) ys) ∧ Hid (out.length ≤ t * 100000 + i)) (fun _ i _ => xs.length + 1 - (intOf i).toNat)
      case atStart => exact ⟨0, oa, oc, out, rfl, rfl, by omega, HDt, HO, HM0, Lib.hid (Nat.le_trans HLN.out (Nat.le_add_right _ _))⟩
      case round =>
        clear HDt HO HM HLN HM0
        obtain ⟨i, oa, oc, out, rfl, rfl, hi, HDi, HO, HM, HLN⟩ := hrel
        obtain ⟨p0, p1, p2, p3⟩ := HDi.out.facts
        by_cases hlt2 : i < xs.length
        · have i1 : (i : Int) < (xs.length : Int) := by omega
          have i3 : (0 : Int) ≤ (i : Int) := by omega
          obtain ⟨rb, off, ea, hrb, x0, x1, _⟩ := cls_at HA.out hlt2
          have HX : Hid (∀ W, Below w.heap.size w W → W.cell? ⟨rb, off + i * 3, none⟩ = some (.int .i64 (clAt xs i).1) ∧ W.cell? ⟨rb, off + i * 3 + 1, none⟩ = some (.int .i64 (clAt xs i).2.1)) := Lib.hid fun W hW => ⟨(hW.cell (p := ⟨rb, off + i * 3, none⟩) hrb).trans x0, (hW.cell (p := ⟨rb, off + i * 3 + 1, none⟩) hrb).trans x1⟩
          have HST := Lib.hid (gone_step (xs := xs) (ys := ys) (t := (t : Int)) hlt2)
          subst ea
          clear x0 x1 hrb
          obtain ⟨ct, hct⟩ : ∃ ct, (clAt xs i).1 = ct := ⟨_, rfl⟩
          obtain ⟨ci, hci⟩ : ∃ ci, (clAt xs i).2.1 = ci := ⟨_, rfl⟩
          rw [hct, hci] at HX HST
          clear hct hci
          obtain ⟨h, hh⟩ : ∃ h, hasC ys (t : Int) ci = h := ⟨_, rfl⟩
          have HH := Lib.hid hh
          rw [hh] at HST
          clear hh
          obtain ⟨x0, x1⟩ := HX.out wr HDi.out.old
          by_cases q : ct = (t : Int)
          · have d1 : (ct == (t : Int)) = true := beq_iff_eq.2 q
            have HST2 : Hid (goneC (t : Int) (xs.take (i + 1)) ys = goneC (t : Int) (xs.take i) ys ++ (if h = false then [⟨(t : Int), 3, ci, []⟩] else [])) := Lib.hid (by rw [HST.out]; by_cases e : h = false; rw [if_pos ⟨q, e⟩, if_pos e]; rw [if_neg (fun z => e z.2), if_neg e])
            clear q
            go_upto_region 12 with fail
            go_cut [57] (fun s57 wx => ∃ V : World, wx = V ∧ s57 = .bool (!h) ∧ Hid (Df15 w n (some ⟨rb, off, none⟩) ca xs m b cb ys V) ∧ Hid (Own15 w oa oc out V))
            case first =>
              have AD := Lib.hid (HDi.out.step (Below.refl _ wr).drew)
              have OD := Lib.hid (ownk_on HO.out (Below.refl _ wr).drew)
              obtain ⟨p0', p1', p2', p3'⟩ := AD.out.facts
              obtain ⟨x0', x1'⟩ := HX.out _ AD.out.old
              have hat := HAB.out (t : Int) ci _ AD.out
              rcases atC_cases ys (t : Int) ci with ⟨j, e1, _, _, e3⟩ | ⟨e1, e3⟩
              · have HE : Hid (h = true) := Lib.hid (by rw [← HH.out]; exact e3)
                have d2 : decide ((j : Int) < 0) = false := decide_eq_false (by omega)
                rw [e1] at hat
                clear e1 e3
                go_region_held3 (fun v => v.cell? ⟨w.heap.size, 1, none⟩ = some (.slice (some ⟨rb, off, none⟩) xs.length ca) ∧ v.cell? ⟨w.heap.size + 1, 0, none⟩ = some (.int .i64 m) ∧ v.cell? ⟨w.heap.size + 1, 1, none⟩ = some (.slice b ys.length cb) ∧ v.cell? ⟨rb, off + i * 3, none⟩ = some (.int .i64 ct) ∧ v.cell? ⟨rb, off + i * 3 + 1, none⟩ = some (.int .i64 ci)) (first | assumption | go_keep)
                  (first
                    | (go_at_call 36; refine hat.mono ?_; rintro e w3 ⟨rfl, hb⟩; have A3 := Lib.hid (AD.out.step hb); have O3 := Lib.hid (ownk_on OD.out hb); obtain ⟨_, r1, r2, r3⟩ := A3.out.facts; obtain ⟨s0, s1⟩ := HX.out _ A3.out.old; have hS3 := And.intro r1 (And.intro r2 (And.intro r3 (And.intro s0 s1))); clear hb)
                    | fail)
                all_goals (
                  go_wp2_with fail
                  go_meet
                  exact ⟨_, rfl, by rw [HE.out]; rfl, A3, O3⟩)
              · have HE : Hid (h = false) := Lib.hid (by rw [← HH.out]; exact e3)
                rw [e1] at hat
                clear e1 e3
                go_region_held3 (fun v => v.cell? ⟨w.heap.size, 1, none⟩ = some (.slice (some ⟨rb, off, none⟩) xs.length ca) ∧ v.cell? ⟨w.heap.size + 1, 0, none⟩ = some (.int .i64 m) ∧ v.cell? ⟨w.heap.size + 1, 1, none⟩ = some (.slice b ys.length cb) ∧ v.cell? ⟨rb, off + i * 3, none⟩ = some (.int .i64 ct) ∧ v.cell? ⟨rb, off + i * 3 + 1, none⟩ = some (.int .i64 ci)) (first | assumption | go_keep)
                  (first
                    | (go_at_call 36; refine hat.mono ?_; rintro e w3 ⟨rfl, hb⟩; have A3 := Lib.hid (AD.out.step hb); have O3 := Lib.hid (ownk_on OD.out hb); obtain ⟨_, r1, r2, r3⟩ := A3.out.facts; obtain ⟨s0, s1⟩ := HX.out _ A3.out.old; have hS3 := And.intro r1 (And.intro r2 (And.intro r3 (And.intro s0 s1))); clear hb)
                    | fail)
                all_goals (
                  go_wp2_with fail
                  go_meet
                  exact ⟨_, rfl, by rw [HE.out]; rfl, A3, O3⟩)
            case rest =>
              obtain ⟨V, hV, rfl, DV, OV⟩ := hcut
              rw [hV]
              clear hV p0 p1 p2 p3 x0 x1 HDi HO
              obtain ⟨p0, p1, p2, p3⟩ := DV.out.facts
              obtain ⟨x0, x1⟩ := HX.out V DV.out.old
              cases h with
              | true =>
                have HM2 : Hid (out = pre ++ goneC (t : Int) (xs.take (i + 1)) ys) := Lib.hid (by rw [HST2.out, if_neg (by simp), List.append_nil]; exact HM.out)
                go_wp2
                go_roundw
                case rel => exact ⟨i + 1, oa, oc, out, rfl, by first | rfl | go_num, by omega, DV, OV, HM2, Lib.hid (Nat.le_succ_of_le HLN.out)⟩
                case measure => first | (simp [intOf]; omega) | simp [intOf]
              | false =>
                have hw : w.heap.size + 2 ≤ V.heap.size := DV.out.size
                have HRB : Hid (∀ r, (Value.slice oa out.length oc).ownBlock = some r → w.heap.size + 2 ≤ r) := Lib.hid fun r hr => (OV.out.lt r hr).1
                have hol : out.length ≤ 900000 := by
                  have h1 := HLN.out
                  have h2 : t * 100000 ≤ 700000 := Nat.le_trans (Nat.mul_le_mul_right 100000 (show t ≤ 7 by omega)) (by decide)
                  omega
                go_wp2_with (refine append_e (V := V) opE Try.underlying39 infoOpR rfl (by decide) rfl _ _ rfl (w.heap.size + 2) oa oc out rfl OV.out hw ⟨(t : Int), 3, ci, []⟩ rfl _ rfl rfl hol ?_; intro a4 c4 V4 m4 hm4 ho4 hg4; have HD4 := Lib.hid ((DV.out.step ((Below.refl _ _).alloc (Nat.le_refl _) _)).grown hg4 (fun r hr => HRB.out r hr)); have HO4 := Lib.hid ho4; clear ho4 hg4)
                go_roundw
                case rel => exact ⟨i + 1, a4, c4, m4, rfl, by first | rfl | go_num, by omega, HD4, HO4, Lib.hid (by rw [hm4.out, HST2.out, if_pos rfl, ← List.append_assoc, ← HM.out]), Lib.hid (by rw [hm4.out, List.length_append]; exact Nat.succ_le_succ HLN.out)⟩
                case measure => first | (simp [intOf]; omega) | simp [intOf]
          · have d1 : (ct == (t : Int)) = false := beq_eq_false_iff_ne.2 q
            have HM2 : Hid (out = pre ++ goneC (t : Int) (xs.take (i + 1)) ys) := Lib.hid (by rw [HST.out, if_neg (fun z => q z.1), List.append_nil]; exact HM.out)
            clear q
            go_upto_region 12 with fail
            go_quiet (fail)
            go_wp2
            go_roundw
            case rel => exact ⟨i + 1, oa, oc, out, rfl, by first | rfl | go_num, by omega, Lib.hid (HDi.out.step (drawn_below (Below.refl _ _) _)), Lib.hid (ownk_on HO.out (drawn_below (Below.refl _ _) _)), HM2, Lib.hid (Nat.le_succ_of_le HLN.out)⟩
            case measure => first | (simp [intOf]; omega) | simp [intOf]
        · obtain rfl : i = xs.length := by omega
          have HM1 : Hid (out = pre ++ goneC (t : Int) xs ys ++ newC (t : Int) xs (ys.take 0)) := Lib.hid (by have := HM.out; rw [List.take_length] at this; rw [this]; simp [newC])
          go_upto_region 15 with fail
          clear p0 p1 p2 p3
          go_loopw [6, 9] (fun s6 s9 wr => ∃ (i : Nat) (oa : Option Addr) (oc : Nat) (out : List Op15), s6 = .slice oa out.length oc ∧ s9 = .int .i64 i ∧ i ≤ ys.length ∧ Hid (Df15 w n (a) ca xs m b cb ys wr) ∧ Hid (Own15 w oa oc out wr) ∧ Hid (out = pre ++ goneC (t : Int) xs ys ++ newC (t : Int) xs (ys.take i)) ∧ Hid (out.length ≤ t * 100000 + 50000 + i)) (fun _ i _ => ys.length + 1 - (intOf i).toNat)
          case atStart => exact ⟨0, oa, oc, out, rfl, rfl, by omega, HDi, HO, HM1, Lib.hid (Nat.le_trans HLN.out (Nat.le_trans (Nat.add_le_add_left hna _) (Nat.le_add_right _ _)))⟩
          case round =>
            clear HDi HO HM HLN HM1
            obtain ⟨i, oa, oc, out, rfl, rfl, hi2, HDi, HO, HM, HLN⟩ := hrel
            obtain ⟨p0, p1, p2, p3⟩ := HDi.out.facts
            by_cases hlt3 : i < ys.length
            · have i1 : (i : Int) < (ys.length : Int) := by omega
              have i3 : (0 : Int) ≤ (i : Int) := by omega
              obtain ⟨rb, off, eb, hrb, x0, x1, x2⟩ := cls_at (HB.out.step HDi.out.old) hlt3
              have HST := Lib.hid (new_step (xs := xs) (ys := ys) (t := (t : Int)) hlt3)
              have HON : Hid (oneC (t : Int) xs (clAt ys i) = if (clAt ys i).1 = (t : Int) then (if hasC xs (t : Int) (clAt ys i).2.1 = false then [⟨(t : Int), 1, (clAt ys i).2.1, (clAt ys i).2.2⟩] else if textC xs (t : Int) (clAt ys i).2.1 = (clAt ys i).2.2 then [] else [⟨(t : Int), 2, (clAt ys i).2.1, (clAt ys i).2.2⟩]) else []) := Lib.hid rfl
              subst eb
              obtain ⟨O1, hO1⟩ : ∃ O1, oneC (t : Int) xs (clAt ys i) = O1 := ⟨_, rfl⟩
              rw [hO1] at HST HON
              obtain ⟨ct, hct⟩ : ∃ ct, (clAt ys i).1 = ct := ⟨_, rfl⟩
              obtain ⟨ci, hci⟩ : ∃ ci, (clAt ys i).2.1 = ci := ⟨_, rfl⟩
              obtain ⟨cx, hcx⟩ : ∃ cx, (clAt ys i).2.2 = cx := ⟨_, rfl⟩
              rw [hct] at x0 HON
              rw [hci] at x1 HON
              rw [hcx] at x2 HON
              have HNX : Hid (∀ o, O1 = o → out ++ o = pre ++ goneC (t : Int) xs ys ++ newC (t : Int) xs (ys.take (i + 1))) := Lib.hid fun o h => by rw [HST.out, h, ← List.append_assoc, ← HM.out]
              clear hO1 hct hci hcx hrb
              go_upto_region 18 with fail
              obtain ⟨V1, hV1⟩ : ∃ V1, wr.alloc (.cells #[.int .i64 ct, .int .i64 ci, .string (tx cx)] 72) = V1 := ⟨_, rfl⟩
              obtain ⟨g, hg⟩ : ∃ g, wr.heap.size = g := ⟨_, rfl⟩
              have D1 := Lib.hid (show Df15 w n a ca xs m (some ⟨rb, off, none⟩) cb ys V1 by rw [← hV1]; exact HDi.out.step ((Below.refl _ _).alloc (Nat.le_refl _) _))
              have O1w := Lib.hid (show Own15 w oa oc out V1 by rw [← hV1]; exact ownk_on HO.out ((Below.refl _ _).alloc (Nat.le_refl _) _))
              have HC1 : Hid (V1.heap[g]? = some (.cells #[.int .i64 ct, .int .i64 ci, .string (tx cx)] 72 (0, 0))) := Lib.hid (by rw [← hV1, ← hg]; exact heap_alloc_new wr _)
              rw [hg]
              rw [hV1]
              clear hV1 hg p0 p1 p2 p3 x0 x1 x2 HDi HO
              obtain ⟨p0, p1, p2, p3⟩ := D1.out.facts
              obtain ⟨y0, y1, y2⟩ := (show _ ∧ _ ∧ _ from ⟨cell_of (j := 0) HC1.out rfl, cell_of (j := 1) HC1.out rfl, cell_of (j := 2) HC1.out rfl⟩)
              by_cases q : ct = (t : Int)
              · have d1 : (ct != (t : Int)) = false := by rw [q]; simp
                have hat := HAA.out (t : Int) ci V1 D1.out
                rcases atC_cases xs (t : Int) ci with ⟨j, e1, hj, e2, e3⟩ | ⟨e1, e3⟩
                · rw [e1] at hat
                  have d2 : decide ((j : Int) < 0) = false := decide_eq_false (by omega)
                  have j1 : (j : Int) < (xs.length : Int) := by omega
                  have j3 : (0 : Int) ≤ (j : Int) := by omega
                  have HXJ : Hid (∀ W, Below w.heap.size w W → ∃ b2 off2, a = some ⟨b2, off2, none⟩ ∧ W.cell? ⟨b2, off2 + j * 3 + 2, none⟩ = some (.string (tx (clAt xs j).2.2))) := Lib.hid fun W hW => by
                    obtain ⟨b2, off2, ea, _, _, _, z2⟩ := cls_at (HA.out.step hW) hj
                    exact ⟨b2, off2, ea, z2⟩
                  rw [e2] at HXJ
                  obtain ⟨yx, hyx⟩ : ∃ yx, textC xs (t : Int) ci = yx := ⟨_, rfl⟩
                  rw [hyx] at HXJ HON
                  have HON2 : Hid (O1 = if yx = cx then [] else [⟨(t : Int), 2, ci, cx⟩]) := Lib.hid (by rw [HON.out, if_pos q, if_neg (by rw [e3]; simp)])
                  clear q e1 hj e2 e3 hyx
                  go_upto_region 22 with (go_at_call 36; refine hat.mono ?_; rintro e w3 ⟨rfl, hb⟩; have D3 := Lib.hid (D1.out.step hb); have O3 := Lib.hid (ownk_on O1w.out hb); have HC3 := Lib.hid (old_obj hb HC1.out); clear hb)
                  clear p0 p1 p2 p3 y0 y1 y2 hat
                  obtain ⟨p0, p1, p2, p3⟩ := D3.out.facts
                  obtain ⟨y0, y1, y2⟩ := (show _ ∧ _ ∧ _ from ⟨cell_of (j := 0) HC3.out rfl, cell_of (j := 1) HC3.out rfl, cell_of (j := 2) HC3.out rfl⟩)
                  obtain ⟨b2, off2, ea, z2⟩ := HXJ.out w3 D3.out.old
                  have HEQ := tx_beq yx cx
                  subst ea
                  by_cases q5 : yx = cx
                  · have d5 : ((tx yx).toList == (tx cx).toList) = true := by rw [HEQ]; exact beq_iff_eq.2 q5
                    have HM3 := Lib.hid (HNX.out [] (by rw [HON2.out, if_pos q5]))
                    rw [List.append_nil] at HM3
                    clear q5 HEQ
                    go_quiet (fail)
                    go_wp2
                    go_roundw
                    case rel => exact ⟨i + 1, oa, oc, out, rfl, by first | rfl | go_num, by omega, Lib.hid (D3.out.step (drawn_below (Below.refl _ _) _)), Lib.hid (ownk_on O3.out (drawn_below (Below.refl _ _) _)), HM3, Lib.hid (Nat.le_succ_of_le HLN.out)⟩
                    case measure => first | (simp [intOf]; omega) | simp [intOf]
                  · have d5 : ((tx yx).toList == (tx cx).toList) = false := by rw [HEQ]; exact beq_eq_false_iff_ne.2 q5
                    have HM3 := Lib.hid (HNX.out [⟨(t : Int), 2, ci, cx⟩] (by rw [HON2.out, if_neg q5]))
                    clear q5 HEQ
                    go_cut [109] (fun s109 wx => ∃ V : World, wx = V ∧ s109 = .bool true ∧ Hid (Df15 w n (some ⟨b2, off2, none⟩) ca xs m (some ⟨rb, off, none⟩) cb ys V) ∧ Hid (Own15 w oa oc out V) ∧ Hid (V.heap[g]? = some (.cells #[.int .i64 ct, .int .i64 ci, .string (tx cx)] 72 (0, 0))))
                    case first =>
                      go_quiet (fail)
                      go_wp2_with fail
                      go_meet
                      exact ⟨_, rfl, by first | rfl | simp, Lib.hid (D3.out.step (drawn_below (Below.refl _ _) _)), Lib.hid (ownk_on O3.out (drawn_below (Below.refl _ _) _)), Lib.hid (old_obj (drawn_below (Below.refl _ _) _) HC3.out)⟩
                    case rest =>
                      obtain ⟨V, hV, rfl, DV, OV, CV⟩ := hcut
                      rw [hV]
                      clear hV p0 p1 p2 p3 y0 y1 y2 z2 D3 O3 HC3
                      obtain ⟨y0, y1, y2⟩ := (show _ ∧ _ ∧ _ from ⟨cell_of (j := 0) CV.out rfl, cell_of (j := 1) CV.out rfl, cell_of (j := 2) CV.out rfl⟩)
                      have hw : w.heap.size + 2 ≤ V.heap.size := DV.out.size
                      have HRB : Hid (∀ r, (Value.slice oa out.length oc).ownBlock = some r → w.heap.size + 2 ≤ r) := Lib.hid fun r hr => (OV.out.lt r hr).1
                      have hol : out.length ≤ 900000 := by
                        have h1 := HLN.out
                        have h2 : t * 100000 ≤ 700000 := Nat.le_trans (Nat.mul_le_mul_right 100000 (show t ≤ 7 by omega)) (by decide)
                        omega
                      go_wp2_with (refine append_e (V := V) opE Try.underlying39 infoOpR rfl (by decide) rfl _ _ rfl (w.heap.size + 2) oa oc out rfl OV.out hw ⟨(t : Int), 2, ci, cx⟩ rfl _ rfl rfl hol ?_; intro a4 c4 V4 m4 hm4 ho4 hg4; have HD4 := Lib.hid ((DV.out.step ((Below.refl _ _).alloc (Nat.le_refl _) _)).grown hg4 (fun r hr => HRB.out r hr)); have HO4 := Lib.hid ho4; clear ho4 hg4)
                      go_roundw
                      case rel => exact ⟨i + 1, a4, c4, m4, rfl, by first | rfl | go_num, by omega, HD4, HO4, Lib.hid (by rw [hm4.out]; exact HM3.out), Lib.hid (by rw [hm4.out, List.length_append]; exact Nat.succ_le_succ HLN.out)⟩
                      case measure => first | (simp [intOf]; omega) | simp [intOf]
                · rw [e1] at hat
                  have HM3 := Lib.hid (HNX.out [⟨(t : Int), 1, ci, cx⟩] (by rw [HON.out, if_pos q, if_pos e3]))
                  clear q e1 e3
                  go_upto_region 21 with (go_at_call 36; refine hat.mono ?_; rintro e w3 ⟨rfl, hb⟩; have D3 := Lib.hid (D1.out.step hb); have O3 := Lib.hid (ownk_on O1w.out hb); have HC3 := Lib.hid (old_obj hb HC1.out); clear hb)
                  clear p0 p1 p2 p3 y0 y1 y2 hat
                  obtain ⟨y0, y1, y2⟩ := (show _ ∧ _ ∧ _ from ⟨cell_of (j := 0) HC3.out rfl, cell_of (j := 1) HC3.out rfl, cell_of (j := 2) HC3.out rfl⟩)
                  have hw : w.heap.size + 2 ≤ w3.heap.size := D3.out.size
                  have HRB : Hid (∀ r, (Value.slice oa out.length oc).ownBlock = some r → w.heap.size + 2 ≤ r) := Lib.hid fun r hr => (O3.out.lt r hr).1
                  have hol : out.length ≤ 900000 := by
                    have h1 := HLN.out
                    have h2 : t * 100000 ≤ 700000 := Nat.le_trans (Nat.mul_le_mul_right 100000 (show t ≤ 7 by omega)) (by decide)
                    omega
                  go_wp2_with (refine append_e (V := w3) opE Try.underlying39 infoOpR rfl (by decide) rfl _ _ rfl (w.heap.size + 2) oa oc out rfl O3.out hw ⟨(t : Int), 1, ci, cx⟩ rfl _ rfl rfl hol ?_; intro a4 c4 V4 m4 hm4 ho4 hg4; have HD4 := Lib.hid ((D3.out.step ((Below.refl _ _).alloc (Nat.le_refl _) _)).grown hg4 (fun r hr => HRB.out r hr)); have HO4 := Lib.hid ho4; clear ho4 hg4)
                  go_roundw
                  case rel => exact ⟨i + 1, a4, c4, m4, rfl, by first | rfl | go_num, by omega, HD4, HO4, Lib.hid (by rw [hm4.out]; exact HM3.out), Lib.hid (by rw [hm4.out, List.length_append]; exact Nat.succ_le_succ HLN.out)⟩
                  case measure => first | (simp [intOf]; omega) | simp [intOf]
              · have d1 : (ct != (t : Int)) = true := by rw [bne_iff_ne]; exact q
                have HM3 := Lib.hid (HNX.out [] (by rw [HON.out, if_neg q]))
                rw [List.append_nil] at HM3
                clear q
                go_wp2
                go_roundw
                case rel => exact ⟨i + 1, oa, oc, out, rfl, by first | rfl | go_num, by omega, D1, O1w, HM3, Lib.hid (Nat.le_succ_of_le HLN.out)⟩
                case measure => first | (simp [intOf]; omega) | simp [intOf]
            · obtain rfl : i = ys.length := by omega
              have HM2 : Hid (out = (List.range (t + 1)).flatMap fun s : Nat => goneC (s : Int) xs ys ++ newC (s : Int) xs ys) := Lib.hid (by
                have := HM.out
                rw [List.take_length] at this
                rw [this, HPRE.out, List.range_succ, List.flatMap_append, List.append_assoc]
                simp)
              go_wp2
              go_roundw
              case rel => exact ⟨t + 1, oa, oc, out, rfl, by first | rfl | go_num, by omega, HDi, HO, HM2, Lib.hid (len_next HLN.out hnb)⟩
              case measure => first | (simp [intOf]; omega) | simp [intOf]
    · obtain rfl : n = t := by omega
      obtain ⟨a', c', hv, _, _, hr⟩ := rk_own HO.out
      injection hv with e1 _ e3
      subst e1 e3
      have HRR : Hid (dfV n m xs ys = out) := Lib.hid (by rw [HR2.out, HM.out]; rfl)
      have HEL : Hid (Els opE 0 wr.heap.size wr oa out) := Lib.hid (Rw.wide hr (Nat.zero_le _) (Nat.le_refl _))
      clear hr
      go_wp2
      go_ret2
      rw [HRR.out, HR.out]
      first
      | exact ⟨oa, oc, rfl, HEL.out, HDt.out.old⟩
      | exact ⟨oa, ⟨oc, rfl⟩, HEL.out, HDt.out.old⟩
end Go.Proofs.Yteccahggahpeeaa
