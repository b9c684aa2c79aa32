/- The walk of the program's run. -/
import Derived.Test.YteccahggahpeeaaMRun15
namespace Go.Proofs.Yteccahggahpeeaa
open Go.RowKit

/-- What run tells. -/
def RunOut (w : World) (e : Ending) (w' : World) (S : St15) (l : List Op15) : Prop :=
  ∃ a' c' ra rc R, e = .returned (.tuple #[stVal a' c' (bV S l), .slice ra (List.length R) rc, .int .i64 (bE S l)]) ∧ R.length = bN S l ∧ (bE S l = 0 → R = revL S l) ∧ w'.ownsRow w.heap.size 69 4 (.slice ra (List.length R) rc) (List.length R) (opE.cells R) ∧ TabsV w.heap.size w'.heap.size w' a' (bV S l) ∧ (bV S l).length ≤ c' ∧ Below w.heap.size w w'
theorem Rn15.facts {w : World} {g : Nat} {T : St15} {n : Nat} {ra : Option Addr} {rc : Nat} {R : List Op15} {W : World} (h : Rn15 w g T n ra rc R W) : W.cell? ⟨w.heap.size, 0, none⟩ = some (.slice (some ⟨g, 0, none⟩) n n) ∧ W.cell? ⟨w.heap.size + 1, 0, none⟩ = some (.slice none 0 0) ∧ W.frozen? ⟨w.heap.size + 1, 0, none⟩ = false := ⟨cell_of h.box rfl, cell_of h.res rfl, frozen_of_row _ _ 0 _ _ h.res⟩
theorem results_bs {fn : Func} {p u v : Tmp} {T : TypeId} (h : fn.results = #[.cell p T, .tmp u, .tmp v]) (tmps : Array Value) (w : World) (g : Nat) (x : Value)
    (hp : tmps.getD p undef = .pointer (some ⟨g, 0, none⟩)) (hl : (loadVar T ⟨g, 0, none⟩).run Try.prog w = .ok x w) :
    (results fn tmps).run Try.prog w = .ok (.tuple #[x, tmps.getD u undef, tmps.getD v undef]) w := results_row_two15 h tmps w g x hp hl
theorem Rn15.after {w : World} {g : Nat} {T : St15} {n : Nat} {ra : Option Addr} {rc : Nat} {R : List Op15} {W : World} (h : Rn15 w g T n ra rc R W) (v : Value) :
    (W.setCell ⟨w.heap.size + 1, 0, none⟩ v).heap[w.heap.size + 1]? = some (.cells #[v] 24 (0, 0)) ∧ (W.setCell ⟨w.heap.size + 1, 0, none⟩ v).ownsRow w.heap.size 69 4 (.slice ra R.length rc) R.length (opE.cells R) ∧ TabsV w.heap.size (W.setCell ⟨w.heap.size + 1, 0, none⟩ v).heap.size (W.setCell ⟨w.heap.size + 1, 0, none⟩ v) (some ⟨g, 0, none⟩) T ∧ Below w.heap.size w (W.setCell ⟨w.heap.size + 1, 0, none⟩ v) := by
  have hgt := h.gt
  refine ⟨heap_setCell_same _ _ 0 _ _ _ h.res, ownk_base (ownsRow_setCell_below h.rev (show w.heap.size + 1 < g + 1 by omega) _) (by omega), ?_, h.old.setCell (p := ⟨w.heap.size + 1, 0, none⟩) (by simp) _⟩
  rw [World.size_setCell]
  exact (h.own.tabs.set (p := ⟨w.heap.size + 1, 0, none⟩) (by show w.heap.size + 1 < g; omega) v).wide (by omega) (Nat.le_refl _)
set_option maxRecDepth 100000 in
set_option maxHeartbeats 16000000 in
theorem prun15_any (a : Option Addr) (c : Nat) (S : St15) (la : Option Addr) (lc : Nat) (l : List Op15) (w : World) (h : StV w a c S) (hl : OpsV w la lc l) :
    Calls Try.prog 30 #[stVal a c S, .slice la l.length lc] w fun e w' => RunOut w e w' S l := by
  have hb0 := ((Below.refl w.heap.size w).alloc (Nat.le_refl _) (.cells #[.slice a S.length c] 24)).alloc (by simp) zeroS
  have HO := Lib.hid (And.intro (heap_alloc2_old w (.cells #[.slice a S.length c] 24) zeroS) (heap_alloc2_new w (.cells #[.slice a S.length c] 24) zeroS))
  have HB := Lib.hid hb0
  have HCK : Hid (∀ W, Below w.heap.size w W → Calls Try.prog 19 #[stVal a c S] W fun e w' => e = .returned (.int .i64 (checkS S)) ∧ Below W.heap.size W w') := Lib.hid fun W hW => pcheck15_any a c S W (h.step hW)
  have HCL : Hid (∀ W, Below w.heap.size w W → Calls Try.prog 58 #[stVal a c S] W fun e w' => ∃ g, e = .returned (stVal (some ⟨g, 0, none⟩) S.length S) ∧ W.heap.size ≤ g ∧ StO g S w' ∧ Below W.heap.size W w') := Lib.hid fun W hW => pcloneS_any a c S W (h.step hW)
  have HL := Lib.hid hl
  have hll := hl.2.2
  have HSZ : Hid (((w.alloc (.cells #[.slice a S.length c] 24)).alloc zeroS).heap.size = w.heap.size + 2) := Lib.hid (by simp)
  clear h hb0 hl
  by_cases hk : checkS S = 0
  · rw [hk] at HCK
    have HOK := Lib.hid (checkS_ok.1 hk)
    clear hk
    go_enter Try.func30, Try.ntmps30
    go_upto_region 1 with fail
    generalize (w.alloc (.cells #[.slice a S.length c] 24)).alloc zeroS = V at *
    have c0 := cell_of HO.out.1 (j := 0) rfl
    go_upto_region 5 with (first
      | (go_at_call 19; refine (HCK.out _ HB.out).mono ?_; rintro e w2 ⟨rfl, hb⟩; have HB2 := Lib.hid (HB.out.trans (hb.mono HB.out.size)); have HO2 := Lib.hid (And.intro (old_obj hb HO.out.1) (And.intro (old_obj hb HO.out.2) hb.size)); have c1 := cell_of HO2.out.1 (j := 0) rfl; clear hb c0)
      | (go_at_call 58; refine (HCL.out _ HB2.out).mono ?_; rintro e w3 ⟨g, rfl, hg, ho, hb⟩; have HB3 := Lib.hid (HB2.out.trans (hb.mono HB2.out.size)); have HO3 := Lib.hid (And.intro (old_obj hb HO2.out.1) (old_obj hb HO2.out.2.1)); have HG := Lib.hid (And.intro hg ho); have c2 := cell_of HO3.out.1 (j := 0) rfl; have c3 := frozen_of_row _ _ 0 _ _ HO3.out.1; clear hb hg ho c1))
    have HR0 : Hid (Rn15 w g S S.length none 0 [] (w3.setCell ⟨w.heap.size, 0, none⟩ (.slice (some ⟨g, 0, none⟩) S.length S.length))) := Lib.hid (by
      have hgt : w.heap.size + 2 ≤ g := by have := HG.out.1; have := HO2.out.2.2; have := HSZ.out; omega
      refine ⟨HB3.out.setCell (p := ⟨w.heap.size, 0, none⟩) (Nat.le_refl _) _, hgt, heap_setCell_same _ _ 0 _ _ _ HO3.out.1, by rw [heap_set15 _ _ _ _ _ (by omega)]; exact HO3.out.2, ?_, World.ownsRow_nil _ _ _ _⟩
      obtain ⟨arr, h1, h2, h3⟩ := HG.out.2
      refine ⟨arr, by rw [heap_set15 _ _ _ _ _ (by omega)]; exact h1, h2, fun j hj => ?_⟩
      obtain ⟨aj, cj, e1, e2, e3, e4⟩ := h3 j hj
      exact ⟨aj, cj, e1, e2, by rw [World.size_setCell]; exact e3.set15 (p := ⟨w.heap.size, 0, none⟩) (by show w.heap.size < g + 1; omega) _, e4.set _ _ _⟩)
    clear c2 c3
    generalize w3.setCell ⟨w.heap.size, 0, none⟩ (.slice (some ⟨g, 0, none⟩) S.length S.length) = V4 at *
    have HG0 := Lib.hid (Gn15.start HOK.out l)
    clear HO HB HSZ HO2 HO3 HB2 HB3 HG HCK HCL
    go_upto_region 7 with fail
    go_loopw [8, 23] (fun s8 s23 wr => ∃ (i : Nat) (T : St15) (ra : Option Addr) (rc : Nat) (R : List Op15), s8 = .slice ra R.length rc ∧ s23 = .int .i64 i ∧ i ≤ l.length ∧ Hid (Gn15 S l i T R) ∧ Hid (Rn15 w g T S.length ra rc R wr)) (fun _ i _ => l.length + 1 - (intOf i).toNat)
    case atStart => exact ⟨0, S, none, 0, [], rfl, rfl, by omega, HG0, HR0⟩
    case round =>
      clear HG0 HR0
      obtain ⟨i, T, ra, rc, R, rfl, rfl, hi, HGn, HR⟩ := hrel
      by_cases hlt : i < l.length
      · have i1 : (i : Int) < (l.length : Int) := by omega
        have i3 : (0 : Int) ≤ (i : Int) := by omega
        obtain ⟨b, off, eb, hbb, o0, o1, o2, o3⟩ := ops_at (HL.out.step HR.out.old).1 hlt
        have HCH : Hid (∀ W, StO g T W → Calls Try.prog 59 #[.agg #[.slice (some ⟨g, 0, none⟩) S.length S.length], opVal (opAt l i)] W fun e w' => ChOut W g T (opAt l i) e w') := Lib.hid fun W hW => by
          have := pchange15_any g S.length T (opAt l i) W hW HGn.out.ok
          rw [show stVal (some ⟨g, 0, none⟩) S.length T = .agg #[.slice (some ⟨g, 0, none⟩) S.length S.length] from by rw [← HGn.out.same]] at this
          exact this
        have HNX : Hid (wrongS T (opAt l i) = 0 → Gn15 S l (i + 1) (doesS T (opAt l i)) (R ++ [backO T (opAt l i)])) := Lib.hid fun hw => HGn.out.next hlt hw
        have HSP : Hid (wrongS T (opAt l i) ≠ 0 → bE S l = wrongS T (opAt l i) ∧ bN S l = R.length ∧ bV S l = [] ∧ bE S l ≠ 0) := Lib.hid fun hw => HGn.out.stop HOK.out hlt hw
        have hrl : R.length ≤ 900000 := by have := HGn.out.len; omega
        subst eb
        clear hbb hlt
        generalize opAt l i = o at *
        have hw1 := (Below.refl wr.heap.size wr).alloc (Nat.le_refl _) (.cells #[.int .i64 o.t, .int .i64 o.k, .int .i64 o.id, .string (tx o.x)] 69)
        have HR1 := Lib.hid (HR.out.step hw1)
        have HV1 := Lib.hid (heap_alloc_new wr (.cells #[.int .i64 o.t, .int .i64 o.k, .int .i64 o.id, .string (tx o.x)] 69))
        clear hw1
        go_upto_region 9 with fail
        generalize wr.alloc (.cells #[.int .i64 o.t, .int .i64 o.k, .int .i64 o.id, .string (tx o.x)] 69) = W1 at *
        obtain ⟨r0, r1, r2⟩ := HR1.out.facts
        have v0 := cell_of HV1.out (j := 0) rfl
        have v1 := cell_of HV1.out (j := 1) rfl
        have v2 := cell_of HV1.out (j := 2) rfl
        have v3 := cell_of HV1.out (j := 3) rfl
        by_cases hw : wrongS T o = 0
        · have HNX2 := Lib.hid (HNX.out hw)
          have HCH2 : Hid (Calls Try.prog 59 #[.agg #[.slice (some ⟨g, 0, none⟩) S.length S.length], opVal o] W1 fun e w' => e = .returned (.tuple #[opVal (backO T o), .int .i64 0]) ∧ StO g (doesS T o) w' ∧ W1.grownBy w' (some g)) := Lib.hid ((HCH.out W1 HR1.out.own).mono (by
            rintro e w' (⟨q, _⟩ | ⟨_, q1, q2, q3⟩)
            · exact absurd hw q
            · exact ⟨q1, q2, q3⟩))
          clear hw HCH
          generalize doesS T o = T2 at *
          generalize backO T o = bo at *
          go_upto_region 10 with (go_at_call 59; refine HCH2.out.mono ?_; rintro e w5 ⟨rfl, h1, h2⟩; have HR5 := Lib.hid (HR1.out.change h2 h1); clear h1 h2)
          have hw6 := (Below.refl w5.heap.size w5).alloc (Nat.le_refl _) (.cells #[.int .i64 bo.t, .int .i64 bo.k, .int .i64 bo.id, .string (tx bo.x)] 69)
          have HR6 := Lib.hid (HR5.out.step hw6)
          have HV6 := Lib.hid (heap_alloc_new w5 (.cells #[.int .i64 bo.t, .int .i64 bo.k, .int .i64 bo.id, .string (tx bo.x)] 69))
          clear hw6 r0 r1 r2 v0 v1 v2 v3
          generalize w5.alloc (.cells #[.int .i64 bo.t, .int .i64 bo.k, .int .i64 bo.id, .string (tx bo.x)] 69) = W6 at *
          have v0 := cell_of HV6.out (j := 0) rfl
          have v1 := cell_of HV6.out (j := 1) rfl
          have v2 := cell_of HV6.out (j := 2) rfl
          have v3 := cell_of HV6.out (j := 3) rfl
          go_wp2_with (at_builtin; refine append_e opE Try.underlying25 infoOpP rfl (by decide) rfl _ _ rfl (g + 1) ra rc R rfl HR6.out.rev (by have := HR6.out.own.lt; omega) bo rfl _ rfl rfl hrl ?_)
          intro a7 c7 V7 R7 hR7 ho7 hg7
          have HR7 : Hid (Rn15 w g T2 S.length a7 c7 R7 V7) := Lib.hid (HR6.out.more ho7 hg7 (HR6.out.keep hg7))
          have HN7 : Hid (Gn15 S l (i + 1) T2 R7) := Lib.hid (by rw [hR7.out]; exact HNX2.out)
          clear ho7 hg7 v0 v1 v2 v3
          go_wp2
          go_roundw
          case rel => exact ⟨i + 1, T2, a7, c7, R7, by first | rfl | rw [hR7.out], by first | rfl | go_num, by omega, HN7, HR7⟩
          case measure => first | (simp [intOf]; omega) | simp [intOf]
        · obtain ⟨s1, s2, s3, s4⟩ := HSP.out hw
          have HCH2 : Hid (Calls Try.prog 59 #[.agg #[.slice (some ⟨g, 0, none⟩) S.length S.length], opVal o] W1 fun e w' => ChNo W1 e w' (bE S l)) := Lib.hid ((HCH.out W1 HR1.out.own).mono (by
            rintro e w' (⟨_, q⟩ | ⟨q, _⟩)
            · rw [s1]; exact q
            · exact absurd q hw))
          have d1 : (bE S l != 0) = true := by rw [bne_iff_ne]; exact s4
          have d2 : (bE S l == 0) = false := beq_eq_false_iff_ne.2 s4
          have HS := Lib.hid (And.intro s2 (And.intro s3 s4))
          clear hw HCH s1 s2 s3 s4 HNX HSP
          obtain ⟨E, hE⟩ : ∃ E, bE S l = E := ⟨_, rfl⟩
          rw [hE] at HCH2 d1 d2
          have HE := Lib.hid hE
          clear hE
          go_upto_region 10 with (go_at_call 59; refine HCH2.out.mono ?_; rintro e w5 ⟨rfl, hb⟩; have HR5 := Lib.hid (HR1.out.step hb); clear hb)
          have HR6 := Lib.hid (HR5.out.step ((Below.refl w5.heap.size w5).alloc (Nat.le_refl _) zeroOp))
          clear r0 r1 r2 v0 v1 v2 v3
          generalize w5.alloc zeroOp = W6 at *
          obtain ⟨r0, r1, r2⟩ := HR6.out.facts
          have HF := Lib.hid (HR6.out.after (.slice none 0 0))
          go_wp2
          refine bodyPost_ret (results_bs rfl _ _ (w.heap.size + 1) _ rfl (bs_load HF.out.1)) rfl ?_
          refine ⟨none, 0, ra, rc, R, by rw [HE.out, HS.out.2.1]; rfl, HS.out.1.symm, fun z => absurd z HS.out.2.2, HF.out.2.1, ?_, ?_, HF.out.2.2.2⟩
          · rw [HS.out.2.1]; exact Or.inl rfl
          · rw [HS.out.2.1]; exact Nat.le_refl _
      · obtain rfl : i = l.length := by omega
        obtain ⟨s1, s2, s3, s4⟩ := HGn.out.done HOK.out
        have HS := Lib.hid (And.intro s1 (And.intro s2 (And.intro s3 s4)))
        have HTL := Lib.hid HGn.out.same
        obtain ⟨r0, r1, r2⟩ := HR.out.facts
        have HF := Lib.hid (HR.out.after (.slice (some ⟨g, 0, none⟩) S.length S.length))
        clear s1 s2 s3 s4
        go_wp2
        refine bodyPost_ret (results_bs rfl _ _ (w.heap.size + 1) _ rfl (bs_load HF.out.1)) rfl ?_
        refine ⟨some ⟨g, 0, none⟩, S.length, ra, rc, R, by rw [HS.out.1, HS.out.2.2.1]; show _ = Ending.returned (.tuple #[.agg #[.slice (some ⟨g, 0, none⟩) T.length S.length], _, _]); rw [HTL.out]; rfl, HS.out.2.1.symm, fun _ => HS.out.2.2.2, HF.out.2.1, ?_, ?_, HF.out.2.2.2⟩
        · rw [HS.out.2.2.1]; exact HF.out.2.2.1
        · rw [HS.out.2.2.1, HTL.out]; exact Nat.le_refl _
  · have hk2 := (check_two15 S).resolve_left hk
    rw [hk2] at HCK
    have HS : Hid (bE S l = 40 ∧ bN S l = 0 ∧ bV S l = []) := Lib.hid (by
      have e : bE S l = 40 := by unfold bE; rw [if_neg hk]
      exact ⟨e, by unfold bN; rw [if_neg hk], by unfold bV; rw [e]; rfl⟩)
    clear hk hk2
    go_enter Try.func30, Try.ntmps30
    go_upto_region 1 with fail
    generalize (w.alloc (.cells #[.slice a S.length c] 24)).alloc zeroS = V at *
    have c0 := cell_of HO.out.1 (j := 0) rfl
    go_wp2_with (go_at_call 19; refine (HCK.out _ HB.out).mono ?_; rintro e w2 ⟨rfl, hb⟩; have HB2 := Lib.hid (HB.out.trans (hb.mono HB.out.size)); have HO2 := Lib.hid (old_obj hb HO.out.2); have c1 := cell_of HO2.out (j := 0) rfl; have c2 := frozen_of_row _ _ 0 _ _ HO2.out; clear hb c0)
    refine bodyPost_ret (results_bs rfl _ _ (w.heap.size + 1) _ rfl (bs_load (heap_setCell_same _ _ 0 _ _ _ HO2.out))) rfl ?_
    refine ⟨none, 0, none, 0, [], by rw [HS.out.1, HS.out.2.2]; rfl, HS.out.2.1.symm, fun z => by rw [HS.out.1] at z; omega, World.ownsRow_nil _ _ _ _, ?_, ?_, HB2.out.setCell (p := ⟨w.heap.size + 1, 0, none⟩) (by simp) _⟩
    · rw [HS.out.2.2]; exact Or.inl rfl
    · rw [HS.out.2.2]; exact Nat.le_refl _
end Go.Proofs.Yteccahggahpeeaa
