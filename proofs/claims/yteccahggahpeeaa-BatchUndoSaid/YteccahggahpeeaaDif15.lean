/- The program's Diff. -/
import Derived.Test.YteccahggahpeeaaTurn15
namespace Go.Proofs.Yteccahggahpeeaa
open Go.RowKit

theorem diffS_snoc : ∀ {A B : St15} (t : Nat) (x y : Tb15), A.length = B.length → diffS t (A ++ [x]) (B ++ [y]) = diffS t A B ++ diffT ((t + A.length : Nat) : Int) x y
  | [], [], t, x, y, _ => by
    show diffT (t : Int) x y ++ diffS (t + 1) [] [] = [] ++ diffT ((t + 0 : Nat) : Int) x y
    rw [List.nil_append, Nat.add_zero]
    show _ ++ [] = _
    rw [List.append_nil]
    rfl
  | [], b :: B, _, _, _, h => by simp at h
  | a :: A, [], _, _, _, h => by simp at h
  | a :: A, b :: B, t, x, y, h => by
    show diffT (t : Int) a b ++ diffS (t + 1) (A ++ [x]) (B ++ [y]) = diffT (t : Int) a b ++ diffS (t + 1) A B ++ _
    rw [diffS_snoc (t + 1) x y (by simpa using h), List.append_assoc, List.length_cons, show t + 1 + A.length = t + (A.length + 1) by omega]
theorem take_tab15 (S : St15) {i : Nat} (h : i < S.length) : S.take (i + 1) = S.take i ++ [tab S (i : Int)] := by
  rw [List.take_add_one, List.getElem?_eq_getElem h, tab_at h]; rfl
theorem diff_next15 {A B : St15} (h : A.length = B.length) {i : Nat} (hi : i < A.length) : diffS 0 (A.take (i + 1)) (B.take (i + 1)) = diffS 0 (A.take i) (B.take i) ++ diffT (i : Int) (tab A (i : Int)) (tab B (i : Int)) := by
  rw [take_tab15 A hi, take_tab15 B (by omega), diffS_snoc 0 _ _ (by simp; omega), List.length_take, Nat.min_eq_left (by omega), Nat.zero_add]
theorem diff_take_len {A B : St15} (hA : OkS A) (hB : OkS B) (i : Nat) : (diffS 0 (A.take i) (B.take i)).length ≤ 960 := by
  have h1 := diffS_len (A := A.take i) (B := B.take i) 0 (fun T hT => hA.tab T (List.mem_of_mem_take hT)) (fun T hT => hB.tab T (List.mem_of_mem_take hT))
  have h2 := List.length_take_le' i A
  have h3 := hA.len
  omega
theorem OutE.grew {w W V : World} {a : Option Addr} {c : Nat} {l D : List Op15} {v : Value} {n : Nat} (h : OutE opE 69 w W a c l) (ho : V.ownsRow w.heap.size 69 4 v n (opE.cells l ++ opE.cells D)) (hn : n = l.length + D.length) (hg : W.grownBy V (Value.slice a l.length c).ownBlock) :
    ∃ a' c', v = .slice a' (l ++ D).length c' ∧ OutE opE 69 w V a' c' (l ++ D) := by
  rw [← opE.cells_append] at ho
  have e : n = (l ++ D).length := by rw [hn, List.length_append]
  subst e
  obtain ⟨a', c', rfl, _, _, _⟩ := rk_own ho
  exact ⟨a', c', rfl, ho, below_rk h.below h.own (Nat.le_refl _) hg⟩
set_option maxRecDepth 100000 in
set_option maxHeartbeats 16000000 in
theorem pdiff15_any (a : Option Addr) (c : Nat) (A : St15) (b : Option Addr) (d : Nat) (B : St15) (w : World) (ha : StV w a c A) (hb : StV w b d B) :
    Calls Try.prog 27 #[stVal a c A, stVal b d B] w fun e w' => ∃ a' c', e = .returned (.tuple #[.slice a' (diffV A B).length c', .int .i64 (diffE A B)]) ∧ OpsV w' a' c' (diffV A B) ∧ Below w.heap.size w w' := by
  have h0 := Both15.start c d ha.1 hb.1
  have H0 := Lib.hid h0
  obtain ⟨c0, c1⟩ := h0.fact
  have HCA : Hid (∀ W, Both15 w W a c A b d B → Calls Try.prog 19 #[stVal a c A] W fun e w' => e = .returned (.int .i64 (checkS A)) ∧ Below W.heap.size W w') := Lib.hid fun W h => pcheck15_any a c A W ⟨h.tab, ha.2⟩
  have HCB : Hid (∀ W, Both15 w W a c A b d B → Calls Try.prog 19 #[stVal b d B] W fun e w' => e = .returned (.int .i64 (checkS B)) ∧ Below W.heap.size W w') := Lib.hid fun W h => pcheck15_any b d B W ⟨h.tab2, hb.2⟩
  have nothing : ∀ (W : World), OpsV W none 0 [] := fun W => ⟨Or.inl rfl, Nat.le_refl _, by simp⟩
  clear h0 ha hb
  by_cases hkA : checkS A = 0
  · rw [hkA] at HCA
    by_cases hkB : checkS B = 0
    · rw [hkB] at HCB
      have hokA := checkS_ok.1 hkA
      have hokB := checkS_ok.1 hkB
      by_cases hlen : A.length = B.length
      · have hE : diffE A B = 0 := by unfold diffE; rw [if_neg (by omega), if_neg (by omega)]
        have HV : Hid (diffV A B = diffS 0 A B) := Lib.hid (by unfold diffV; rw [if_pos hE])
        rw [hE]
        have HVL := Lib.hid (diffV_len A B)
        have HNX : Hid (∀ i, i < A.length → diffS 0 (A.take (i + 1)) (B.take (i + 1)) = diffS 0 (A.take i) (B.take i) ++ diffT (i : Int) (tab A (i : Int)) (tab B (i : Int))) := Lib.hid fun i hi => diff_next15 hlen hi
        have HDL : Hid (∀ i, (diffS 0 (A.take i) (B.take i)).length ≤ 960) := Lib.hid (diff_take_len hokA hokB)
        have HOT : Hid (∀ i : Nat, i < A.length → OkT (tab A (i : Int)) ∧ OkT (tab B (i : Int))) := Lib.hid fun i hi => ⟨hokA.tab _ (by rw [tab_at hi]; exact List.getElem_mem hi), hokB.tab _ (by rw [tab_at (S := B) (by omega)]; exact List.getElem_mem (by omega))⟩
        have HLE := Lib.hid hlen
        have hl8 := hokA.len
        have j1 : ((A.length : Int) != (B.length : Int)) = false := by rw [hlen]; simp
        have j2 : ((A.length : Int) == (B.length : Int)) = true := by rw [hlen]; simp
        have j3 : (A.length != B.length) = false := by rw [hlen]; simp
        clear hkA hkB hokA hokB hE nothing hlen
        go_enter Try.func27, Try.ntmps27
        go_upto_region 9 with (first
          | (go_at_call 19; refine (HCA.out _ H0.out).mono ?_; rintro e w2 ⟨rfl, hb⟩; have H2 := Lib.hid (H0.out.step hb); obtain ⟨d0, d1⟩ := H2.out.fact; clear hb c0 c1 HCA)
          | (go_at_call 19; refine (HCB.out _ H2.out).mono ?_; rintro e w3 ⟨rfl, hb⟩; have H3 := Lib.hid (H2.out.step hb); obtain ⟨e0, e1⟩ := H3.out.fact; clear hb d0 d1))
        have HO0 := Lib.hid (OutE.start opE 69 w3)
        go_upto_region 11 with fail
        go_loopw [8, 30] (fun s8 s30 wr => ∃ (i : Nat) (oa : Option Addr) (oc : Nat) (m : List Op15), s8 = .slice oa m.length oc ∧ s30 = .int .i64 i ∧ i ≤ A.length ∧ Hid (OutE opE 69 w3 wr oa oc m) ∧ Hid (m = diffS 0 (A.take i) (B.take i))) (fun _ i _ => A.length + 1 - (intOf i).toNat)
        case atStart => exact ⟨0, none, 0, [], rfl, rfl, by omega, HO0, Lib.hid rfl⟩
        case round =>
          clear HO0 e0 e1
          obtain ⟨i, oa, oc, m, rfl, rfl, hi, HO, HM⟩ := hrel
          by_cases hlt : i < A.length
          · have i1 : (i : Int) < (A.length : Int) := by omega
            have i2 : (i : Int) < (B.length : Int) := by have := HLE.out; omega
            have i3 : (0 : Int) ≤ (i : Int) := by omega
            obtain ⟨ab, aoff, ea, hab, aj, acj, _, _, _⟩ := H3.out.tab.at hlt
            obtain ⟨bb, boff, eb, hbb, bj, bcj, _, _, _⟩ := H3.out.tab2.at (j := i) (by omega)
            have HFC : Hid (∀ W, Below w3.heap.size w3 W → W.cell? ⟨w.heap.size, 0, none⟩ = some (.slice a A.length c) ∧ W.cell? ⟨w.heap.size + 1, 0, none⟩ = some (.slice b B.length d)) := Lib.hid fun W hW => (H3.out.step hW).fact
            obtain ⟨qa, qac, xa, xaels⟩ : ∃ (qa : Option Addr) (qac : Nat), w3.cell? ⟨ab, aoff + i, none⟩ = some (.slice qa (tab A (i : Int)).length qac) ∧ Els recE 0 w3.heap.size w3 qa (tab A (i : Int)) := by
              obtain ⟨b2, o2, e2, _, aj, cj, y0, _, y1⟩ := H3.out.tab.at hlt
              rw [ea] at e2; cases e2
              exact ⟨aj, cj, y0, y1⟩
            obtain ⟨qb, qbc, xb, xbels⟩ : ∃ (qb : Option Addr) (qbc : Nat), w3.cell? ⟨bb, boff + i, none⟩ = some (.slice qb (tab B (i : Int)).length qbc) ∧ Els recE 0 w3.heap.size w3 qb (tab B (i : Int)) := by
              obtain ⟨b2, o2, e2, _, aj, cj, y0, _, y1⟩ := H3.out.tab2.at (j := i) (by have := HLE.out; omega)
              rw [eb] at e2; cases e2
              exact ⟨aj, cj, y0, y1⟩
            have HTC : Hid (∀ W, Below w3.heap.size w3 W → W.cell? ⟨ab, aoff + i, none⟩ = some (.slice qa (tab A (i : Int)).length qac) ∧ W.cell? ⟨bb, boff + i, none⟩ = some (.slice qb (tab B (i : Int)).length qbc)) := Lib.hid fun W hW => ⟨(hW.cell (p := ⟨ab, aoff + i, none⟩) hab).trans xa, (hW.cell (p := ⟨bb, boff + i, none⟩) hbb).trans xb⟩
            have HTU : Hid (∀ W, Below w3.heap.size w3 W → Calls Try.prog 57 #[.int .i64 i, .slice qa (tab A (i : Int)).length qac, .slice qb (tab B (i : Int)).length qbc] W fun e w' => ∃ a' c', e = .returned (.slice a' (diffT (i : Int) (tab A (i : Int)) (tab B (i : Int))).length c') ∧ (diffT (i : Int) (tab A (i : Int)) (tab B (i : Int))).length ≤ c' ∧ Els opE W.heap.size w'.heap.size w' a' (diffT (i : Int) (tab A (i : Int)) (tab B (i : Int))) ∧ Below W.heap.size W w') := Lib.hid fun W hW => pturn15_any (i : Int) qa qac (tab A (i : Int)) qb qbc (tab B (i : Int)) W (xaels.step hW) (xbels.step hW) (HOT.out i hlt).1 (HOT.out i hlt).2
            have HM2 : Hid (m ++ diffT (i : Int) (tab A (i : Int)) (tab B (i : Int)) = diffS 0 (A.take (i + 1)) (B.take (i + 1))) := Lib.hid (by rw [HNX.out i hlt, HM.out])
            have hml : m.length + (diffT (i : Int) (tab A (i : Int)) (tab B (i : Int))).length ≤ 960 := by
              have := HDL.out (i + 1)
              rw [← HM2.out, List.length_append] at this
              exact this
            subst ea eb
            clear xa xb xaels xbels hab hbb
            generalize diffT (i : Int) (tab A (i : Int)) (tab B (i : Int)) = D at *
            generalize (tab A (i : Int)).length = na at *
            generalize (tab B (i : Int)).length = nb at *
            obtain ⟨f0, f1⟩ := HFC.out _ HO.out.below
            obtain ⟨t0, t1⟩ := HTC.out _ HO.out.below
            have HDB : Hid (Below w3.heap.size w3 wr.drew) := Lib.hid HO.out.below.drew
            have HO2 := Lib.hid HO.out.drew
            have HDL2 := Lib.hid (opE.cells_len D)
            have HD1 := Lib.hid (opE.one_cell D)
            go_upto_region 13 with fail
            go_region_held3 (fun v => v.cell? ⟨w.heap.size, 0, none⟩ = some (.slice (some ⟨ab, aoff, none⟩) A.length c) ∧ v.cell? ⟨w.heap.size + 1, 0, none⟩ = some (.slice (some ⟨bb, boff, none⟩) B.length d) ∧ v.cell? ⟨ab, aoff + i, none⟩ = some (.slice qa na qac) ∧ v.cell? ⟨bb, boff + i, none⟩ = some (.slice qb nb qbc)) (first | go_keep) (first
              | (go_at_call 57; refine (HTU.out wr.drew HDB.out).mono ?_; rintro e w5 ⟨da, dc, rfl, h1, h2, hb⟩; have HO5 := Lib.hid (HO2.out.step15 hb); have HD5 := Lib.hid h2; obtain ⟨f2, f3⟩ := HFC.out _ HO5.out.below; obtain ⟨t2, t3⟩ := HTC.out _ HO5.out.below; clear h1 h2 hb)
              | (refine step_append_rk rfl _ _ (by decide) Try.underlying25 infoOpP rfl rfl w3.heap.size m.length _ (opE.cells m) (opE.cells D) rfl HO5.out.own da D.length dc wr.heap.size w5.heap.size rfl HDL2.out HD5.out HD1.out (by omega) (by decide) HO5.out.below.size ?_; intro v6 w6 ho6 hg6; obtain ⟨a6, c6, rfl, hO6⟩ := HO5.out.grew ho6 rfl hg6; have HO6 := Lib.hid hO6; obtain ⟨f4, f5⟩ := HFC.out _ hO6.below; obtain ⟨t4, t5⟩ := HTC.out _ hO6.below; clear ho6 hg6 hO6))
            all_goals
              clear f0 f1 f2 f3 f4 f5 t0 t1 t2 t3 t4 t5
              go_wp2
              go_roundw
              case rel => exact ⟨i + 1, a6, c6, m ++ D, by first | rfl | rw [List.length_append], by first | rfl | go_num, by omega, HO6, HM2⟩
              case measure => first | (simp [intOf]; omega) | simp [intOf]
          · obtain rfl : i = A.length := by omega
            have HMM : Hid (m = diffV A B) := Lib.hid (by rw [HM.out, HV.out, List.take_length, HLE.out, List.take_length])
            have HE := Lib.hid HO.out.els
            go_wp2
            go_ret2
            refine ⟨oa, oc, by rw [← HMM.out]; rfl, ⟨?_, ?_, by have := HVL.out; omega⟩, H3.out.old.trans (HO.out.below.mono H3.out.old.size)⟩
            · rw [← HMM.out]; exact HE.out.2.wide (Nat.zero_le _) (Nat.le_refl _)
            · rw [← HMM.out]; exact HE.out.1
      · have hE : diffE A B = 2 := by unfold diffE; rw [if_neg (by omega), if_pos hlen]
        have hV : diffV A B = [] := by unfold diffV; rw [hE]; rfl
        rw [hE, hV]
        have j1 : ((A.length : Int) != (B.length : Int)) = true := by rw [bne_iff_ne]; omega
        have j2 : ((A.length : Int) == (B.length : Int)) = false := beq_eq_false_iff_ne.2 (by omega)
        have j3 : (A.length != B.length) = true := by rw [bne_iff_ne]; exact hlen
        have j4 : (A.length == B.length) = false := beq_eq_false_iff_ne.2 hlen
        clear hkA hkB hE hV hlen hokA hokB
        go_enter Try.func27, Try.ntmps27
        go_wp2_with (first
          | (go_at_call 19; refine (HCA.out _ H0.out).mono ?_; rintro e w2 ⟨rfl, hb⟩; have H2 := Lib.hid (H0.out.step hb); obtain ⟨d0, d1⟩ := H2.out.fact; clear hb c0 c1 HCA)
          | (go_at_call 19; refine (HCB.out _ H2.out).mono ?_; rintro e w3 ⟨rfl, hb⟩; have H3 := Lib.hid (H2.out.step hb); obtain ⟨e0, e1⟩ := H3.out.fact; clear hb d0 d1))
        go_ret2
        exact ⟨none, 0, rfl, nothing _, H3.out.old⟩
    · have hk2 := (check_two15 B).resolve_left hkB
      have hE : diffE A B = 40 := by unfold diffE; rw [if_pos (Or.inr hkB)]
      have hV : diffV A B = [] := by unfold diffV; rw [hE]; rfl
      rw [hE, hV]
      rw [hk2] at HCB
      clear hkA hkB hE hV hk2
      go_enter Try.func27, Try.ntmps27
      go_wp2_with (first
        | (go_at_call 19; refine (HCA.out _ H0.out).mono ?_; rintro e w2 ⟨rfl, hb⟩; have H2 := Lib.hid (H0.out.step hb); obtain ⟨d0, d1⟩ := H2.out.fact; clear hb c0 c1 HCA)
        | (go_at_call 19; refine (HCB.out _ H2.out).mono ?_; rintro e w3 ⟨rfl, hb⟩; have H3 := Lib.hid (H2.out.step hb); clear hb d0 d1))
      go_ret2
      exact ⟨none, 0, rfl, nothing _, H3.out.old⟩
  · have hk2 := (check_two15 A).resolve_left hkA
    have hE : diffE A B = 40 := by unfold diffE; rw [if_pos (Or.inl hkA)]
    have hV : diffV A B = [] := by unfold diffV; rw [hE]; rfl
    rw [hE, hV]
    rw [hk2] at HCA
    clear hkA hE hV hk2
    go_enter Try.func27, Try.ntmps27
    go_wp2_with (go_at_call 19; refine (HCA.out _ H0.out).mono ?_; rintro e w2 ⟨rfl, hb⟩; have H2 := Lib.hid (H0.out.step hb); clear hb c0 c1)
    go_ret2
    exact ⟨none, 0, rfl, nothing _, H2.out.old⟩
end Go.Proofs.Yteccahggahpeeaa
