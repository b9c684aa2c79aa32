/- The walk of BatchCodes, from what is wanted of the program's batch. -/
import Derived.Test.YteccahggahpeeaaMUndo15
namespace Go.Proofs.Yteccahggahpeeaa
open Go.RowKit

set_option maxRecDepth 100000 in
set_option maxHeartbeats 8000000 in
theorem batchCodes_main (H : Batch15) (HA : Wakes15) (w : World) (a : Option Addr) (c : Nat) (A : St15) (hac : A.length ≤ c) (ha : TabsV 0 w.heap.size w a A) (b : Option Addr) (d : Nat) (B : St15) (hbd : B.length ≤ d) (hb : TabsV 0 w.heap.size w b B) (s : ByteArray) :
    Calls Try.prog 4 #[stVal a c A, stVal b d B, .string s] w fun e w' => e = .returned (.bool true) ∧ Below w.heap.size w w' := by
  have HW := Lib.hid HA
  have I0 := Both15.start c d ha hb
  have HFA := Lib.hid (lfew15 a c A _ I0.tab)
  have HFB : Hid (∀ W, Both15 w W a c A b d B → Calls Try.prog 8 #[stVal b d B] W fun e w' => e = .returned (.bool (fewS B)) ∧ Below W.heap.size W w') := Lib.hid fun W h => lfew15 b d B W h.tab2
  have HI := Lib.hid I0
  obtain ⟨c0, c1⟩ := I0.fact
  clear I0 ha hb
  cases hf : fewS A with
  | false =>
    rw [hf] at HFA
    clear hf HFB
    go_enter Try.func4, Try.ntmps4
    go_wp2_with (first
      | (go_at_call 8; refine HFA.out.mono ?_; rintro e w1 ⟨rfl, hb⟩; have I1 := Lib.hid (HI.out.step hb); clear hb)
      | (go_at_call 10; refine (HW.out _).mono ?_; rintro e w2 ⟨rfl, hb⟩; have B2 := Lib.hid (I1.out.old.trans (hb.mono I1.out.old.size)); clear hb))
    go_ret
    exact ⟨rfl, B2.out⟩
  | true =>
    rw [hf] at HFA
    have hsa := few_small15 hf
    clear hf
    cases hf2 : fewS B with
    | false =>
      rw [hf2] at HFB
      clear hf2 hsa
      go_enter Try.func4, Try.ntmps4
      go_wp2_with (first
        | (go_at_call 8; refine HFA.out.mono ?_; rintro e w1 ⟨rfl, hb⟩; have I1 := Lib.hid (HI.out.step hb); obtain ⟨d0, d1⟩ := I1.out.fact; clear hb HFA)
        | (go_at_call 8; refine (HFB.out _ I1.out).mono ?_; rintro e w3 ⟨rfl, hb⟩; have I3 := Lib.hid (I1.out.step hb); clear hb)
        | (go_at_call 10; refine (HW.out _).mono ?_; rintro e w2 ⟨rfl, hb⟩; have B2 := Lib.hid (I3.out.old.trans (hb.mono I3.out.old.size)); clear hb))
      go_ret
      exact ⟨rfl, B2.out⟩
    | true =>
      rw [hf2] at HFB
      have hsb := few_small15 hf2
      clear hf2
      by_cases hs : 5000 < s.size
      · have e1 : decide (5000 < (s.size : Int)) = true := decide_eq_true (by omega)
        have e1' : decide (5000 < s.size) = true := decide_eq_true hs
        clear hs hsa hsb
        go_enter Try.func4, Try.ntmps4
        go_wp2_with (first
          | (go_at_call 8; refine HFA.out.mono ?_; rintro e w1 ⟨rfl, hb⟩; have I1 := Lib.hid (HI.out.step hb); obtain ⟨d0, d1⟩ := I1.out.fact; clear hb HFA)
          | (go_at_call 8; refine (HFB.out _ I1.out).mono ?_; rintro e w3 ⟨rfl, hb⟩; have I3 := Lib.hid (I1.out.step hb); clear hb)
          | (go_at_call 10; refine (HW.out _).mono ?_; rintro e w2 ⟨rfl, hb⟩; have B2 := Lib.hid (I3.out.old.trans (hb.mono I3.out.old.size)); clear hb))
        go_ret
        exact ⟨rfl, B2.out⟩
      have e1 : decide (5000 < (s.size : Int)) = false := decide_eq_false (by omega)
      have e1' : decide (5000 < s.size) = false := decide_eq_false hs
      have HPU : Hid (∀ W, Both15 w W a c A b d B → Calls Try.prog 23 #[stVal a c A] W fun e w' => e = .returned (.tuple #[.string (tx (putS A)), .int .i64 (checkS A)]) ∧ Below W.heap.size W w') := Lib.hid fun W h => H.put a c A W ⟨h.tab, hac, hsa⟩
      have HRP : Hid (∀ (W : World) (ta : Option Addr) (tc : Nat), DocV W ta tc A → Calls Try.prog 24 #[dVal ta tc A] W fun e w' => e = .returned (.tuple #[.string (tx (putS A)), .int .i64 (checkS A)]) ∧ Below W.heap.size W w') := Lib.hid fun W ta tc h => dput15 ta tc A W h
      have HDF : Hid (∀ W, Both15 w W a c A b d B → Calls Try.prog 27 #[stVal a c A, stVal b d B] W fun e w' => ∃ a' c', e = .returned (.tuple #[.slice a' (diffV A B).length c', .int .i64 (diffE A B)]) ∧ OpsV w' a' c' (diffV A B) ∧ Below W.heap.size W w') := Lib.hid fun W h => H.diff a c A b d B W ⟨h.tab, hac, hsa⟩ ⟨h.tab2, hbd, hsb⟩
      have HRD : Hid (∀ (W : World) (ta : Option Addr) (tc : Nat) (ua : Option Addr) (uc : Nat), DocV W ta tc A → DocV W ua uc B → Calls Try.prog 28 #[dVal ta tc A, dVal ua uc B] W fun e w' => ∃ a' c', e = .returned (.tuple #[.slice a' (diffV A B).length c', .int .i64 (diffE A B)]) ∧ Els opE 0 w'.heap.size w' a' (diffV A B) ∧ Below W.heap.size W w') := Lib.hid fun W ta tc ua uc h1 h2 => ddiff15 ta tc A ua uc B W h1 h2
      have HOA : Hid (∀ W, Both15 w W a c A b d B → Calls Try.prog 11 #[stVal a c A] W fun e w' => ∃ a' c', e = .returned (dVal a' c' A) ∧ DocV w' a' c' A ∧ Below W.heap.size W w') := Lib.hid fun W h => lof15 a c A W ⟨h.tab, hac, hsa⟩
      have HOB : Hid (∀ W, Both15 w W a c A b d B → Calls Try.prog 11 #[stVal b d B] W fun e w' => ∃ a' c', e = .returned (dVal a' c' B) ∧ DocV w' a' c' B ∧ Below W.heap.size W w') := Lib.hid fun W h => lof15 b d B W ⟨h.tab2, hbd, hsb⟩
      have HTX : Hid (∀ W : World, Calls Try.prog 25 #[.string s] W fun e w' => ∃ a' c', e = .returned (.tuple #[stVal a' c' (takeSV s.data.toList), .int .i64 (takeSE s.data.toList)]) ∧ StV w' a' c' (takeSV s.data.toList) ∧ Below W.heap.size W w') := Lib.hid fun W => H.take s W (by omega)
      have HRT : Hid (∀ W : World, Calls Try.prog 26 #[.string s] W fun e w' => ∃ a' c', e = .returned (.tuple #[dVal a' c' (takeSV s.data.toList), .int .i64 (takeSE s.data.toList)]) ∧ DocV w' a' c' (takeSV s.data.toList) ∧ Below W.heap.size W w') := Lib.hid fun W => dtake15 s (by omega) W
      have HSA : Hid (∀ (S : St15) (W : World) (g : Nat) (ba : Option Addr) (bc : Nat) (h : Nat) (da : Option Addr) (dc : Nat), Loc15 W g ba bc S → LocD15 W h da dc S → Calls Try.prog 21 #[stVal ba bc S, dVal da dc S] W fun e w' => e = .returned (.bool true) ∧ Below W.heap.size W w') := Lib.hid fun S W g ba bc h da dc h1 h2 => lsame15 ba bc da dc S W h1.st h2.doc
      have HSO : Hid (∀ (l : List Op15) (W : World) (xa : Option Addr) (xc : Nat) (ya : Option Addr) (yc : Nat), OpsV W xa xc l → Els opE 0 W.heap.size W ya l → Calls Try.prog 22 #[.slice xa l.length xc, .slice ya l.length yc] W fun e w' => e = .returned (.bool true) ∧ Below W.heap.size W w') := Lib.hid fun l W xa xc ya yc h1 h2 => dsameops15 xa ya xc yc l W h1 h2
      have HLO : Hid (∀ (l : List Op15) (W : World) (xa : Option Addr) (xc : Nat), OpsV W xa xc l → Calls Try.prog 14 #[.slice xa l.length xc] W fun e w' => ∃ a' c', e = .returned (.slice a' l.length c') ∧ OpsV w' a' c' l ∧ Below W.heap.size W w') := Lib.hid fun l W xa xc h => lops15 xa xc l W h
      clear hsa hsb hac hbd H hs
      generalize takeSV s.data.toList = TS at *
      generalize takeSE s.data.toList = TE at *
      have q0 : ((tx (putS A)).toList == (tx (putS A)).toList) = true := by simp
      generalize tx (putS A) = PA at *
      generalize checkS A = CA at *
      generalize diffV A B = L at *
      generalize diffE A B = DE at *
      go_enter Try.func4, Try.ntmps4
      go_upto_region 6 with (first
        | (go_at_call 8; refine HFA.out.mono ?_; rintro e w1 ⟨rfl, hb⟩; have I1 := Lib.hid (HI.out.step hb); obtain ⟨d0, d1⟩ := I1.out.fact; clear hb HFA c0 c1)
        | (go_at_call 8; refine (HFB.out _ I1.out).mono ?_; rintro e w2 ⟨rfl, hb⟩; have I2 := Lib.hid (I1.out.step hb); obtain ⟨d2, d3⟩ := I2.out.fact; clear hb d0 d1 I1)
        | (go_at_call 23; refine (HPU.out _ I2.out).mono ?_; rintro e w3 ⟨rfl, hb⟩; have I3 := Lib.hid (I2.out.step hb); obtain ⟨d4, d5⟩ := I3.out.fact; clear hb d2 d3 I2)
        | (go_at_call 11; refine (HOA.out _ I3.out).mono ?_; rintro e w4 ⟨ta, tc, rfl, h1, hb⟩; have I4 := Lib.hid (I3.out.step hb); have T4 := Lib.hid h1; obtain ⟨d6, d7⟩ := I4.out.fact; clear hb h1 d4 d5 I3)
        | (go_at_call 24; refine (HRP.out _ _ _ T4.out).mono ?_; rintro e w5 ⟨rfl, hb⟩; have I5 := Lib.hid (I4.out.step hb); obtain ⟨d8, d9⟩ := I5.out.fact; clear hb d6 d7 I4)
        | (go_at_call 25; refine (HTX.out _).mono ?_; rintro e w6 ⟨xa, xc, rfl, h1, hb⟩; have X6 := Lib.hid (Loc15.late h1); have I6 := Lib.hid (I5.out.step (below_new hb (.cells #[.slice xa TS.length xc] 24))); clear hb h1 d8 d9 I5))
      generalize w6.alloc (.cells #[.slice xa TS.length xc] 24) = V6 at *
      generalize w6.heap.size = g6 at *
      go_upto_region 7 with (go_at_call 26; refine (HRT.out _).mono ?_; rintro e w7 ⟨ya, yc, rfl, h1, hb⟩; have Y7 := Lib.hid (LocD15.late h1); have I7 := Lib.hid (I6.out.step (below_new hb (.cells #[.int .i64 TS.length, .slice ya (cellsF 0 TS).length yc] 32))); have X7 := Lib.hid (X6.out.step (below_new hb (.cells #[.int .i64 TS.length, .slice ya (cellsF 0 TS).length yc] 32))); clear hb h1 I6 X6)
      generalize w7.alloc (.cells #[.int .i64 TS.length, .slice ya (cellsF 0 TS).length yc] 32) = V7 at *
      generalize w7.heap.size = g7 at *
      obtain ⟨f0, f1⟩ := I7.out.fact
      go_upto_region 8 with (go_at_call 27; refine (HDF.out _ I7.out).mono ?_; rintro e w8 ⟨la, lc, rfl, h1, hb⟩; have L8 := Lib.hid h1; have I8 := Lib.hid (I7.out.step hb); have X8 := Lib.hid (X7.out.step hb); have Y8 := Lib.hid (Y7.out.step hb); clear hb h1 I7 X7 Y7 f0 f1)
      have I9 := Lib.hid (I8.out.step (Below.refl _ w8).drew)
      have X9 := Lib.hid (X8.out.step (Below.refl _ w8).drew)
      have Y9 := Lib.hid (Y8.out.step (Below.refl _ w8).drew)
      have L9 := Lib.hid (L8.out.step (Below.refl _ w8).drew)
      obtain ⟨f2, f3⟩ := I8.out.fact
      go_region_held3 (fun v => v.cell? ⟨w.heap.size, 0, none⟩ = some (.slice a A.length c) ∧ v.cell? ⟨w.heap.size + 1, 0, none⟩ = some (.slice b B.length d)) (first | go_keep) (first
        | (go_at_call 11; refine (HOA.out _ I9.out).mono ?_; rintro e wa ⟨ua, uc, rfl, h1, hb⟩; have U1 := Lib.hid h1; have IA := Lib.hid (I9.out.step hb); have XA := Lib.hid (X9.out.step hb); have YA := Lib.hid (Y9.out.step hb); have LA := Lib.hid (L9.out.step hb); obtain ⟨f4, f5⟩ := IA.out.fact; clear hb h1 I9 X9 Y9 L9)
        | (go_at_call 11; refine (HOB.out _ IA.out).mono ?_; rintro e wb ⟨va, vc, rfl, h1, hb⟩; have U2 := Lib.hid (U1.out.step hb); have V2 := Lib.hid h1; have IB := Lib.hid (IA.out.step hb); have XB := Lib.hid (XA.out.step hb); have YB := Lib.hid (YA.out.step hb); have LB := Lib.hid (LA.out.step hb); obtain ⟨f6, f7⟩ := IB.out.fact; clear hb h1 IA XA YA LA U1)
        | (go_at_call 28; refine (HRD.out _ _ _ _ _ U2.out V2.out).mono ?_; rintro e wc ⟨ka, kc, rfl, h1, hb⟩; have K3 := Lib.hid h1; have IC := Lib.hid (IB.out.step hb); have XC := Lib.hid (XB.out.step hb); have YC := Lib.hid (YB.out.step hb); have LC := Lib.hid (LB.out.step hb); obtain ⟨f8, f9⟩ := IC.out.fact; clear hb h1 IB XB YB LB))
      all_goals
        have g0 := XC.out.fact
        obtain ⟨g1, g2⟩ := YC.out.fact
        go_wp2_with (first
          | (go_at_call 21; refine (HSA.out _ _ _ _ _ _ _ _ XC.out YC.out).mono ?_; rintro e wd ⟨rfl, hb⟩; have ID := Lib.hid (IC.out.step hb); have LD := Lib.hid (LC.out.step hb); have KD := Lib.hid (Els.step K3.out hb); clear hb)
          | (go_at_call 14; refine (HLO.out _ _ _ _ LD.out).mono ?_; rintro e we ⟨ma, mc, rfl, h1, hb⟩; have M5 := Lib.hid h1; have IE := Lib.hid (ID.out.step hb); have KE := Lib.hid (Els.step KD.out hb); clear hb h1)
          | (go_at_call 22; refine (HSO.out _ _ _ _ _ _ M5.out KE.out).mono ?_; rintro e wf ⟨rfl, hb⟩; have IF := Lib.hid (IE.out.step hb); clear hb)
          | (go_at_call 10; refine (HW.out _).mono ?_; rintro e wg ⟨rfl, hb⟩; have IG := Lib.hid (IF.out.step hb); clear hb))
        go_ret
        exact ⟨by simp, IG.out.old⟩
end Go.Proofs.Yteccahggahpeeaa
