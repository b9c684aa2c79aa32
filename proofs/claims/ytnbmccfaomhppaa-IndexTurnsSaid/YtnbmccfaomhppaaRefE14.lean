/- The document's own Pairs of an index, for every index and in every world. -/
import Derived.Test.YtnbmccfaomhppaaIds13
import Derived.Test.YtnbmccfaomhppaaOrd
import Derived.Test.YtnbmccfaomhppaaRefD14
import Derived.Test.YtnbmccfaomhppaaRow
import Derived.Deep.RegionHeld3
namespace Go.Proofs.Ytnbmccfaomhppaa
open Go.RowKit

/-- A slice of slices of numbers. -/
def Lists (A B : Nat) (w : World) (a : Option Addr) (I : List (List Int)) : Prop :=
  I = [] ∨ ∃ b off, a = some ⟨b, off, none⟩ ∧ A ≤ b ∧ b < B ∧ ∀ j, j < I.length → ∃ (aj : Option Addr) (cj : Nat), w.cell? ⟨b, off + j, none⟩ = some (.slice aj (numsAt I j).length cj) ∧ (numsAt I j).length ≤ cj ∧ Ints B w aj (numsAt I j)
theorem Lists.below {A B : Nat} {w w' : World} {a : Option Addr} {I : List (List Int)} (h : Lists A B w a I) (hb : Below B w w') : Lists A B w' a I := by
  rcases h with h | ⟨b, off, ha, hA, hB, hc⟩
  · exact Or.inl h
  · refine Or.inr ⟨b, off, ha, hA, hB, fun j hj => ?_⟩
    obtain ⟨aj, cj, h1, h2, h3⟩ := hc j hj
    exact ⟨aj, cj, (hb.cell (p := ⟨b, off + j, none⟩) hB).trans h1, h2, h3.below hb⟩
theorem Lists.wide {A A' B B' : Nat} {w : World} {a : Option Addr} {I : List (List Int)} (h : Lists A B w a I) (hA : A' ≤ A) (hB : B ≤ B') : Lists A' B' w a I := by
  rcases h with h | ⟨b, off, ha, h1, h2, hc⟩
  · exact Or.inl h
  · refine Or.inr ⟨b, off, ha, by omega, by omega, fun j hj => ?_⟩
    obtain ⟨aj, cj, h1, h2, h3⟩ := hc j hj
    exact ⟨aj, cj, h1, h2, h3.up hB⟩
theorem Lists.step {A : Nat} {w w' : World} {a : Option Addr} {I : List (List Int)} (h : Lists A w.heap.size w a I) (b : Below w.heap.size w w') : Lists A w'.heap.size w' a I := (h.below b).wide (Nat.le_refl _) b.size
theorem Lists.at {A B : Nat} {w : World} {a : Option Addr} {I : List (List Int)} (h : Lists A B w a I) {j : Nat} (hj : j < I.length) : ∃ b off, a = some ⟨b, off, none⟩ ∧ b < B ∧ ∃ (aj : Option Addr) (cj : Nat), w.cell? ⟨b, off + j, none⟩ = some (.slice aj (numsAt I j).length cj) ∧ (numsAt I j).length ≤ cj ∧ Ints B w aj (numsAt I j) := by
  rcases h with h | ⟨b, off, ha, _, hb, hc⟩
  · subst h; simp at hj
  · exact ⟨b, off, ha, hb, hc j hj⟩
/-- Texts, as the rows of layer 1 have them. -/
theorem texts_txs {A B : Nat} {w : World} {a : Option Addr} {K : List (List UInt8)} (h : Txs A B w a K) : Texts B w a (K.map tx) := by
  rcases h with rfl | ⟨b, off, ha, _, hb, hc⟩
  · exact Or.inl rfl
  · refine Or.inr ⟨b, off, ha, hb, fun j hj => ?_⟩
    have hj' : j < K.length := by simpa using hj
    rw [hc j hj']
    unfold textAt rowAt
    rw [List.getD_eq_getElem?_getD, List.getD_eq_getElem?_getD, List.getElem?_map, List.getElem?_eq_getElem hj']
    rfl
theorem textAt_tx {K : List (List UInt8)} {j : Nat} (hj : j < K.length) : textAt (K.map tx) j = tx (rowAt K j) := by
  unfold textAt rowAt
  rw [List.getD_eq_getElem?_getD, List.getD_eq_getElem?_getD, List.getElem?_map, List.getElem?_eq_getElem hj]
  rfl
/-- Keys that are a row are in order. -/
theorem srtK_row {K : List (List UInt8)} (h : rowOf (K.map tx) = 0) : SrtK K := by
  unfold SrtK
  rw [List.pairwise_iff_getElem]
  intro i j hi hj hij
  have h1 := row_less (K.map tx) h i j hij (by simpa using hj)
  rw [textAt_tx hi, textAt_tx hj, ByteArray.toList_eq, ByteArray.toList_eq, tx_list, tx_list] at h1
  have e1 := rowAt_get K i hi
  have e2 := rowAt_get K j hj
  rw [List.getElem?_eq_getElem hi] at e1
  rw [List.getElem?_eq_getElem hj] at e2
  rw [Option.some.inj e1, Option.some.inj e2]
  exact h1

/-- May an index be, but for how many pairs it has? -/
def fineK (K : List (List UInt8)) (I : List (List Int)) : Prop := rowOf (K.map tx) = 0 ∧ K.length = I.length ∧ ∀ j, j < I.length → numsAt I j ≠ [] ∧ risingE (numsAt I j) = 0
theorem fine_ix {K : List (List UInt8)} {I : List (List Int)} (h : fineK K I) : Ix14 K I := by
  have hat : ∀ l ∈ I, ∃ j, j < I.length ∧ numsAt I j = l := fun l hl => by
    obtain ⟨j, hj, rfl⟩ := List.getElem_of_mem hl
    have := numsAt_get I j hj
    rw [List.getElem?_eq_getElem hj] at this
    exact ⟨j, hj, (Option.some.inj this).symm⟩
  refine ⟨h.2.1, srtK_row h.1, fun l hl => ?_, fun l hl => ?_⟩
  · obtain ⟨j, hj, rfl⟩ := hat l hl
    exact (h.2.2 j hj).1
  · obtain ⟨j, hj, rfl⟩ := hat l hl
    exact (rising_iff _).1 (h.2.2 j hj).2
instance (K : List (List UInt8)) (I : List (List Int)) : Decidable (fineK K I) := by unfold fineK; exact inferInstance
def pairsV (K : List (List UInt8)) (I : List (List Int)) : List Pr := if fineK K I then pairsK K I else []
def pairsO (K : List (List UInt8)) (I : List (List Int)) : Bool := decide (fineK K I ∧ sumK I ≤ 2000)
theorem pairs_fine {K : List (List UInt8)} {I : List (List Int)} (h : fineK K I) : pairsV K I = pairsK K I ∧ pairsO K I = decide (sumK I ≤ 2000) := by
  unfold pairsV pairsO
  rw [if_pos h]
  refine ⟨rfl, ?_⟩
  by_cases h2 : sumK I ≤ 2000
  · rw [decide_eq_true h2]; exact decide_eq_true ⟨h, h2⟩
  · rw [decide_eq_false h2]; exact decide_eq_false fun q => h2 q.2
theorem pairs_bad {K : List (List UInt8)} {I : List (List Int)} (h : ¬ fineK K I) : pairsV K I = [] ∧ pairsO K I = false := by
  unfold pairsV pairsO
  rw [if_neg h]
  exact ⟨rfl, decide_eq_false fun q => h q.1⟩
theorem sum_mem {I : List (List Int)} {l : List Int} (h : l ∈ I) : l.length ≤ sumK I := by
  induction I with
  | nil => cases h
  | cons m I ih =>
    unfold sumK at ih ⊢
    rw [List.map_cons, List.sum_cons]
    rcases List.mem_cons.1 h with rfl | h
    · omega
    · have := ih h; omega
theorem sum_take (I : List (List Int)) (i : Nat) : sumK (I.take i) ≤ sumK I := by
  induction i generalizing I with
  | zero => simp [sumK]
  | succ i ih =>
    cases I with
    | nil => simp [sumK]
    | cons m I =>
      have := ih I
      unfold sumK at this ⊢
      rw [List.take_succ_cons, List.map_cons, List.sum_cons, List.map_cons, List.sum_cons]
      omega
set_option maxRecDepth 100000 in
set_option maxHeartbeats 8000000 in
theorem rpairs_any (ka : Option Addr) (kc : Nat) (K : List (List UInt8)) (ia : Option Addr) (ic : Nat) (I : List (List Int)) (A : Nat) (w : World) (hK : Txs A w.heap.size w ka K) (hI : Lists A w.heap.size w ia I) (hk : K.length ≤ 100000) (hl : sumK I ≤ 600000) :
    Calls Try.prog 9 #[.slice ka K.length kc, .slice ia I.length ic] w fun e w' => ∃ a' c', e = .returned (.tuple #[.slice a' (pairsV K I).length c', .bool (pairsO K I)]) ∧ (pairsV K I).length ≤ c' ∧ Prs 0 w'.heap.size w' a' (pairsV K I) ∧ Below w.heap.size w w' := by
  have hrow := rrow_any ka kc (K.map tx) w (by simp; omega) (texts_txs hK)
  rw [List.length_map] at hrow
  have HK := Lib.hid hK
  have HI := Lib.hid hI
  have HL := Lib.hid hl
  clear hK hI hl
  by_cases hr : ¬ rowOf (K.map tx) = 0
  · have d1 : (rowOf (K.map tx) != 0) = true := by rw [bne_iff_ne]; exact hr
    have HV := Lib.hid (pairs_bad (K := K) (I := I) fun h => hr h.1)
    clear hr
    go_enter Try.func9, Try.ntmps9
    go_wp2_with (go_at_call 23; refine hrow.mono ?_; rintro e w1 ⟨rfl, hb⟩; have HB := Lib.hid hb; clear hb)
    go_ret2
    rw [HV.out.1, HV.out.2]
    exact ⟨none, 0, rfl, Nat.le_refl _, Or.inl rfl, HB.out⟩
  have hr := Decidable.not_not.1 hr
  have d1 : (rowOf (K.map tx) != 0) = false := by rw [hr]; rfl
  by_cases hlen : ¬ K.length = I.length
  · have d2 : ((K.length : Int) != (I.length : Int)) = true := by rw [bne_iff_ne]; omega
    have HV := Lib.hid (pairs_bad (K := K) (I := I) fun h => hlen h.2.1)
    clear hr hlen
    go_enter Try.func9, Try.ntmps9
    go_wp2_with (go_at_call 23; refine hrow.mono ?_; rintro e w1 ⟨rfl, hb⟩; have HB := Lib.hid hb; clear hb)
    go_ret2
    rw [HV.out.1, HV.out.2]
    exact ⟨none, 0, rfl, Nat.le_refl _, Or.inl rfl, HB.out⟩
  have hlen := Decidable.not_not.1 hlen
  have d2 : ((K.length : Int) != (I.length : Int)) = false := by rw [hlen]; simp
  have HR := Lib.hid hr
  have HN := Lib.hid hlen
  clear hr hlen
  go_enter Try.func9, Try.ntmps9
  go_upto_region 5 with (go_at_call 23; refine hrow.mono ?_; rintro e w1 ⟨rfl, hb⟩; have HB := Lib.hid hb; clear hb hrow)
  go_loopw [6, 7] (fun s6 s7 wr => ∃ (i : Nat) (a8 : Option Addr) (c8 : Nat) (m : List Pr), s6 = .slice a8 m.length c8 ∧ s7 = .int .i64 i ∧ i ≤ K.length ∧ Hid (OutP w wr a8 c8 m) ∧ Hid (m = pairsK (K.take i) (I.take i)) ∧ Hid (∀ j, j < i → numsAt I j ≠ [] ∧ risingE (numsAt I j) = 0)) (fun _ i _ => K.length + 1 - (intOf i).toNat)
  case atStart => exact ⟨0, none, 0, [], rfl, rfl, by omega, Lib.hid ⟨World.ownsRow_nil _ _ _ _, HB.out⟩, Lib.hid rfl, Lib.hid fun j hj => absurd hj (by omega)⟩
  case round =>
    obtain ⟨i, a8, c8, m, rfl, rfl, hi, HO, HM, HG⟩ := hrel
    by_cases hlt : i < K.length
    · have i1 : (i : Int) < (K.length : Int) := by omega
      have hiI : i < I.length := by have := HN.out; omega
      have i1' : (i : Int) < (I.length : Int) := by omega
      have i3 : (0 : Int) ≤ (i : Int) := by omega
      obtain ⟨ib, ioff, ei, hib, aj, cj, cI0, _, hints0⟩ := HI.out.at hiI
      obtain ⟨kb, koff, ek, _, hkb, hkc⟩ : ∃ kb koff, ka = some ⟨kb, koff, none⟩ ∧ A ≤ kb ∧ kb < w.heap.size ∧ w.cell? ⟨kb, koff + i, none⟩ = some (.string (tx (rowAt K i))) := by
        rcases HK.out with h | ⟨b, off, ha, h1, h2, hc⟩
        · exfalso; rw [h] at hlt; simp at hlt
        · exact ⟨b, off, ha, h1, h2, hc i hlt⟩
      have hLb := Nat.le_trans (sum_mem (numsAt_mem hiI)) HL.out
      have hmb : m.length ≤ 600000 := by
        rw [HM.out, len_pairsK (by rw [List.length_take, List.length_take]; omega)]
        exact Nat.le_trans (sum_take I i) HL.out
      have hbadN : numsAt I i = [] → ¬ fineK K I := fun h0 h => (h.2.2 i hiI).1 h0
      have hbadE : ¬ risingE (numsAt I i) = 0 → ¬ fineK K I := fun hE h => hE (h.2.2 i hiI).2
      have hnext := pairsK_take (K := K) (I := I) (i := i) hlt hiI
      rw [← HM.out] at hnext
      have hgood : numsAt I i ≠ [] → risingE (numsAt I i) = 0 → ∀ j, j < i + 1 → numsAt I j ≠ [] ∧ risingE (numsAt I j) = 0 := fun h0 hE j hj => by
        rcases (by omega : j < i ∨ j = i) with h | h
        · exact HG.out j h
        · rw [h]; exact ⟨h0, hE⟩
      obtain ⟨L, hL⟩ : ∃ L, numsAt I i = L := ⟨_, rfl⟩
      obtain ⟨S, hS⟩ : ∃ S, rowAt K i = S := ⟨_, rfl⟩
      rw [hL] at cI0 hints0 hLb hbadN hbadE hnext hgood
      rw [hS] at hkc hnext
      have HW : Hid (∀ W, Below w.heap.size w W → W.cell? ⟨ib, ioff + i, none⟩ = some (.slice aj L.length cj) ∧ W.cell? ⟨kb, koff + i, none⟩ = some (.string (tx S)) ∧ Ints w.heap.size W aj L) := Lib.hid fun W hW => ⟨(hW.cell (p := ⟨ib, ioff + i, none⟩) hib).trans cI0, (hW.cell (p := ⟨kb, koff + i, none⟩) hkb).trans hkc, hints0.below hW⟩
      have HNX := Lib.hid hnext
      have HGD := Lib.hid hgood
      have HBN := Lib.hid hbadN
      have HBE := Lib.hid hbadE
      obtain ⟨cI, cK, hnt⟩ := HW.out wr HO.out.below
      have hris := rrising_any aj cj L _ wr hnt (by omega)
      subst ei ek
      clear hL hS hnext hgood hbadN hbadE cI0 hints0 hkc hnt hiI HM HG
      by_cases h0 : L = []
      · have e0 : (L.length : Int) = 0 := by rw [h0]; rfl
        have d3 : ((L.length : Int) == 0) = true := by rw [e0]; rfl
        have HV := Lib.hid (pairs_bad (HBN.out h0))
        clear h0 hris e0
        go_wp2
        go_ret2
        rw [HV.out.1, HV.out.2]
        exact ⟨none, 0, rfl, Nat.le_refl _, Or.inl rfl, HO.out.below⟩
      have hpos : 0 < L.length := List.length_pos_iff.2 h0
      have d3 : ((L.length : Int) == 0) = false := by rw [beq_eq_false_iff_ne]; omega
      by_cases hE : ¬ risingE L = 0
      · have d4 : (risingE L != 0) = true := by rw [bne_iff_ne]; exact hE
        have HV := Lib.hid (pairs_bad (HBE.out hE))
        clear h0 hE hpos
        go_wp2_with (go_at_call 24; refine hris.mono ?_; rintro e w2 ⟨rfl, q, rfl⟩)
        go_ret2
        rw [HV.out.1, HV.out.2]
        exact ⟨none, 0, rfl, Nat.le_refl _, Or.inl rfl, drawn_below HO.out.below _⟩
      have hE := Decidable.not_not.1 hE
      have d4 : (risingE L != 0) = false := by rw [hE]; rfl
      have HG2 := Lib.hid (HGD.out h0 hE)
      clear h0 hE hpos HGD HBN HBE
      go_upto_region 10 with (go_at_call 24; refine hris.mono ?_; rintro e w2 ⟨rfl, q, rfl⟩)
      clear hris cI cK d3 d4
      go_loopw [6, 8] (fun s6 s8 wr2 => ∃ (k : Nat) (a9 : Option Addr) (c9 : Nat) (m2 : List Pr), s6 = .slice a9 m2.length c9 ∧ s8 = .int .i64 k ∧ k ≤ L.length ∧ Hid (OutP w wr2 a9 c9 m2) ∧ Hid (m2 = m ++ (L.take k).map fun n => (S, n))) (fun _ i _ => L.length + 1 - (intOf i).toNat)
      case atStart => exact ⟨0, a8, c8, m, rfl, rfl, by omega, Lib.hid ⟨HO.out.own, drawn_below HO.out.below _⟩, Lib.hid (by simp)⟩
      case round =>
        obtain ⟨k, a9, c9, m2, rfl, rfl, hk2, HO2, HM2⟩ := hrel
        obtain ⟨cI, cK, hnt⟩ := HW.out _ HO2.out.below
        by_cases hlt2 : k < L.length
        · have j1 : (k : Int) < (L.length : Int) := by omega
          have j3 : (0 : Int) ≤ (k : Int) := by omega
          rcases hnt with h | ⟨nb, noff, en, hnb, hnc⟩
          · exfalso; rw [h] at hlt2; simp at hlt2
          subst en
          have cN := hnc k hlt2
          have hm2 : m2.length ≤ 900000 := by
            have h1 := HNX.out
            have h2 : (pairsK (K.take (i + 1)) (I.take (i + 1))).length ≤ 600000 := by
              rw [len_pairsK (by rw [List.length_take, List.length_take]; have := HN.out; omega)]
              exact Nat.le_trans (sum_take I (i + 1)) HL.out
            rw [h1, List.length_append, List.length_map] at h2
            rw [HM2.out, List.length_append, List.length_map, List.length_take]; omega
          have HM3 : Hid (m2 ++ [(S, numAt L k)] = m ++ (L.take (k + 1)).map fun n => (S, n)) := Lib.hid (by rw [HM2.out, take_more L k hlt2, List.map_append, List.append_assoc]; rfl)
          obtain ⟨n, hn⟩ : ∃ n, numAt L k = n := ⟨_, rfl⟩
          rw [hn] at cN HM3
          clear hnc hn
          go_upto_region 12 with fail
          have HS3 : Hid (∀ W, Below w.heap.size w W → W.cell? ⟨ib, ioff + i, none⟩ = some (.slice (some ⟨nb, noff, none⟩) L.length cj) ∧ W.cell? ⟨kb, koff + i, none⟩ = some (.string (tx S)) ∧ W.cell? ⟨nb, noff + k, none⟩ = some (.int .i64 n)) := Lib.hid fun W hW => by
            have h1 := HW.out W hW
            have h2 : w.cell? ⟨nb, noff + k, none⟩ = some (.int .i64 n) := by
              have := HO2.out.below.cell (p := ⟨nb, noff + k, none⟩) hnb
              rw [← this]
              exact cN
            exact ⟨h1.1, h1.2.1, (hW.cell (p := ⟨nb, noff + k, none⟩) hnb).trans h2⟩
          have HO3 := Lib.hid HO2.out.drew
          have SS := HS3.out _ HO3.out.below
          go_region_held3 (fun v => v.cell? ⟨ib, ioff + i, none⟩ = some (.slice (some ⟨nb, noff, none⟩) L.length cj) ∧ v.cell? ⟨kb, koff + i, none⟩ = some (.string (tx S)) ∧ v.cell? ⟨nb, noff + k, none⟩ = some (.int .i64 n)) (first | assumption | exact HS3.out _ hO7.below | exact HS3.out _ (Below.drew (Below.alloc HO2.out.below HO2.out.below.size _)) | go_keep) (first
            | (refine step_append_pr (V := World.drew _) rfl _ _ rfl a9 c9 m2 rfl HO3.out (S, n) _ rfl rfl hm2 ?_; intro a7 c7 V7 ts hts' hO7)
            | fail)
          have hts := hts'.out
          clear hts'
          have HO7 := Lib.hid hO7
          rw [← hts] at HM3
          clear hO7 hts cI cK cN SS
          go_wp2
          go_roundw
          case rel => exact ⟨k + 1, a7, c7, ts, rfl, by first | rfl | go_num, by omega, HO7, HM3⟩
          case measure => first | (simp [intOf]; omega) | simp [intOf]
        · obtain rfl : k = L.length := by omega
          have HM3 : Hid (m2 = pairsK (K.take (i + 1)) (I.take (i + 1))) := Lib.hid (by rw [HM2.out, List.take_length, HNX.out])
          clear hnt
          go_wp2
          go_roundw
          case rel => exact ⟨i + 1, a9, c9, m2, rfl, by first | rfl | go_num, by omega, HO2, HM3, HG2⟩
          case measure => first | (simp [intOf]; omega) | simp [intOf]
    · obtain rfl : i = K.length := by omega
      have hf : fineK K I := ⟨HR.out, HN.out, fun j hj => HG.out j (by have := HN.out; omega)⟩
      have hmK : m = pairsK K I := by
        rw [HM.out, List.take_length, List.take_of_length_le (by have := HN.out; omega)]
      have hlenm : m.length = sumK I := by rw [hmK, len_pairsK HN.out]
      have HV : Hid (pairsV K I = m ∧ pairsO K I = decide (m.length ≤ 2000)) := Lib.hid (by
        obtain ⟨h1, h2⟩ := pairs_fine hf
        rw [h1, h2, hmK, len_pairsK HN.out]
        exact ⟨rfl, rfl⟩)
      have d5 : decide ((m.length : Int) ≤ 2000) = decide (m.length ≤ 2000) := by
        by_cases h : m.length ≤ 2000
        · rw [decide_eq_true h]; exact decide_eq_true (by omega)
        · rw [decide_eq_false h]; exact decide_eq_false (by omega)
      have hp := HO.out.prs
      clear hf hmK hlenm
      go_wp2
      go_ret2
      rw [HV.out.1, HV.out.2]
      exact ⟨a8, c8, by first | rfl | (rw [d5]; rfl), hp.1, hp.2.wide (Nat.zero_le _) (Nat.le_refl _), HO.out.below⟩
end Go.Proofs.Ytnbmccfaomhppaa
