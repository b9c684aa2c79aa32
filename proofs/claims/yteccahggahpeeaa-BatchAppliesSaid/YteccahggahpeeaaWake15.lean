/- The law's probes of batch come out true, from what is wanted of the program's batch. -/
import Derived.Test.YteccahggahpeeaaMUndo15
namespace Go.Proofs.Yteccahggahpeeaa
open Go.RowKit

def one15 : St15 := [[(5, [120])], []]
def two15 : St15 := [[], [(7, [121])]]
def ops15a : List Op15 := [⟨1, 1, 7, [121]⟩, ⟨0, 3, 5, []⟩]
def ops15b : List Op15 := [⟨0, 2, 5, []⟩, ⟨0, 1, 5, []⟩]
def ops15c : List Op15 := [⟨0, 3, 5, []⟩]
theorem lits_e {α : Type} (E : Elt α) (V : World) (l : List α) {arr : Array Value} {t : TypeId} (ha : arr.toList = E.cells l) : Els E 0 (V.alloc (.cells arr t)).heap.size (V.alloc (.cells arr t)) (some ⟨V.heap.size, 0, none⟩) l := by
  refine Or.inr ⟨V.heap.size, 0, rfl, Nat.zero_le _, by simp, fun j u hj => lit_cell V _ _ j u ?_⟩
  rw [← ha] at hj
  rw [← hj, Array.getElem?_toList]
theorem one_small : Small15 one15 := ⟨by decide, by decide⟩
theorem one_ok : checkS one15 = 0 := by decide
theorem w15_1 : bE one15 ops15a = 0 ∧ bN one15 ops15a = 2 ∧ bV one15 ops15a = two15 := by decide
theorem w15_2 : bE one15 ops15b = 32 ∧ bN one15 ops15b = 1 ∧ bV one15 ops15b = [] := by decide
theorem w15_3 : bE one15 ops15c = 0 ∧ bU one15 ops15c = [⟨0, 1, 5, [120]⟩] := ⟨by decide, by rfl⟩
theorem w15_4 : putS one15 = [2, 1, 0, 0, 0, 5, 0, 1, 120, 0] := by decide
theorem w15_5 : takeSE [2, 1, 0, 0, 0, 5, 0, 1, 120, 0] = 0 ∧ takeSV [2, 1, 0, 0, 0, 5, 0, 1, 120, 0] = one15 := by
  have h := take_put (checkS_ok.1 one_ok)
  have e : storeL one15 = [2, 1, 0, 0, 0, 5, 0, 1, 120, 0] := by decide
  rw [e] at h; exact h
theorem w15_6 : diffE one15 two15 = 0 ∧ (diffV one15 two15).length = 2 := by decide
theorem w15_7 : getV15 two15 1 7 = [121] ∧ getB15 two15 1 7 = true := by decide
set_option maxHeartbeats 2000000 in
theorem lone15 (w : World) : Calls Try.prog 29 #[] w fun e w' => ∃ a', e = .returned (stVal a' 2 one15) ∧ StV w' a' 2 one15 ∧ Below w.heap.size w w' := by
  go_enter Try.func29, Try.ntmps29
  go_wp2
  obtain ⟨V1, hV1⟩ : ∃ V1, w.alloc (.cells #[.slice (some ⟨w.heap.size + 1 + 1, 0, none⟩) 2 2] 24) = V1 := ⟨_, rfl⟩
  have hn1 : V1.heap.size = w.heap.size + 1 := by rw [← hV1]; simp
  have b1 : Below w.heap.size w V1 := by rw [← hV1]; exact (Below.refl _ w).alloc (Nat.le_refl _) _
  have o1 : V1.heap[w.heap.size]? = some (.cells #[.slice (some ⟨w.heap.size + 1 + 1, 0, none⟩) 2 2] 24 (0, 0)) := by rw [← hV1]; exact heap_alloc_new _ _
  rw [hV1]
  obtain ⟨V2, hV2⟩ : ∃ V2, V1.alloc (.cells #[.int .i64 5, .string ⟨#[120]⟩] 67) = V2 := ⟨_, rfl⟩
  have hn2 : V2.heap.size = w.heap.size + 1 + 1 := by rw [← hV2, ← hn1]; simp
  have b2 : Below V1.heap.size V1 V2 := by rw [← hV2]; exact (Below.refl _ V1).alloc (Nat.le_refl _) _
  have e2 : Els recE 0 V2.heap.size V2 (some ⟨w.heap.size + 1, 0, none⟩) [(5, [120])] := by rw [← hV2, ← hn1]; exact lits_e recE V1 [(5, [120])] rfl
  rw [hV2]
  obtain ⟨V3, hV3⟩ : ∃ V3, V2.alloc (.cells #[.slice (some ⟨w.heap.size + 1, 0, none⟩) 1 1, .slice none 0 0] 65) = V3 := ⟨_, rfl⟩
  have b3 : Below V2.heap.size V2 V3 := by rw [← hV3]; exact (Below.refl _ V2).alloc (Nat.le_refl _) _
  have o3 : V3.heap[w.heap.size + 1 + 1]? = some (.cells #[.slice (some ⟨w.heap.size + 1, 0, none⟩) 1 1, .slice none 0 0] 65 (0, 0)) := by rw [← hV3, ← hn2]; exact heap_alloc_new _ _
  rw [hV3]
  have o4 := old_obj (b2.trans (b3.mono b2.size)) o1
  refine bodyPost_ret (results_cell_row rfl _ _ w.heap.size 24 _ _ _ rfl o4 Try.underlying24 rfl (by kernel_rfl)) rfl ?_
  refine ⟨some ⟨w.heap.size + 1 + 1, 0, none⟩, rfl, ⟨?_, by decide, one_small⟩, b1.trans ((b2.trans (b3.mono b2.size)).mono b1.size)⟩
  have e3 := Els.step e2 b3
  refine Or.inr ⟨w.heap.size + 1 + 1, 0, rfl, Nat.zero_le _, obj_lt o3, fun j hj => ?_⟩
  have hj2 : j < 2 := hj
  rcases (by omega : j = 0 ∨ j = 1) with rfl | rfl
  · exact ⟨some ⟨w.heap.size + 1, 0, none⟩, 1, cell_of o3 rfl, by decide, e3⟩
  · exact ⟨none, 0, cell_of o3 rfl, by decide, Or.inl rfl⟩
theorem opp_fields : Try.prog.underlying 69 = some (.struct (Try.prog.fieldsOf 69)) := by kernel_rfl
theorem opp_plain : Try.prog.stoodInHeld 69 = false := by kernel_rfl
theorem opp_guard : Try.prog.eqGuardType Try.prog.depth 69 = false := by kernel_rfl
theorem opp_equal (w : World) : (Op.equalIn 10000 69 (.agg #[.int .i64 0, .int .i64 1, .int .i64 5, .string ⟨#[120]⟩]) (.agg #[.int .i64 0, .int .i64 1, .int .i64 5, .string ⟨#[120]⟩])).run Try.prog w = .ok true w := by
  have u3 := Try.underlying3
  have u9 := Try.underlying9
  have a3 := Try.isAgg3
  have z3 := Try.sizeOf3
  have a9 := Try.isAgg9
  have z9 := Try.sizeOf9
  rw [show (10000 : Nat) = 9999 + 1 from rfl, run_equalIn_agg w 9999 _ _ _ opp_fields opp_plain]
  simp only [Program.fieldsOf, Try.underlying69]
  go_simp
set_option maxRecDepth 100000 in
set_option maxHeartbeats 16000000 in
theorem awake15 (H : Batch15) : Wakes15 := by
  intro w
  have lit : ∀ (W : World) (cs : Array Value) (t : TypeId), Below W.heap.size W (W.alloc (.cells cs t)) := fun W cs t => (Below.refl _ W).alloc (Nat.le_refl _) _
  have G0 : Hid (∀ W : World, Calls Try.prog 29 #[] W fun e w' => ∃ a', e = .returned (stVal a' 2 one15) ∧ StV w' a' 2 one15 ∧ Below W.heap.size W w') := Lib.hid lone15
  have G1 : Hid (∀ (W : World) (a : Option Addr), StV W a 2 one15 → Calls Try.prog 12 #[stVal a 2 one15, .slice (some ⟨W.heap.size, 0, none⟩) 2 2] (W.alloc (.cells #[.int .i64 1, .int .i64 1, .int .i64 7, .string ⟨#[121]⟩, .int .i64 0, .int .i64 3, .int .i64 5, .string ⟨#[]⟩] 69)) fun e w' => ∃ a' c', e = .returned (.tuple #[stVal a' c' two15, .int .i64 2, .int .i64 0]) ∧ StV w' a' c' two15 ∧ Below W.heap.size W w') := Lib.hid fun W a h => by
    have := H.apply a 2 one15 (some ⟨W.heap.size, 0, none⟩) 2 ops15a _ (h.step (lit W _ _)) ⟨lits_e opE W ops15a (arr := #[.int .i64 1, .int .i64 1, .int .i64 7, .string ⟨#[121]⟩, .int .i64 0, .int .i64 3, .int .i64 5, .string ⟨#[]⟩]) (t := 69) rfl, by decide, by decide⟩
    rw [w15_1.1, w15_1.2.1, w15_1.2.2] at this
    refine this.mono ?_
    rintro e w' ⟨a', c', rfl, h1, _, hb⟩
    exact ⟨a', c', rfl, h1, (lit W _ _).trans (hb.mono (lit W _ _).size)⟩
  have G2 : Hid (∀ (W : World) (a : Option Addr), StV W a 2 one15 → Calls Try.prog 12 #[stVal a 2 one15, .slice (some ⟨W.heap.size, 0, none⟩) 2 2] (W.alloc (.cells #[.int .i64 0, .int .i64 2, .int .i64 5, .string ⟨#[]⟩, .int .i64 0, .int .i64 1, .int .i64 5, .string ⟨#[]⟩] 69)) fun e w' => ∃ a' c', e = .returned (.tuple #[.agg #[.slice a' 0 c'], .int .i64 1, .int .i64 32]) ∧ Below W.heap.size W w') := Lib.hid fun W a h => by
    have := H.apply a 2 one15 (some ⟨W.heap.size, 0, none⟩) 2 ops15b _ (h.step (lit W _ _)) ⟨lits_e opE W ops15b (arr := #[.int .i64 0, .int .i64 2, .int .i64 5, .string ⟨#[]⟩, .int .i64 0, .int .i64 1, .int .i64 5, .string ⟨#[]⟩]) (t := 69) rfl, by decide, by decide⟩
    rw [w15_2.1, w15_2.2.1, w15_2.2.2] at this
    refine this.mono ?_
    rintro e w' ⟨a', c', rfl, h1, _, hb⟩
    exact ⟨a', c', rfl, (lit W _ _).trans (hb.mono (lit W _ _).size)⟩
  have G3 : Hid (∀ (W : World) (a : Option Addr), StV W a 2 one15 → Calls Try.prog 15 #[stVal a 2 one15, .slice (some ⟨W.heap.size, 0, none⟩) 1 1] (W.alloc (.cells #[.int .i64 0, .int .i64 3, .int .i64 5, .string ⟨#[]⟩] 69)) fun e w' => ∃ b o c', e = .returned (.tuple #[.slice (some ⟨b, o, none⟩) 1 c', .int .i64 0]) ∧ Hid (∀ V, Below w'.heap.size w' V → V.cell? ⟨b, o, none⟩ = some (.int .i64 0) ∧ V.cell? ⟨b, o + 1, none⟩ = some (.int .i64 1) ∧ V.cell? ⟨b, o + 2, none⟩ = some (.int .i64 5) ∧ V.cell? ⟨b, o + 3, none⟩ = some (.string ⟨#[120]⟩)) ∧ Below W.heap.size W w') := Lib.hid fun W a h => by
    have := H.undo a 2 one15 (some ⟨W.heap.size, 0, none⟩) 1 ops15c _ (h.step (lit W _ _)) ⟨lits_e opE W ops15c (arr := #[.int .i64 0, .int .i64 3, .int .i64 5, .string ⟨#[]⟩]) (t := 69) rfl, by decide, by decide⟩
    rw [w15_3.1, w15_3.2] at this
    refine this.mono ?_
    rintro e w' ⟨a', c', rfl, h1, hb⟩
    obtain ⟨b, o, rfl, hlt, _⟩ := ops_at h1.1 (i := 0) (by decide)
    refine ⟨b, o, c', rfl, Lib.hid fun V hV => ?_, (lit W _ _).trans (hb.mono (lit W _ _).size)⟩
    obtain ⟨b2, o2, e2, _, c0, c1, c2, c3⟩ := ops_at (h1.step hV).1 (i := 0) (by decide)
    cases e2
    rw [Nat.zero_mul, Nat.add_zero] at c0 c1 c2 c3
    exact ⟨c0, c1, c2, c3⟩
  have G4 : Hid (∀ (W : World) (a : Option Addr), StV W a 2 one15 → Calls Try.prog 23 #[stVal a 2 one15] W fun e w' => e = .returned (.tuple #[.string ⟨#[2, 1, 0, 0, 0, 5, 0, 1, 120, 0]⟩, .int .i64 0]) ∧ Below W.heap.size W w') := Lib.hid fun W a h => by
    have := H.put a 2 one15 W h
    rw [one_ok, w15_4] at this
    exact this
  have G5 : Hid (∀ W : World, Calls Try.prog 25 #[.string ⟨#[2, 1, 0, 0, 0, 5, 0, 1, 120, 0]⟩] W fun e w' => ∃ a' c', e = .returned (.tuple #[stVal a' c' one15, .int .i64 0]) ∧ StV w' a' c' one15 ∧ Below W.heap.size W w') := Lib.hid fun W => by
    have := H.take ⟨#[2, 1, 0, 0, 0, 5, 0, 1, 120, 0]⟩ W (by decide)
    rw [show (⟨#[2, 1, 0, 0, 0, 5, 0, 1, 120, 0]⟩ : ByteArray).data.toList = [2, 1, 0, 0, 0, 5, 0, 1, 120, 0] from rfl, w15_5.1, w15_5.2] at this
    exact this
  have G6 : Hid (∀ (W : World) (a b : Option Addr) (g d : Nat), StV W a 2 one15 → Loc15 W g b d two15 → Calls Try.prog 27 #[stVal a 2 one15, stVal b d two15] W fun e w' => ∃ a' c', e = .returned (.tuple #[.slice a' 2 c', .int .i64 0]) ∧ Below W.heap.size W w') := Lib.hid fun W a b g d h1 h2 => by
    have := H.diff a 2 one15 b d two15 W h1 h2.st
    rw [w15_6.1, w15_6.2] at this
    refine this.mono ?_
    rintro e w' ⟨a', c', rfl, _, hb⟩
    exact ⟨a', c', rfl, hb⟩
  have G7 : Hid (∀ (W : World) (b : Option Addr) (g d : Nat), Loc15 W g b d two15 → Calls Try.prog 17 #[stVal b d two15, .int .i64 1, .int .i64 7] W fun e w' => e = .returned (.tuple #[.string ⟨#[121]⟩, .bool true]) ∧ Below W.heap.size W w') := Lib.hid fun W b g d h => by
    have := H.get b d two15 1 7 W h.st
    rw [w15_7.1, w15_7.2] at this
    exact this
  have G8 : Hid (∀ (W : World) (a : Option Addr), StV W a 2 one15 → Calls Try.prog 19 #[stVal a 2 one15] W fun e w' => e = .returned (.int .i64 0) ∧ Below W.heap.size W w') := Lib.hid fun W a h => by
    have := H.check a 2 one15 W h
    rw [one_ok] at this
    exact this
  have G9 : Hid (∀ (W : World) (a : Option Addr), StV W a 2 one15 → Calls Try.prog 11 #[stVal a 2 one15] W fun e w' => ∃ a' c', e = .returned (dVal a' c' one15) ∧ DocV w' a' c' one15 ∧ Below W.heap.size W w') := Lib.hid fun W a h => lof15 a 2 one15 W h
  have GA : Hid (∀ (W : World) (g : Nat) (a : Option Addr) (c : Nat) (b : Option Addr) (d : Nat), Loc15 W g a c one15 → DocV W b d one15 → Calls Try.prog 21 #[stVal a c one15, dVal b d one15] W fun e w' => e = .returned (.bool true) ∧ Below W.heap.size W w') := Lib.hid fun W g a c b d h1 h2 => lsame15 a c b d one15 W h1.st h2
  have gd := opp_guard
  have heq := opp_equal
  clear lit H
  generalize one15 = S1 at *
  generalize two15 = S2 at *
  have B0 := Lib.hid (Below.refl w.heap.size w)
  go_enter Try.func10, Try.ntmps10
  go_upto_region 2 with (first
    | (go_at_call 29; refine (G0.out _).mono ?_; rintro e w1 ⟨a1, rfl, h1, hb⟩; have O1 := Lib.hid h1; have B1 := Lib.hid hb; clear hb h1)
    | (go_at_call 12; refine (G1.out _ _ O1.out).mono ?_; rintro e w2 ⟨sa, sc, rfl, h1, hb⟩; have X2 := Lib.hid (Loc15.late h1); have B2 := Lib.hid (B1.out.trans ((below_new hb (.cells #[.slice sa S2.length sc] 24)).mono B1.out.size)); clear hb h1))
  generalize w2.alloc (.cells #[.slice sa S2.length sc] 24) = V2 at *
  generalize w2.heap.size = g2 at *
  clear B0 B1 O1 G1
  go_upto_region 3 with (first
    | (go_at_call 29; refine (G0.out _).mono ?_; rintro e w3 ⟨a3, rfl, h1, hb⟩; have O3 := Lib.hid h1; have HB3 := Lib.hid hb; clear hb h1)
    | (go_at_call 12; refine (G2.out _ _ O3.out).mono ?_; rintro e w4 ⟨ua, uc, rfl, hb⟩; have HB4 := Lib.hid (HB3.out.trans ((below_new hb (.cells #[.slice ua 0 uc] 24)).mono HB3.out.size)); clear hb))
  generalize w4.alloc (.cells #[.slice ua 0 uc] 24) = V4 at *
  generalize w4.heap.size = g4 at *
  have B4 := Lib.hid (B2.out.trans (HB4.out.mono B2.out.size))
  have X4 := Lib.hid (X2.out.step HB4.out)
  clear HB3 HB4 B2 X2 O3 G2
  go_upto_region 5 with (first
    | (go_at_call 29; refine (G0.out V4).mono ?_; rintro e w5 ⟨a5, rfl, h1, hb⟩; have O5 := Lib.hid h1; have HB5 := Lib.hid hb; clear hb h1)
    | (go_at_call 15; refine (G3.out _ _ O5.out).mono ?_; rintro e w6 ⟨ub, uo, uc6, rfl, hu, hb⟩; have HB6 := Lib.hid (HB5.out.trans (hb.mono HB5.out.size)); have U6 := hu; clear hb hu)
    | (go_at_call 29; refine (G0.out w6).mono ?_; rintro e w7 ⟨a7, rfl, h1, hb⟩; have O7 := Lib.hid h1; have HB7 := Lib.hid hb; clear hb h1)
    | (go_at_call 23; refine (G4.out _ _ O7.out).mono ?_; rintro e w8 ⟨rfl, hb⟩; have HB8 := Lib.hid (HB7.out.trans (hb.mono HB7.out.size)); clear hb))
  have HB9 := Lib.hid (HB6.out.trans (HB8.out.mono HB6.out.size))
  have B8 := Lib.hid (B4.out.trans (HB9.out.mono B4.out.size))
  have X8 := Lib.hid (X4.out.step HB9.out)
  have U8 : Hid (∀ V, Below w8.heap.size w8 V → V.cell? ⟨ub, uo, none⟩ = some (.int .i64 0) ∧ V.cell? ⟨ub, uo + 1, none⟩ = some (.int .i64 1) ∧ V.cell? ⟨ub, uo + 2, none⟩ = some (.int .i64 5) ∧ V.cell? ⟨ub, uo + 3, none⟩ = some (.string ⟨#[120]⟩)) := Lib.hid fun V hV => U6.out V (HB8.out.trans (hV.mono HB8.out.size))
  clear HB5 HB6 HB7 HB8 HB9 B4 X4 U6 O5 O7 G3 G4
  go_upto_region 6 with (go_at_call 25; refine (G5.out _).mono ?_; rintro e w9 ⟨ta, tc, rfl, h1, hb⟩; have T9 := Lib.hid (Loc15.late h1); have HB9 := Lib.hid (below_new hb (.cells #[.slice ta S1.length tc] 24)); clear hb h1)
  generalize w9.alloc (.cells #[.slice ta S1.length tc] 24) = V9 at *
  generalize w9.heap.size = g9 at *
  have B9 := Lib.hid (B8.out.trans (HB9.out.mono B8.out.size))
  have X9 := Lib.hid (X8.out.step HB9.out)
  have U9 : Hid (∀ V, Below V9.heap.size V9 V → V.cell? ⟨ub, uo, none⟩ = some (.int .i64 0) ∧ V.cell? ⟨ub, uo + 1, none⟩ = some (.int .i64 1) ∧ V.cell? ⟨ub, uo + 2, none⟩ = some (.int .i64 5) ∧ V.cell? ⟨ub, uo + 3, none⟩ = some (.string ⟨#[120]⟩)) := Lib.hid fun V hV => U8.out V (HB9.out.trans (hV.mono HB9.out.size))
  clear HB9 B8 X8 U8 G5
  have hd := (Below.refl V9.heap.size V9).drew
  have x0 := X9.out.fact
  go_region_held3 (fun v => v.cell? ⟨g2, 0, none⟩ = some (.slice sa S2.length sc)) (first | go_keep) (first
    | (go_at_call 29; refine (G0.out V9.drew).mono ?_; rintro e wa ⟨aa, rfl, h1, hb⟩; have OA := Lib.hid h1; have hbA := hd.trans hb; have BA := Lib.hid hbA; have XA := Lib.hid (X9.out.step hbA); have x1 := XA.out.fact; clear hb h1 hbA)
    | (go_at_call 27; refine (G6.out _ _ _ _ _ OA.out XA.out).mono ?_; rintro e wb ⟨da, dc, rfl, hb⟩; have BB := Lib.hid (BA.out.trans (hb.mono BA.out.size)); have XB := Lib.hid (XA.out.step hb); have x2 := XB.out.fact; clear hb))
  all_goals
    have TB := Lib.hid (T9.out.step BB.out)
    have B10 := Lib.hid (B9.out.trans (BB.out.mono B9.out.size))
    clear x0 x1 hd OA BA XA
    go_upto_region 8 with (go_at_call 17; refine (G7.out _ _ _ _ XB.out).mono ?_; rintro e wc ⟨rfl, hb⟩; have hbC := BB.out.trans (hb.mono BB.out.size); have BC := Lib.hid (B10.out.trans (hb.mono B10.out.size)); have TC := Lib.hid (TB.out.step hb); have UC := Lib.hid (fun V (hV : Below wc.heap.size wc V) => U9.out V (hbC.trans (hV.mono hbC.size))); clear hb hbC)
    have t0 := TC.out.fact
    dsimp only [List.append]
    obtain ⟨u0, u1, u2, u3⟩ := UC.out _ (Below.refl _ wc)
    have hd2 := (Below.refl wc.heap.size wc).drew
    go_region_held3 (fun v => v.cell? ⟨g9, 0, none⟩ = some (.slice ta S1.length tc) ∧ v.cell? ⟨ub, uo, none⟩ = some (.int .i64 0) ∧ v.cell? ⟨ub, uo + 1, none⟩ = some (.int .i64 1) ∧ v.cell? ⟨ub, uo + 2, none⟩ = some (.int .i64 5) ∧ v.cell? ⟨ub, uo + 3, none⟩ = some (.string ⟨#[120]⟩)) (first | go_keep) (first
      | (go_at_call 29; refine (G0.out wc.drew).mono ?_; rintro e wd ⟨ad, rfl, h1, hb⟩; have hbD := hd2.trans hb; have HBD := Lib.hid hbD; have OD := Lib.hid h1; have BD := Lib.hid (BC.out.trans (hbD.mono BC.out.size)); have TD := Lib.hid (TC.out.step hbD); have t1 := TD.out.fact; obtain ⟨u4, u5, u6, u7⟩ := UC.out _ hbD; clear hb h1 hbD)
      | (go_at_call 11; refine (G9.out _ _ OD.out).mono ?_; rintro e we ⟨ea, ec, rfl, h1, hb⟩; have hbE := HBD.out.trans (hb.mono HBD.out.size); have HBE := Lib.hid hbE; have DE := Lib.hid h1; have BE := Lib.hid (BD.out.trans (hb.mono BD.out.size)); have TE := Lib.hid (TD.out.step hb); have t2 := TE.out.fact; obtain ⟨u8, u9, ua, uz⟩ := UC.out _ hbE; clear hb h1 hbE)
      | (go_at_call 21; refine (GA.out _ _ _ _ _ _ TE.out DE.out).mono ?_; rintro e wf ⟨rfl, hb⟩; have hbF := HBE.out.trans (hb.mono HBE.out.size); have HBF := Lib.hid hbF; have BF := Lib.hid (BE.out.trans (hb.mono BE.out.size)); have TF := Lib.hid (TE.out.step hb); have t3 := TF.out.fact; obtain ⟨v0, v1, v2, v3⟩ := UC.out _ hbF; clear hb hbF)
      | (go_at_call 29; refine (G0.out wf).mono ?_; rintro e wg ⟨ag, rfl, h1, hb⟩; have hbG := HBF.out.trans (hb.mono HBF.out.size); have HBG := Lib.hid hbG; have OG := Lib.hid h1; have BG := Lib.hid (BF.out.trans (hb.mono BF.out.size)); have TG := Lib.hid (TF.out.step hb); have t4 := TG.out.fact; obtain ⟨v4, v5, v6, v7⟩ := UC.out _ hbG; clear hb h1 hbG)
      | (go_at_call 19; refine (G8.out _ _ OG.out).mono ?_; rintro e wh ⟨rfl, hb⟩; have hbH := HBG.out.trans (hb.mono HBG.out.size); have BH := Lib.hid (BG.out.trans (hb.mono BG.out.size)); have t5 := (TG.out.step hb).fact; obtain ⟨v8, v9, va, vb⟩ := UC.out _ hbH; clear hb hbH))
    all_goals
      go_wp2
      go_ret
      exact ⟨by simp, BH.out⟩
end Go.Proofs.Yteccahggahpeeaa
