/- The law's own rules: in every world. -/
import Derived.Test.YtifihejogbcbgaaMRefB19
import Derived.Test.YtifihejogbcbgaaMSameInts
import Derived.Test.YtifihejogbcbgaaRefD19
import Derived.Test.YtifihejogbcbgaaRefE19
namespace Go.Proofs.Ytifihejogbcbgaa
open Go.RowKit

theorem ints_obj19 {W : World} {g : Nat} {xs : List Int} {t : TypeId} {fr : Nat × Nat} (h : W.heap[g]? = some (.cells (xs.map (Value.int .i64)).toArray t fr)) : Ints W.heap.size W (some ⟨g, 0, none⟩) xs := by
  refine Or.inr ⟨g, 0, rfl, obj_lt h, fun j hj => ?_⟩
  rw [Nat.zero_add]
  refine cell_of (j := j) h ?_
  rw [List.getElem?_toArray, List.getElem?_map]
  unfold numAt
  rw [List.getElem?_eq_getElem hj]
  simp [hj]
theorem rows_obj19 {W : World} {g : Nat} {l : List Row18} {t : TypeId} {fr : Nat × Nat} (h : W.heap[g]? = some (.cells (rowElt.cells l).toArray t fr)) : RowsIn W.heap.size W (some ⟨g, 0, none⟩) l := by
  refine Or.inr ⟨g, 0, rfl, Nat.zero_le _, obj_lt h, fun j u hj => ?_⟩
  rw [Nat.zero_add]
  refine cell_of (j := j) h ?_
  rw [List.getElem?_toArray]
  exact hj
theorem five_new19 (w : World) (o0 o1 o2 o3 o4 : Obj) : ∀ W, W = ((((w.alloc o0).alloc o1).alloc o2).alloc o3).alloc o4 → W.heap[w.heap.size]? = some o0 ∧ W.heap[w.heap.size + 1]? = some o1 ∧ W.heap[w.heap.size + 1 + 1]? = some o2 ∧ W.heap[w.heap.size + 1 + 1 + 1]? = some o3 ∧ W.heap[w.heap.size + 1 + 1 + 1 + 1]? = some o4 ∧ Below w.heap.size w W := by
  rintro W rfl
  have s0 : (w.alloc o0).heap.size = w.heap.size + 1 := by simp
  have s1 : ((w.alloc o0).alloc o1).heap.size = w.heap.size + 1 + 1 := by simp
  have s2 : (((w.alloc o0).alloc o1).alloc o2).heap.size = w.heap.size + 1 + 1 + 1 := by simp
  have s3 : ((((w.alloc o0).alloc o1).alloc o2).alloc o3).heap.size = w.heap.size + 1 + 1 + 1 + 1 := by simp
  have b4 := lit16 ((((w.alloc o0).alloc o1).alloc o2).alloc o3) o4
  have b3 := (lit16 (((w.alloc o0).alloc o1).alloc o2) o3)
  have b2 := (lit16 ((w.alloc o0).alloc o1) o2)
  have b1 := (lit16 (w.alloc o0) o1)
  have b0 := (lit16 w o0)
  have n4 := heap_alloc_new ((((w.alloc o0).alloc o1).alloc o2).alloc o3) o4
  have n3 := heap_alloc_new (((w.alloc o0).alloc o1).alloc o2) o3
  have n2 := heap_alloc_new ((w.alloc o0).alloc o1) o2
  have n1 := heap_alloc_new (w.alloc o0) o1
  have n0 := heap_alloc_new w o0
  have b34 := b3.trans (b4.mono b3.size)
  have b24 := b2.trans (b34.mono b2.size)
  have b14 := b1.trans (b24.mono b1.size)
  rw [s0] at n1
  rw [s1] at n2
  rw [s2] at n3
  rw [s3] at n4
  exact ⟨old_obj b14 n0, old_obj b24 n1, old_obj b34 n2, old_obj b4 n3, n4, b0.trans (b14.mono b0.size)⟩
abbrev fiveRows : List Row18 := [⟨1, 3, 0, 1000000000000, 1⟩, ⟨2, 3, 0, 1000000000000, 2⟩, ⟨4, 2, 0, 1000000000000, 3⟩, ⟨8, 3, 0, 1000000000000, 5⟩, ⟨15, 3, 0, 1000000000000, 4⟩]
set_option maxRecDepth 100000 in
set_option maxHeartbeats 8000000 in
theorem rules19_any (w : World) : Calls Try.prog 22 #[] w fun e w' => ∃ a1 a2 a3 a4, e = .returned (rulesVal a1 a2 a3 a4 2 2 3 3 4 4 5 5) ∧ Ints w'.heap.size w' a1 [5, 3] ∧ Ints w'.heap.size w' a2 [0, 3, 5] ∧ Ints w'.heap.size w' a3 [0, 1000, 2000, 10000] ∧ RowsIn w'.heap.size w' a4 fiveRows ∧ Below w.heap.size w w' := by
  go_enter Try.func22, Try.ntmps22
  go_wp2
  refine bodyPost_ret (results_one18 rfl _ _ w.heap.size _ rfl (run_loadVar_row (P := Try.prog) _ w.heap.size _ 25 _ _ _ (five_new19 w _ _ _ _ _ _ rfl).1 Try.underlying25 rfl (by kernel_rfl))) rfl ?_
  refine ⟨_, _, _, _, rfl, ints_obj19 (xs := [5, 3]) (five_new19 w _ _ _ _ _ _ rfl).2.1, ints_obj19 (xs := [0, 3, 5]) (five_new19 w _ _ _ _ _ _ rfl).2.2.1, ints_obj19 (xs := [0, 1000, 2000, 10000]) (five_new19 w _ _ _ _ _ _ rfl).2.2.2.1, rows_obj19 (l := fiveRows) (five_new19 w _ _ _ _ _ _ rfl).2.2.2.2.1, (five_new19 w _ _ _ _ _ _ rfl).2.2.2.2.2⟩
end Go.Proofs.Ytifihejogbcbgaa
namespace Go.Proofs.Ytifihejogbcbgaa
open Go.RowKit

/-- Of total's Check. -/
structure TotalC19 : Prop where
  check : ∀ (a1 a2 a3 a4 : Option Addr) (c1 c2 c3 c4 : Nat) (ks cs fs : List Int) (l : List Row18) (w : World), Ints w.heap.size w a1 ks → Ints w.heap.size w a2 cs → Ints w.heap.size w a3 fs → RowsIn w.heap.size w a4 l → ks.length ≤ c1 → cs.length ≤ c2 → fs.length ≤ c3 → l.length ≤ c4 →
    ks.length ≤ 1000000 → cs.length ≤ 1000000 → fs.length ≤ 1000000 → l.length ≤ 1000000 →
    Calls Try.prog 16 #[rulesVal a1 a2 a3 a4 ks.length c1 cs.length c2 fs.length c3 l.length c4] w fun e w' => e = .returned (.int .i64 (rulesE ks cs fs l)) ∧ Below w.heap.size w w'
abbrev oneRow19 : List Row18 := [⟨15, 3, 0, 99, 1⟩]
abbrev deadRows19 : List Row18 := [⟨15, 3, 0, 1000000000000, 4⟩, ⟨1, 3, 0, 1000000000000, 1⟩]
theorem five_at19 {B : Nat} {w : World} {a : Option Addr} (h : RowsIn B w a fiveRows) : ∃ b off, a = some ⟨b, off, none⟩ ∧ b < B ∧
    (w.cell? ⟨b, off, none⟩ = some (.int .i64 1) ∧ w.cell? ⟨b, off + 1, none⟩ = some (.int .i64 3) ∧ w.cell? ⟨b, off + 2, none⟩ = some (.int .i64 0) ∧ w.cell? ⟨b, off + 3, none⟩ = some (.int .i64 1000000000000) ∧ w.cell? ⟨b, off + 4, none⟩ = some (.int .i64 1)) ∧
    w.cell? ⟨b, off + 20, none⟩ = some (.int .i64 15) ∧ w.cell? ⟨b, off + 20 + 1, none⟩ = some (.int .i64 3) ∧ w.cell? ⟨b, off + 20 + 2, none⟩ = some (.int .i64 0) ∧ w.cell? ⟨b, off + 20 + 3, none⟩ = some (.int .i64 1000000000000) ∧ w.cell? ⟨b, off + 20 + 4, none⟩ = some (.int .i64 4) := by
  obtain ⟨b, off, ha, hb, c0, c1, c2, c3, c4⟩ := rows_at18 h (i := 0) (by decide)
  obtain ⟨b', off', ha', _, d0, d1, d2, d3, d4⟩ := rows_at18 h (i := 4) (by decide)
  rw [ha] at ha'
  injection ha' with ha'
  injection ha' with e1 e2
  subst e1 e2
  rw [Nat.zero_mul, Nat.add_zero] at c0 c1 c2 c3 c4
  exact ⟨b, off, ha, hb, ⟨c0, c1, c2, c3, c4⟩, d0, d1, d2, d3, d4⟩
/-- An array of eight numbers, compared with itself. -/
theorem same_eight19 (x0 x1 x2 x3 x4 x5 x6 x7 : Int) (w : World) : (Op.equalIn 10000 34 (.agg #[.int .i64 x0, .int .i64 x1, .int .i64 x2, .int .i64 x3, .int .i64 x4, .int .i64 x5, .int .i64 x6, .int .i64 x7]) (.agg #[.int .i64 x0, .int .i64 x1, .int .i64 x2, .int .i64 x3, .int .i64 x4, .int .i64 x5, .int .i64 x6, .int .i64 x7])).run Try.prog w = .ok true w := by
  have u3 := Try.underlying3
  have a3 := Try.isAgg3
  have z3 := Try.sizeOf3
  rw [show (10000 : Nat) = 9999 + 1 from rfl, Op.equalIn]
  simp only [Sem.run_bind, run_underlying Try.underlying34, Result.andThen_ok]
  simp only [Std.Legacy.Range.forIn_eq_forIn_range', Std.Legacy.Range.size, Nat.sub_zero, Nat.add_sub_cancel, Nat.div_one, List.range'_succ, List.range'_zero, List.forIn_cons, List.forIn_nil]
  go_simp
set_option maxRecDepth 100000 in
set_option maxHeartbeats 8000000 in
theorem awake19 (H : Total19) (HK : TotalC19) (w : World) : Calls Try.prog 7 #[] w fun e w' => e = .returned (.bool true) ∧ Below w.heap.size w w' := by
  have S1 : Hid (∀ W : World, Calls Try.prog 8 #[.slice (some ⟨W.heap.size, 0, none⟩) 1 1] (W.alloc (.cells #[.int .i64 15, .int .i64 3, .int .i64 0, .int .i64 99, .int .i64 1] 52)) fun e w' => e = .returned (.tuple #[.agg #[.int .i64 0, .bool false, .int .i64 100], .bool true]) ∧ Below W.heap.size W w') := Lib.hid fun W => by
    have h := H.gap (some ⟨W.heap.size, 0, none⟩) 1 oneRow19 (W.alloc (.cells #[.int .i64 15, .int .i64 3, .int .i64 0, .int .i64 99, .int .i64 1] 52)) (by decide) (rows_obj19 (l := oneRow19) (heap_alloc_new W _)) (by decide)
    unfold factVal at h
    rw [show (gapF oneRow19).g = 0 from by decide +kernel, show (gapF oneRow19).v = false from by decide +kernel, show (gapF oneRow19).n = 100 from by decide +kernel, show gapB oneRow19 = true from by decide +kernel] at h
    refine h.mono ?_
    rintro e w' ⟨rfl, hb⟩
    exact ⟨rfl, (lit16 W _).trans (hb.mono (lit16 W _).size)⟩
  have S2 : Hid (∀ (W : World) (a : Option Addr), RowsIn W.heap.size W a fiveRows → Calls Try.prog 8 #[.slice a 5 5] W fun e w' => (∃ f, e = .returned (.tuple #[factVal f, .bool false])) ∧ Below W.heap.size W w') := Lib.hid fun W a h => by
    have h := H.gap a 5 fiveRows W (by decide) h (by decide)
    rw [show gapB fiveRows = false from by decide +kernel] at h
    refine h.mono ?_
    rintro e w' ⟨rfl, hb⟩
    exact ⟨⟨_, rfl⟩, hb⟩
  have S3 : Hid (∀ (W : World) (a : Option Addr), RowsIn W.heap.size W a fiveRows → Calls Try.prog 10 #[.slice a 5 5] W fun e w' => e = .returned (.tuple #[.agg #[.int .i64 2, .int .i64 2, .int .i64 2, .int .i64 2, .int .i64 1, .int .i64 2, .int .i64 2, .int .i64 2], .int .i64 0]) ∧ Below W.heap.size W w') := Lib.hid fun W a h => by
    have h := H.cells a 5 fiveRows W (by decide) h (by decide)
    rw [show cellV fiveRows 0 = 2 from by decide +kernel, show cellV fiveRows 1 = 2 from by decide +kernel, show cellV fiveRows 2 = 2 from by decide +kernel, show cellV fiveRows 3 = 2 from by decide +kernel, show cellV fiveRows 4 = 1 from by decide +kernel, show cellV fiveRows 5 = 2 from by decide +kernel, show cellV fiveRows 6 = 2 from by decide +kernel, show cellV fiveRows 7 = 2 from by decide +kernel, show tabE fiveRows = 0 from by decide +kernel] at h
    exact h
  have S4 : Hid (∀ W : World, Calls Try.prog 14 #[.slice (some ⟨W.heap.size, 0, none⟩) 2 2] (W.alloc (.cells #[.int .i64 15, .int .i64 3, .int .i64 0, .int .i64 1000000000000, .int .i64 4, .int .i64 1, .int .i64 3, .int .i64 0, .int .i64 1000000000000, .int .i64 1] 52)) fun e w' => ∃ b c, e = .returned (.slice b 1 c) ∧ Ints w'.heap.size w' b [1] ∧ Below W.heap.size W w') := Lib.hid fun W => by
    have h := H.dead (some ⟨W.heap.size, 0, none⟩) 2 deadRows19 (W.alloc (.cells #[.int .i64 15, .int .i64 3, .int .i64 0, .int .i64 1000000000000, .int .i64 4, .int .i64 1, .int .i64 3, .int .i64 0, .int .i64 1000000000000, .int .i64 1] 52)) (by decide) (rows_obj19 (l := deadRows19) (heap_alloc_new W _)) (by decide)
    rw [show deadV deadRows19 = [1] from by decide +kernel] at h
    refine h.mono ?_
    rintro e w' ⟨b, c, rfl, _, hi, hb⟩
    exact ⟨b, c, rfl, hi, (lit16 W _).trans (hb.mono (lit16 W _).size)⟩
  have S5 : Hid (∀ (W : World) (a : Option Addr), RowsIn W.heap.size W a fiveRows → Calls Try.prog 12 #[.slice a 5 5] W fun e w' => e = .returned (.bool true) ∧ Below W.heap.size W w') := Lib.hid fun W a h => by
    have h := H.whole a 5 fiveRows W (by decide) h (by decide)
    rw [show gapB fiveRows = false from by decide +kernel] at h
    exact h
  have S6 : Hid (∀ (W : World) (a : Option Addr) (c : Nat), Ints W.heap.size W a [1] → Calls Try.prog 13 #[.slice a 1 c, .slice (some ⟨W.heap.size, 0, none⟩) 1 1] (W.alloc (.cells #[.int .i64 1] 3)) fun e w' => e = .returned (.bool true) ∧ Below W.heap.size W w') := Lib.hid fun W a c hT => by
    refine (same_any a (some ⟨W.heap.size, 0, none⟩) c 1 [1] [1] _ (by decide) (hT.lit _) (lit_one W 1 _)).mono ?_
    rintro e w' ⟨rfl, hb⟩
    exact ⟨rfl, (lit16 W _).trans (hb.mono (lit16 W _).size)⟩
  have S7 : Hid (∀ (W : World) (a1 a2 a3 a4 : Option Addr), Ints W.heap.size W a1 [5, 3] → Ints W.heap.size W a2 [0, 3, 5] → Ints W.heap.size W a3 [0, 1000, 2000, 10000] → RowsIn W.heap.size W a4 fiveRows → Calls Try.prog 16 #[rulesVal a1 a2 a3 a4 2 2 3 3 4 4 5 5] W fun e w' => e = .returned (.int .i64 0) ∧ Below W.heap.size W w') := Lib.hid fun W a1 a2 a3 a4 h1 h2 h3 h4 => by
    have h := HK.check a1 a2 a3 a4 2 3 4 5 [5, 3] [0, 3, 5] [0, 1000, 2000, 10000] fiveRows W h1 h2 h3 h4 (by decide) (by decide) (by decide) (by decide) (by decide) (by decide) (by decide) (by decide)
    rw [show rulesE [5, 3] [0, 3, 5] [0, 1000, 2000, 10000] fiveRows = 0 from by decide +kernel] at h
    exact h
  have S8 : Hid (∀ W : World, Calls Try.prog 16 #[.agg #[.slice none 0 0, .slice none 0 0, .slice none 0 0, .slice none 0 0]] W fun e w' => e = .returned (.int .i64 36) ∧ Below W.heap.size W w') := Lib.hid fun W => by
    have h := HK.check none none none none 0 0 0 0 [] [] [] [] W (Or.inl rfl) (Or.inl rfl) (Or.inl rfl) (Or.inl rfl) (by decide) (by decide) (by decide) (by decide) (by decide) (by decide) (by decide) (by decide)
    rw [show rulesE [] [] [] [] = 36 from by decide +kernel] at h
    exact h
  clear H HK
  have hfd : ∀ (a1 a2 a3 a4 : Option Addr) (w : World), (Instr.field 25 (.agg #[.slice a1 2 2, .slice a2 3 3, .slice a3 4 4, .slice a4 5 5]) 3).run Try.prog w = .ok (.slice a4 5 5) w := fun _ _ _ _ _ => by kernel_rfl
  go_enter Try.func7, Try.ntmps7
  go_upto_region 2 with (go_at_call 8; refine (S1.out _).mono ?_; rintro e w1 ⟨rfl, hb⟩; have B1 := Lib.hid hb; clear hb S1)
  obtain ⟨V1, hV1⟩ : ∃ V, V = w1.alloc (.cells #[.int .i64 0, .bool false, .int .i64 100] 28) := ⟨_, rfl⟩
  have h1 := heap_alloc_new w1 (.cells #[.int .i64 0, .bool false, .int .i64 100] 28)
  have B2 : Hid (Below w.heap.size w V1) := Lib.hid (by rw [hV1]; exact B1.out.trans ((lit16 w1 _).mono B1.out.size))
  rw [← hV1] at h1 ⊢
  clear hV1 B1
  generalize w1.heap.size = g1 at *
  have H1 := Lib.hid h1
  have B3 := Lib.hid (Below.refl V1.heap.size V1)
  clear h1
  go_upto_region 3 with (first
    | (go_at_call 22; refine (rules19_any _).mono ?_; rintro e w2 ⟨q1, q2, q3, q4, rfl, i1, i2, i3, i4, hb⟩; have I2 := Lib.hid i4; have B4 := Lib.hid (B3.out.trans (hb.mono B3.out.size)); clear i1 i2 i3 i4 hb; unfold rulesVal)
    | (go_at_call 8; refine (S2.out _ _ I2.out).mono ?_; rintro e w3 ⟨⟨fx, rfl⟩, hb⟩; have B5 := Lib.hid (B4.out.trans (hb.mono B4.out.size)); clear hb S2 I2))
  obtain ⟨V3, hV3⟩ : ∃ V, V = w3.alloc (.cells #[.int .i64 fx.g, .bool fx.v, .int .i64 fx.n] 28) := ⟨_, rfl⟩
  have B6 : Hid (Below V1.heap.size V1 V3) := Lib.hid (by rw [hV3]; exact B5.out.trans ((lit16 w3 _).mono B5.out.size))
  rw [← hV3]
  clear hV3 B3 B4 B5
  go_upto_region 4 with (first
    | (go_at_call 22; refine (rules19_any _).mono ?_; rintro e w4 ⟨q1, q2, q3, q4, rfl, i1, i2, i3, i4, hb⟩; have I4 := Lib.hid i4; have B7 := Lib.hid (B6.out.trans (hb.mono B6.out.size)); clear i1 i2 i3 i4 hb; unfold rulesVal)
    | (go_at_call 10; refine (S3.out _ _ I4.out).mono ?_; rintro e w5 ⟨rfl, hb⟩; have B8 := Lib.hid (B7.out.trans (hb.mono B7.out.size)); clear hb S3 I4))
  obtain ⟨V5, hV5⟩ : ∃ V, V = w5.alloc (.cells #[.int .i64 2, .int .i64 2, .int .i64 2, .int .i64 2, .int .i64 1, .int .i64 2, .int .i64 2, .int .i64 2] 34) := ⟨_, rfl⟩
  have h5 := heap_alloc_new w5 (.cells #[.int .i64 2, .int .i64 2, .int .i64 2, .int .i64 2, .int .i64 1, .int .i64 2, .int .i64 2, .int .i64 2] 34)
  have B9 : Hid (Below V1.heap.size V1 V5) := Lib.hid (by rw [hV5]; exact B8.out.trans ((lit16 w5 _).mono B8.out.size))
  rw [← hV5] at h5 ⊢
  clear hV5 B6 B7 B8
  generalize w5.heap.size = g5 at *
  have H5 := Lib.hid h5
  clear h5
  have B10 := Lib.hid (Below.refl V5.heap.size V5).drew
  go_cut [7] (fun s7 wx => ∃ b c, s7 = .slice b 1 c ∧ Ints wx.heap.size wx b [1] ∧ Below V5.heap.size V5 wx)
  case first =>
    go_region_with (first
      | (go_at_call 22; have _t := F1; refine (rules19_any _).mono ?_; rintro e w7 ⟨q1, q2, q3, q4, rfl, i1, i2, i3, i4, hb⟩; obtain ⟨rb, ro, rfl, rhb, ⟨rc0, rc1, rc2, rc3, rc4⟩, rc5, rc6, rc7, rc8, rc9⟩ := five_at19 i4; obtain ⟨⟨sc0, sc1, sc2, sc3, sc4⟩, sc5, sc6, sc7, sc8, sc9⟩ := F1.out _ hb; have BY := Lib.hid (BX.out.trans (hb.mono BX.out.size)); clear i1 i2 i3 i4 hb BX F1 _t; unfold rulesVal)
      | (go_at_call 22; refine (rules19_any _).mono ?_; rintro e w6 ⟨q1, q2, q3, q4, rfl, i1, i2, i3, i4, hb⟩; have BX := Lib.hid (B10.out.trans (hb.mono B10.out.size)); obtain ⟨pb, po, rfl, phb, ⟨pc0, pc1, pc2, pc3, pc4⟩, pc5, pc6, pc7, pc8, pc9⟩ := five_at19 i4; have F1 : Hid (∀ V, Below w6.heap.size w6 V → (V.cell? ⟨pb, po, none⟩ = some (.int .i64 1) ∧ V.cell? ⟨pb, po + 1, none⟩ = some (.int .i64 3) ∧ V.cell? ⟨pb, po + 2, none⟩ = some (.int .i64 0) ∧ V.cell? ⟨pb, po + 3, none⟩ = some (.int .i64 1000000000000) ∧ V.cell? ⟨pb, po + 4, none⟩ = some (.int .i64 1)) ∧ V.cell? ⟨pb, po + 20, none⟩ = some (.int .i64 15) ∧ V.cell? ⟨pb, po + 20 + 1, none⟩ = some (.int .i64 3) ∧ V.cell? ⟨pb, po + 20 + 2, none⟩ = some (.int .i64 0) ∧ V.cell? ⟨pb, po + 20 + 3, none⟩ = some (.int .i64 1000000000000) ∧ V.cell? ⟨pb, po + 20 + 4, none⟩ = some (.int .i64 4)) := Lib.hid fun V hV => ⟨⟨(hV.cell (p := ⟨pb, po, none⟩) phb).trans pc0, (hV.cell (p := ⟨pb, po + 1, none⟩) phb).trans pc1, (hV.cell (p := ⟨pb, po + 2, none⟩) phb).trans pc2, (hV.cell (p := ⟨pb, po + 3, none⟩) phb).trans pc3, (hV.cell (p := ⟨pb, po + 4, none⟩) phb).trans pc4⟩, (hV.cell (p := ⟨pb, po + 20, none⟩) phb).trans pc5, (hV.cell (p := ⟨pb, po + 20 + 1, none⟩) phb).trans pc6, (hV.cell (p := ⟨pb, po + 20 + 2, none⟩) phb).trans pc7, (hV.cell (p := ⟨pb, po + 20 + 3, none⟩) phb).trans pc8, (hV.cell (p := ⟨pb, po + 20 + 4, none⟩) phb).trans pc9⟩; clear i1 i2 i3 i4 hb B10; unfold rulesVal)
      | (go_at_call 14; refine (S4.out _).mono ?_; rintro e w8 ⟨db, dc, rfl, hi, hb⟩; have ID := Lib.hid hi; have BZ := Lib.hid (BY.out.trans (hb.mono BY.out.size)); clear hi hb BY))
    all_goals
      go_wp2
      go_meet
      exact ⟨_, _, rfl, ID.out, BZ.out⟩
  case rest =>
    obtain ⟨db, dc, rfl, hid, hbd⟩ := hcut
    have h1 := old_obj hbd (old_obj B9.out H1.out)
    have h5 := old_obj hbd H5.out
    have BW : Hid (Below w.heap.size w wc) := Lib.hid ((B2.out.trans (B9.out.mono B2.out.size)).trans (hbd.mono (B2.out.trans (B9.out.mono B2.out.size)).size))
    have HS : Hid (∀ V, Below wc.heap.size wc V → (V.cell? ⟨g1, 0, none⟩ = some (.int .i64 0) ∧ V.cell? ⟨g1, 1, none⟩ = some (.bool false) ∧ V.cell? ⟨g1, 2, none⟩ = some (.int .i64 100)) ∧ V.cell? ⟨g5, 0, none⟩ = some (.int .i64 2) ∧ V.cell? ⟨g5, 1, none⟩ = some (.int .i64 2) ∧ V.cell? ⟨g5, 2, none⟩ = some (.int .i64 2) ∧ V.cell? ⟨g5, 3, none⟩ = some (.int .i64 2) ∧ V.cell? ⟨g5, 4, none⟩ = some (.int .i64 1) ∧ V.cell? ⟨g5, 5, none⟩ = some (.int .i64 2) ∧ V.cell? ⟨g5, 6, none⟩ = some (.int .i64 2) ∧ V.cell? ⟨g5, 7, none⟩ = some (.int .i64 2)) := Lib.hid fun V hV => by
      have k1 := old_obj hV h1
      have k5 := old_obj hV h5
      exact ⟨⟨cell_of (j := 0) k1 rfl, cell_of (j := 1) k1 rfl, cell_of (j := 2) k1 rfl⟩, cell_of (j := 0) k5 rfl, cell_of (j := 1) k5 rfl, cell_of (j := 2) k5 rfl, cell_of (j := 3) k5 rfl, cell_of (j := 4) k5 rfl, cell_of (j := 5) k5 rfl, cell_of (j := 6) k5 rfl, cell_of (j := 7) k5 rfl⟩
    have ID := Lib.hid hid
    obtain ⟨⟨x0, x1, x2⟩, _⟩ := HS.out _ (Below.refl _ _)
    clear h1 h5 hbd B9 B2 H1 H5 hid
    have E8 := same_eight19 2 2 2 2 1 2 2 2
    go_wp2_with (first
      | (go_at_call 22; have _t := S5; refine (rules19_any _).mono ?_; rintro e w9 ⟨q1, q2, q3, q4, rfl, i1, i2, i3, i4, hb⟩; have I9 := Lib.hid i4; have B9 := Lib.hid hb; clear i1 i2 i3 i4 hb _t; unfold rulesVal)
      | (go_at_call 12; refine (S5.out _ _ I9.out).mono ?_; rintro e w10 ⟨rfl, hb⟩; have B10 := Lib.hid (B9.out.trans (hb.mono B9.out.size)); have I10 := Lib.hid ((ID.out.below B10.out).up B10.out.size); obtain ⟨_, y0, y1, y2, y3, y4, y5, y6, y7⟩ := HS.out _ B10.out; clear hb S5 I9 B9 ID)
      | (go_at_call 13; refine (S6.out _ _ _ I10.out).mono ?_; rintro e w11 ⟨rfl, hb⟩; have B11 := Lib.hid (B10.out.trans (hb.mono B10.out.size)); clear hb S6 I10 B10)
      | (go_at_call 22; have _t := S7; refine (rules19_any _).mono ?_; rintro e w12 ⟨q1, q2, q3, q4, rfl, i1, i2, i3, i4, hb⟩; have J1 := Lib.hid i1; have J2 := Lib.hid i2; have J3 := Lib.hid i3; have J4 := Lib.hid i4; have B12 := Lib.hid (B11.out.trans (hb.mono B11.out.size)); clear i1 i2 i3 i4 hb _t B11)
      | (go_at_call 16; refine (S7.out _ _ _ _ _ J1.out J2.out J3.out J4.out).mono ?_; rintro e w13 ⟨rfl, hb⟩; have B13 := Lib.hid (B12.out.trans (hb.mono B12.out.size)); clear hb S7 B12)
      | (go_at_call 16; refine (S8.out _).mono ?_; rintro e w14 ⟨rfl, hb⟩; have B14 := Lib.hid (B13.out.trans (hb.mono B13.out.size)); clear hb B13))
    go_ret
    exact ⟨rfl, BW.out.trans (B14.out.mono BW.out.size)⟩
end Go.Proofs.Ytifihejogbcbgaa
