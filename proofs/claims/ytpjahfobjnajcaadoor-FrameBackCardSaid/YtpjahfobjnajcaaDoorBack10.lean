/- The law that a frame comes back, walked over what is wanted of frame. -/
import Derived.Test.YtpjahfobjnajcaaDoorGrows10
import Derived.Test.YtpjahfobjnajcaaDoorByteRow
namespace Go.Proofs.YtpjahfobjnajcaaDoor
open Go.RowKit

theorem alloc_push (W : World) (O : Obj) : (W.alloc O).heap = W.heap.push O := rfl
theorem drew_heap (W : World) : W.drew.heap = W.heap := rfl
theorem zfirst (W : World) (X Y Z : Obj) : (((W.alloc Z).alloc X).alloc Y).drew.heap[W.heap.size]? = some Z := by (simp only [alloc_push, drew_heap, Array.getElem?_push, Array.size_push]; simp; try (intro h; omega); done)
theorem zsecond (W : World) (X Y Z : Obj) : (((W.alloc X).alloc Z).alloc Y).drew.heap[W.heap.size + 1]? = some Z := by (simp only [alloc_push, drew_heap, Array.getElem?_push, Array.size_push]; simp; try (intro h; omega); done)
theorem zthird (W : World) (X Y Z : Obj) : (((W.alloc X).alloc Y).alloc Z).drew.heap[W.heap.size + 1 + 1]? = some Z := by (simp only [alloc_push, drew_heap, Array.getElem?_push, Array.size_push]; simp; try (intro h; omega); done)
theorem three_on {w w1 w2 : World} {X Y Z : Obj} (h : Below w.heap.size w w1) (hb : Below (((w1.alloc X).alloc Y).alloc Z).drew.heap.size (((w1.alloc X).alloc Y).alloc Z).drew w2) : Below w.heap.size w w2 := by
  have h1 := h.alloc h.size X
  have h2 := h1.alloc h1.size Y
  have h3 := (h2.alloc h2.size Z).drew
  exact h3.trans (hb.mono h3.size)
theorem two_on {w w1 w2 : World} {X Y : Obj} (h : Below w.heap.size w w1) (hb : Below ((w1.alloc X).alloc Y).drew.heap.size ((w1.alloc X).alloc Y).drew w2) : Below w.heap.size w w2 := by
  have h1 := h.alloc h.size X
  have h2 := (h1.alloc h1.size Y).drew
  exact h2.trans (hb.mono h2.size)
/-- Zeros, as a text that was made. -/
theorem made_zeros (n : Nat) (hn : n ≤ 4096) (W : World) :
    (Instr.makeSlice 39 (.int .i64 n) (.int .i64 n)).run Tryd.prog W = .ok (.slice (some ⟨W.heap.size, 0, none⟩) n n) (W.alloc (.cells (byteRow (List.replicate n 0)) 5)) := by
  rw [← byteRow_made]
  exact run_make_row' (P := Tryd.prog) 39 5 (.int .u8 0) 1 Tryd.underlying39 infoU8 rfl .i64 .i64 n (by omega) (by omega) W
set_option maxRecDepth 100000 in
set_option maxHeartbeats 20000000 in
theorem frameBack_walk10 {T : World → Prop} (H : Frame10 T) (HA : Wakes10 T) (w : World) (hT : T w) (E Q : Int) (t : ByteArray) (s : ByteArray) (p : Int) (hp : (Lit.int .i64 p).wf = true) :
    Calls Tryd.prog 4 #[.agg #[.int .i64 E, .int .i64 Q, .string t], .string s, .int .i64 p] w fun e w' => e = .returned (.bool true) ∧ Below w.heap.size w w' := by
  have HT := Lib.hid hT
  have HB : Hid (∀ v v', T v → Below v.heap.size v v' → T v') := Lib.hid fun _ _ h hb => H.below h hb
  have hp2 : -9223372036854775808 ≤ p ∧ p ≤ 9223372036854775807 := by
    simp [Lit.wf, IntKind.min, IntKind.max, IntKind.signed, IntKind.bits] at hp
    omega
  clear hp
  obtain ⟨W, hW⟩ : ∃ W, W = w.alloc (.cells #[.int .i64 E, .int .i64 Q, .string t] 24) := ⟨_, rfl⟩
  have b0 : Below w.heap.size w W := by rw [hW]; exact (Below.refl _ w).alloc (Nat.le_refl _) _
  have z0 : W.heap[w.heap.size]? = some (.cells #[.int .i64 E, .int .i64 Q, .string t] 24 (0, 0)) := by rw [hW]; exact heap_alloc_new w _
  obtain ⟨c0, c1, c2, _, _, _⟩ := three_cells z0
  have B0 := Lib.hid b0
  have Z0 := Lib.hid z0
  have HT0 := Lib.hid (HB.out _ _ HT.out b0)
  clear b0 z0
  go_enter Tryd.func4, Tryd.ntmps4
  go_upto_region 1 with fail
  rw [← hW]
  clear hW
  by_cases q1 : 3100 < t.size
  · have e1 : decide (3100 < t.size) = true := decide_eq_true q1
    have e1i : decide (3100 < (t.size : Int)) = true := decide_eq_true (by omega)
    clear q1 hp2
    go_wp2_with (go_at_call 7; refine (HA _ HT0.out).mono ?_; rintro e w1 ⟨rfl, hb1⟩)
    go_ret
    exact ⟨rfl, B0.out.trans (hb1.mono B0.out.size)⟩
  have e1 : decide (3100 < t.size) = false := decide_eq_false q1
  have e1i : decide (3100 < (t.size : Int)) = false := decide_eq_false (by omega)
  by_cases q2 : 6400 < s.size
  · have e2 : decide (6400 < s.size) = true := decide_eq_true q2
    have e2i : decide (6400 < (s.size : Int)) = true := decide_eq_true (by omega)
    clear q1 q2 hp2
    go_wp2_with (go_at_call 7; refine (HA _ HT0.out).mono ?_; rintro e w1 ⟨rfl, hb1⟩)
    go_ret
    exact ⟨rfl, B0.out.trans (hb1.mono B0.out.size)⟩
  have e2 : decide (6400 < s.size) = false := decide_eq_false q2
  have e2i : decide (6400 < (s.size : Int)) = false := decide_eq_false (by omega)
  have hput := H.put E Q t (by omega) W HT0.out
  have HQ := Lib.hid (And.intro q1 (And.intro q2 hp2))
  clear q1 q2 hp2
  go_upto_region 4 with (go_at_call 14; refine hput.mono ?_; rintro e w1 ⟨rfl, hb1⟩; have HB1 := Lib.hid hb1; clear hb1)
  have BW := Lib.hid (B0.out.trans (HB1.out.mono B0.out.size))
  have HTW := Lib.hid (HB.out _ _ HT.out BW.out)
  have Z1 := Lib.hid (old_obj HB1.out Z0.out)
  clear hput e1 e1i e2 e2i c0 c1 c2 HB1 B0 Z0 HT0
  by_cases q4 : wrong10 E Q t.size = 0
  · rw [putL_good (by rw [text_size]; exact q4), q4]
    have hup := nsec_up t.size
    have hpl := put10_len E Q t.data.toList
    rw [text_size] at hpl
    obtain ⟨u, hu⟩ : ∃ u, tx (put10 E Q t.data.toList) = u := ⟨_, rfl⟩
    have hus : u.size = 64 * nsec t.size := by rw [← hu, tx_size, hpl]
    rw [hu]
    have hg := fun v h => H.get (tx (List.replicate 128 0) ++ u ++ tx (List.replicate 64 0)) 2 (by rw [ByteArray.size_append, ByteArray.size_append, tx_size, tx_size, List.length_replicate, List.length_replicate, hus]; have := HQ.out; omega) (by omega) (by omega) v h
    have hback := get_back10 E Q t.data.toList (List.replicate 128 0) (List.replicate 64 0) 2 (by rw [List.length_replicate]) (by rw [List.length_replicate]) (by rw [text_size]; exact q4)
    rw [text_size] at hback
    have hres : res10 (tx (List.replicate 128 0) ++ u ++ tx (List.replicate 64 0)).data.toList 2 = .tuple #[.agg #[.int .i64 E, .int .i64 Q, .string t], .int .i64 (2 + nsec t.size : Nat), .int .i64 0] := by
      rw [ByteArray.data_append, ByteArray.data_append, Array.toList_append, Array.toList_append, tx_list, tx_list, ← hu, tx_list, List.append_assoc]
      unfold res10
      obtain ⟨g1, g2, g3, g4, g5⟩ := hback
      rw [show ((2 : Nat) : Int) = 2 from rfl] at g1 g2 g3 g4 g5
      rw [g1, g2, g3, g4, g5, show tx t.data.toList = t from (tx_of rfl).symm]
    rw [hres] at hg
    obtain ⟨ZA, hZA⟩ : ∃ ZA, ZA = tx (List.replicate 128 0) := ⟨_, rfl⟩
    obtain ⟨ZB, hZB⟩ : ∃ ZB, ZB = tx (List.replicate 64 0) := ⟨_, rfl⟩
    rw [← hZA, ← hZB] at hg
    have zsa : ZA.size = 128 := by rw [hZA, tx_size, List.length_replicate]
    have zsb : ZB.size = 64 := by rw [hZB, tx_size, List.length_replicate]
    obtain ⟨n, hn⟩ : ∃ n, nsec t.size = n := ⟨_, rfl⟩
    rw [hn] at hup hus hg
    have i5 : ¬ (9223372036854775807 < ZA.size + u.size) := by have := HQ.out; omega
    have i6 : ¬ (9223372036854775807 < ZA.size + u.size + ZB.size) := by have := HQ.out; omega
    obtain ⟨OA, hOA⟩ : ∃ OA, OA = Obj.cells (byteRow (List.replicate 128 0)) 5 := ⟨_, rfl⟩
    obtain ⟨OB, hOB⟩ : ∃ OB, OB = Obj.cells (byteRow (List.replicate 64 0)) 5 := ⟨_, rfl⟩
    have mkA : ∀ W : World, (Instr.makeSlice 39 (.int .i64 128) (.int .i64 128)).run Tryd.prog W = .ok (.slice (some ⟨W.heap.size, 0, none⟩) 128 128) (W.alloc OA) := fun W => by rw [hOA]; exact made_zeros 128 (by omega) W
    have mkB : ∀ W : World, (Instr.makeSlice 39 (.int .i64 64) (.int .i64 64)).run Tryd.prog W = .ok (.slice (some ⟨W.heap.size, 0, none⟩) 64 64) (W.alloc OB) := fun W => by rw [hOB]; exact made_zeros 64 (by omega) W
    have cvA : ∀ (W : World) (g : Nat), W.heap[g]? = some OA → (convert 39 9 (.slice (some ⟨g, 0, none⟩) 128 128)).run Tryd.prog W = .ok (.string ZA) W := fun W g h => by
      rw [hOA] at h
      have h2 := byteRow_text h 128
      rw [List.length_replicate] at h2
      rw [hZA]; exact h2
    have cvB : ∀ (W : World) (g : Nat), W.heap[g]? = some OB → (convert 39 9 (.slice (some ⟨g, 0, none⟩) 64 64)).run Tryd.prog W = .ok (.string ZB) W := fun W g h => by
      rw [hOB] at h
      have h2 := byteRow_text h 64
      rw [List.length_replicate] at h2
      rw [hZB]; exact h2
    have cv1 := cvA ((w1.alloc OA)).drew (w1.heap.size) (by (simp only [alloc_push, drew_heap, Array.getElem?_push, Array.size_push]; simp; try (intro h; omega); done))
    have cv2 := cvA (((w1.alloc OA).alloc OB)).drew (w1.heap.size) (by (simp only [alloc_push, drew_heap, Array.getElem?_push, Array.size_push]; simp; try (intro h; omega); done))
    have cv3 := cvB (((w1.alloc OA).alloc OB)).drew (w1.heap.size + 1) (by (simp only [alloc_push, drew_heap, Array.getElem?_push, Array.size_push]; simp; try (intro h; omega); done))
    have cv4 := cvA ((((w1.alloc OA).alloc OB).alloc (Obj.cells #[Value.int .i64 0, Value.int .i64 0, Value.string ⟨#[]⟩] 24))).drew (w1.heap.size) (by (simp only [alloc_push, drew_heap, Array.getElem?_push, Array.size_push]; simp; try (intro h; omega); done))
    have cv5 := cvB ((((w1.alloc OA).alloc OB).alloc (Obj.cells #[Value.int .i64 0, Value.int .i64 0, Value.string ⟨#[]⟩] 24))).drew (w1.heap.size + 1) (by (simp only [alloc_push, drew_heap, Array.getElem?_push, Array.size_push]; simp; try (intro h; omega); done))
    have cv6 := cvA (((w1.alloc OA).alloc (Obj.cells #[Value.int .i64 0, Value.int .i64 0, Value.string ⟨#[]⟩] 24))).drew (w1.heap.size) (by (simp only [alloc_push, drew_heap, Array.getElem?_push, Array.size_push]; simp; try (intro h; omega); done))
    have cv7 := cvA ((((w1.alloc OA).alloc (Obj.cells #[Value.int .i64 0, Value.int .i64 0, Value.string ⟨#[]⟩] 24)).alloc OB)).drew (w1.heap.size) (by (simp only [alloc_push, drew_heap, Array.getElem?_push, Array.size_push]; simp; try (intro h; omega); done))
    have cv8 := cvB ((((w1.alloc OA).alloc (Obj.cells #[Value.int .i64 0, Value.int .i64 0, Value.string ⟨#[]⟩] 24)).alloc OB)).drew (w1.heap.size + 2) (by (simp only [alloc_push, drew_heap, Array.getElem?_push, Array.size_push]; simp; try (intro h; omega); done))
    have cv9 := cvB ((w1.alloc OB)).drew (w1.heap.size) (by (simp only [alloc_push, drew_heap, Array.getElem?_push, Array.size_push]; simp; try (intro h; omega); done))
    have cv10 := cvB (((w1.alloc OB).alloc OA)).drew (w1.heap.size) (by (simp only [alloc_push, drew_heap, Array.getElem?_push, Array.size_push]; simp; try (intro h; omega); done))
    have cv11 := cvA (((w1.alloc OB).alloc OA)).drew (w1.heap.size + 1) (by (simp only [alloc_push, drew_heap, Array.getElem?_push, Array.size_push]; simp; try (intro h; omega); done))
    have cv12 := cvB ((((w1.alloc OB).alloc OA).alloc (Obj.cells #[Value.int .i64 0, Value.int .i64 0, Value.string ⟨#[]⟩] 24))).drew (w1.heap.size) (by (simp only [alloc_push, drew_heap, Array.getElem?_push, Array.size_push]; simp; try (intro h; omega); done))
    have cv13 := cvA ((((w1.alloc OB).alloc OA).alloc (Obj.cells #[Value.int .i64 0, Value.int .i64 0, Value.string ⟨#[]⟩] 24))).drew (w1.heap.size + 1) (by (simp only [alloc_push, drew_heap, Array.getElem?_push, Array.size_push]; simp; try (intro h; omega); done))
    have cv14 := cvB (((w1.alloc OB).alloc (Obj.cells #[Value.int .i64 0, Value.int .i64 0, Value.string ⟨#[]⟩] 24))).drew (w1.heap.size) (by (simp only [alloc_push, drew_heap, Array.getElem?_push, Array.size_push]; simp; try (intro h; omega); done))
    have cv15 := cvB ((((w1.alloc OB).alloc (Obj.cells #[Value.int .i64 0, Value.int .i64 0, Value.string ⟨#[]⟩] 24)).alloc OA)).drew (w1.heap.size) (by (simp only [alloc_push, drew_heap, Array.getElem?_push, Array.size_push]; simp; try (intro h; omega); done))
    have cv16 := cvA ((((w1.alloc OB).alloc (Obj.cells #[Value.int .i64 0, Value.int .i64 0, Value.string ⟨#[]⟩] 24)).alloc OA)).drew (w1.heap.size + 2) (by (simp only [alloc_push, drew_heap, Array.getElem?_push, Array.size_push]; simp; try (intro h; omega); done))
    have cv17 := cvA (((w1.alloc (Obj.cells #[Value.int .i64 0, Value.int .i64 0, Value.string ⟨#[]⟩] 24)).alloc OA)).drew (w1.heap.size + 1) (by (simp only [alloc_push, drew_heap, Array.getElem?_push, Array.size_push]; simp; try (intro h; omega); done))
    have cv18 := cvA ((((w1.alloc (Obj.cells #[Value.int .i64 0, Value.int .i64 0, Value.string ⟨#[]⟩] 24)).alloc OA).alloc OB)).drew (w1.heap.size + 1) (by (simp only [alloc_push, drew_heap, Array.getElem?_push, Array.size_push]; simp; try (intro h; omega); done))
    have cv19 := cvB ((((w1.alloc (Obj.cells #[Value.int .i64 0, Value.int .i64 0, Value.string ⟨#[]⟩] 24)).alloc OA).alloc OB)).drew (w1.heap.size + 2) (by (simp only [alloc_push, drew_heap, Array.getElem?_push, Array.size_push]; simp; try (intro h; omega); done))
    have cv20 := cvB (((w1.alloc (Obj.cells #[Value.int .i64 0, Value.int .i64 0, Value.string ⟨#[]⟩] 24)).alloc OB)).drew (w1.heap.size + 1) (by (simp only [alloc_push, drew_heap, Array.getElem?_push, Array.size_push]; simp; try (intro h; omega); done))
    have cv21 := cvB ((((w1.alloc (Obj.cells #[Value.int .i64 0, Value.int .i64 0, Value.string ⟨#[]⟩] 24)).alloc OB).alloc OA)).drew (w1.heap.size + 1) (by (simp only [alloc_push, drew_heap, Array.getElem?_push, Array.size_push]; simp; try (intro h; omega); done))
    have cv22 := cvA ((((w1.alloc (Obj.cells #[Value.int .i64 0, Value.int .i64 0, Value.string ⟨#[]⟩] 24)).alloc OB).alloc OA)).drew (w1.heap.size + 2) (by (simp only [alloc_push, drew_heap, Array.getElem?_push, Array.size_push]; simp; try (intro h; omega); done))
    have HUS := Lib.hid hus
    have HNN := Lib.hid hn
    have HN := Lib.hid (show n ≤ 1000000 by have := HQ.out; omega)
    clear cvA cvB hOA hOB hZA hZB zsa zsb hres hback hup hpl hu hus q4 hn
    have HTA : Hid (∀ (v : World) (X : Obj), T v → T (v.alloc X)) := Lib.hid fun v X h => HB.out _ _ h ((Below.refl _ v).alloc (Nat.le_refl _) X)
    have HTD : Hid (∀ v : World, T v → T v.drew) := Lib.hid fun v h => HB.out _ _ h (Below.refl _ v).drew
    have HG := Lib.hid hg
    clear hg
    go_upto_region 5 with fail
    go_cut [9, 10, 11] (fun g x y wx => ∃ b, g = .pointer (some ⟨b, 0, none⟩) ∧ x = .int .i64 (2 + n : Nat) ∧ y = .int .i64 0 ∧ Hid (wx.heap[b]? = some (.cells #[.int .i64 E, .int .i64 Q, .string t] 24 (0, 0))) ∧ Hid (Below w1.heap.size w1 wx))
    case first =>
      clear H HA
      go_region_with (go_at_call 8; refine (HG.out _ (by first | exact HTD.out _ (HTA.out _ _ (HTA.out _ _ (HTA.out _ _ HTW.out))) | exact HTD.out _ (HTA.out _ _ (HTA.out _ _ HTW.out)))).mono ?_; rintro e w2 ⟨rfl, hb2⟩; (first | (have HB2 := Lib.hid (three_on (Below.refl _ w1) hb2)) | (have HB2 := Lib.hid (two_on (Below.refl _ w1) hb2))); (first | (obtain ⟨z0, z1, z2, y0, y1, y2⟩ := three_cells (old_obj hb2 (zfirst w1 OA OB (.cells #[.int .i64 0, .int .i64 0, .string ⟨#[]⟩] 24 (0, 0)))); have HZ := Lib.hid (old_obj hb2 (zfirst w1 OA OB (.cells #[.int .i64 0, .int .i64 0, .string ⟨#[]⟩] 24 (0, 0))))) | (obtain ⟨z0, z1, z2, y0, y1, y2⟩ := three_cells (old_obj hb2 (zfirst w1 OB OA (.cells #[.int .i64 0, .int .i64 0, .string ⟨#[]⟩] 24 (0, 0)))); have HZ := Lib.hid (old_obj hb2 (zfirst w1 OB OA (.cells #[.int .i64 0, .int .i64 0, .string ⟨#[]⟩] 24 (0, 0))))) | (obtain ⟨z0, z1, z2, y0, y1, y2⟩ := three_cells (old_obj hb2 (zsecond w1 OA OB (.cells #[.int .i64 0, .int .i64 0, .string ⟨#[]⟩] 24 (0, 0)))); have HZ := Lib.hid (old_obj hb2 (zsecond w1 OA OB (.cells #[.int .i64 0, .int .i64 0, .string ⟨#[]⟩] 24 (0, 0))))) | (obtain ⟨z0, z1, z2, y0, y1, y2⟩ := three_cells (old_obj hb2 (zsecond w1 OB OA (.cells #[.int .i64 0, .int .i64 0, .string ⟨#[]⟩] 24 (0, 0)))); have HZ := Lib.hid (old_obj hb2 (zsecond w1 OB OA (.cells #[.int .i64 0, .int .i64 0, .string ⟨#[]⟩] 24 (0, 0))))) | (obtain ⟨z0, z1, z2, y0, y1, y2⟩ := three_cells (old_obj hb2 (zthird w1 OA OB (.cells #[.int .i64 0, .int .i64 0, .string ⟨#[]⟩] 24 (0, 0)))); have HZ := Lib.hid (old_obj hb2 (zthird w1 OA OB (.cells #[.int .i64 0, .int .i64 0, .string ⟨#[]⟩] 24 (0, 0))))) | (obtain ⟨z0, z1, z2, y0, y1, y2⟩ := three_cells (old_obj hb2 (zthird w1 OB OA (.cells #[.int .i64 0, .int .i64 0, .string ⟨#[]⟩] 24 (0, 0)))); have HZ := Lib.hid (old_obj hb2 (zthird w1 OB OA (.cells #[.int .i64 0, .int .i64 0, .string ⟨#[]⟩] 24 (0, 0))))) | skip); clear hb2)
      all_goals
        go_wp2_with fail
        go_meet
        first
          | exact ⟨_, rfl, rfl, rfl, Lib.hid (heap_alloc_new w2 _), Lib.hid (HB2.out.alloc HB2.out.size _)⟩
          | exact ⟨_, rfl, rfl, rfl, Lib.hid (three_stored HZ.out _ _ _), Lib.hid (three_below HB2.out (by omega) _ _ _)⟩
    case rest =>
      obtain ⟨b, rfl, rfl, rfl, hz, hbx⟩ := hcut
      have hzx := old_obj hbx.out Z1.out
      obtain ⟨c0, c1, c2, _, _, _⟩ := three_cells hzx
      obtain ⟨d0, d1, d2, _, _, _⟩ := three_cells hz.out
      have BX := Lib.hid (BW.out.trans (hbx.out.mono BW.out.size))
      have ZX := Lib.hid hzx
      obtain ⟨m, hm⟩ : ∃ m, 64 * n = m := ⟨_, rfl⟩
      have a5 : IntKind.i64.wrap (64 * (n : Int)) = (m : Int) := by rw [show 64 * (n : Int) = (m : Int) by omega]; exact IntWalk.i64_in _ (by have := HN.out; omega)
      have a6 : IntKind.i64.wrap (2 + (n : Int)) = 2 + (n : Int) := IntWalk.i64_in _ (by have := HN.out; omega)
      have husm := HUS.out
      rw [hm] at husm
      have d7 : (t.toList == t.toList) = true := by simp
      have d7b : (t.toList != t.toList) = false := by simp
      have d8 : ((u.size : Int) != (m : Int)) = false := by rw [husm]; simp
      have hse := fun v => H.sect t (by have := HQ.out; omega) v
      rw [HNN.out] at hse
      clear hz hzx hbx husm hm
      go_upto_region 8 with (first
        | (have _t := BX1; go_at_call 15; refine (hse _).mono ?_; rintro e w4 ⟨rfl, hb4⟩; have BX2 := Lib.hid (BX1.out.trans (hb4.mono BX1.out.size)); clear hb4)
        | (go_at_call 15; refine (hse _).mono ?_; rintro e w3 ⟨rfl, hb3⟩; have ZX1 := Lib.hid (old_obj hb3 ZX.out); obtain ⟨c0, c1, c2, _, _, _⟩ := three_cells ZX1.out; have BX1 := Lib.hid (BX.out.trans (hb3.mono BX.out.size)); clear hb3))
      have BX := BX2
      have hg2 := H.get s p (by have := HQ.out; omega) HQ.out.2.2.1 HQ.out.2.2.2 w4 (HB.out _ _ HT.out BX.out)
      unfold res10 at hg2
      by_cases q5 : getE10 s.data.toList p = 0
      · obtain ⟨q, n5, hpq, hto, hbl, hwr, hlen, hput⟩ := get_fine10 q5
        rw [q5] at hg2
        have hz := text_size s
        have hup5 := nsec_up n5
        have hp5 := fun v h => H.put (getEp s.data.toList p) (getSq s.data.toList p) (tx (getB s.data.toList p)) (by rw [tx_size, hbl]; have := (wrong_none hwr).2.2; omega) v h
        rw [tx_list, tx_size, hbl, hwr, putL_good (by rw [hbl]; exact hwr), hput] at hp5
        obtain ⟨z, hzq⟩ : ∃ z, q + nsec n5 = z := ⟨_, rfl⟩
        rw [hzq] at hto hlen
        rw [hto] at hg2
        obtain ⟨x0, hx0⟩ : ∃ x0, 64 * q = x0 := ⟨_, rfl⟩
        obtain ⟨x1, hx1⟩ : ∃ x1, 64 * z = x1 := ⟨_, rfl⟩
        have a0 : IntKind.i64.wrap (64 * p) = (x0 : Int) := by rw [show 64 * p = (x0 : Int) by omega]; exact IntWalk.i64_in _ (by have := HQ.out; omega)
        have a1 : IntKind.i64.wrap (64 * (z : Int)) = (x1 : Int) := by rw [show 64 * (z : Int) = (x1 : Int) by omega]; exact IntWalk.i64_in _ (by have := HQ.out; omega)
        have hcut5 := cut_mid s (x0 : Int) (x1 : Int) (by omega) (by omega) (by omega)
        simp only [Int.toNat_natCast] at hcut5
        have hpiece : s.extract x0 x1 = tx ((s.data.toList.drop (64 * q)).take (64 * nsec n5)) := by
          apply tx_of
          rw [cut_list, hx0]
          congr 1
          omega
        rw [hpiece] at hcut5
        have d1 : decide (0 ≤ p) = true := decide_eq_true (by omega)
        have d2 : decide (p < (z : Int)) = true := decide_eq_true (by omega)
        have d3 : decide ((x1 : Int) ≤ (s.size : Int)) = true := decide_eq_true (by omega)
        have d3n : decide (x1 ≤ s.size) = true := decide_eq_true (by omega)
        generalize tx ((s.data.toList.drop (64 * q)).take (64 * nsec n5)) = PU at *
        have d4 : (PU.toList == PU.toList) = true := by simp
        generalize getEp s.data.toList p = E5 at *
        generalize getSq s.data.toList p = Q5 at *
        generalize tx (getB s.data.toList p) = TB at *
        clear hpq hto hbl hwr hlen hput hz hup5 hzq hx0 hx1 hpiece q5
        go_upto_region 11 with (go_at_call 8; refine hg2.mono ?_; rintro e w5 ⟨rfl, hb5⟩; have BY := Lib.hid (BX.out.trans (hb5.mono BX.out.size)); clear hb5)
        have b6 := BY.out.alloc BY.out.size (.cells #[.int .i64 E5, .int .i64 Q5, .string TB] 24)
        have hp6 := hp5 _ (HB.out _ _ HT.out b6)
        obtain ⟨c0, c1, c2, _, _, _⟩ := three_cells (heap_alloc_new w5 (.cells #[.int .i64 E5, .int .i64 Q5, .string TB] 24))
        have B6 := Lib.hid b6
        clear b6 hp5 hg2
        generalize w5.alloc (.cells #[.int .i64 E5, .int .i64 Q5, .string TB] 24) = W6 at *
        go_upto_region 12 with (go_at_call 14; refine hp6.mono ?_; rintro e w7 ⟨rfl, hb7⟩; have B7 := Lib.hid (B6.out.trans (hb7.mono B6.out.size)); clear hb7)
        go_wp2_with (go_at_call 7; refine (HA _ (HB.out _ _ HT.out B7.out)).mono ?_; rintro e w8 ⟨rfl, hb8⟩)
        go_ret
        exact ⟨rfl, B7.out.trans (hb8.mono B7.out.size)⟩
      · obtain ⟨g1, g2, g3, g4⟩ := get_bad10 q5
        rw [g1, g2, g3, g4, show tx [] = ⟨#[]⟩ from rfl] at hg2
        have d5 : (getE10 s.data.toList p != 0) = true := by rw [bne_iff_ne]; exact q5
        generalize getE10 s.data.toList p = ER at *
        clear g1 g2 g3 g4 q5
        go_upto_region 10 with (go_at_call 8; refine hg2.mono ?_; rintro e w5 ⟨rfl, hb5⟩; have BY := Lib.hid (BX.out.trans (hb5.mono BX.out.size)); clear hb5)
        have b6 := BY.out.alloc BY.out.size (.cells #[.int .i64 0, .int .i64 0, .string ⟨#[]⟩] 24)
        obtain ⟨c0, c1, c2, _, _, _⟩ := three_cells (heap_alloc_new w5 (.cells #[.int .i64 0, .int .i64 0, .string ⟨#[]⟩] 24))
        have B6 := Lib.hid b6
        clear b6 hg2
        generalize w5.alloc (.cells #[.int .i64 0, .int .i64 0, .string ⟨#[]⟩] 24) = W6 at *
        go_wp2_with (go_at_call 7; refine (HA _ (HB.out _ _ HT.out B6.out)).mono ?_; rintro e w8 ⟨rfl, hb8⟩)
        go_ret
        exact ⟨rfl, B6.out.trans (hb8.mono B6.out.size)⟩
  · have d4 : (wrong10 E Q t.size == 0) = false := beq_eq_false_iff_ne.2 q4
    generalize tx (putL10 E Q t.data.toList) = u at *
    generalize wrong10 E Q t.size = EW at *
    clear q4
    go_upto_region 8 with fail
    have BX := BW
    have hg2 := H.get s p (by have := HQ.out; omega) HQ.out.2.2.1 HQ.out.2.2.2 w1 (HB.out _ _ HT.out BX.out)
    unfold res10 at hg2
    by_cases q5 : getE10 s.data.toList p = 0
    · obtain ⟨q, n5, hpq, hto, hbl, hwr, hlen, hput⟩ := get_fine10 q5
      rw [q5] at hg2
      have hz := text_size s
      have hup5 := nsec_up n5
      have hp5 := fun v h => H.put (getEp s.data.toList p) (getSq s.data.toList p) (tx (getB s.data.toList p)) (by rw [tx_size, hbl]; have := (wrong_none hwr).2.2; omega) v h
      rw [tx_list, tx_size, hbl, hwr, putL_good (by rw [hbl]; exact hwr), hput] at hp5
      obtain ⟨z, hzq⟩ : ∃ z, q + nsec n5 = z := ⟨_, rfl⟩
      rw [hzq] at hto hlen
      rw [hto] at hg2
      obtain ⟨x0, hx0⟩ : ∃ x0, 64 * q = x0 := ⟨_, rfl⟩
      obtain ⟨x1, hx1⟩ : ∃ x1, 64 * z = x1 := ⟨_, rfl⟩
      have a0 : IntKind.i64.wrap (64 * p) = (x0 : Int) := by rw [show 64 * p = (x0 : Int) by omega]; exact IntWalk.i64_in _ (by have := HQ.out; omega)
      have a1 : IntKind.i64.wrap (64 * (z : Int)) = (x1 : Int) := by rw [show 64 * (z : Int) = (x1 : Int) by omega]; exact IntWalk.i64_in _ (by have := HQ.out; omega)
      have hcut5 := cut_mid s (x0 : Int) (x1 : Int) (by omega) (by omega) (by omega)
      simp only [Int.toNat_natCast] at hcut5
      have hpiece : s.extract x0 x1 = tx ((s.data.toList.drop (64 * q)).take (64 * nsec n5)) := by
        apply tx_of
        rw [cut_list, hx0]
        congr 1
        omega
      rw [hpiece] at hcut5
      have d1 : decide (0 ≤ p) = true := decide_eq_true (by omega)
      have d2 : decide (p < (z : Int)) = true := decide_eq_true (by omega)
      have d3 : decide ((x1 : Int) ≤ (s.size : Int)) = true := decide_eq_true (by omega)
      have d3n : decide (x1 ≤ s.size) = true := decide_eq_true (by omega)
      generalize tx ((s.data.toList.drop (64 * q)).take (64 * nsec n5)) = PU at *
      have d4 : (PU.toList == PU.toList) = true := by simp
      generalize getEp s.data.toList p = E5 at *
      generalize getSq s.data.toList p = Q5 at *
      generalize tx (getB s.data.toList p) = TB at *
      clear hpq hto hbl hwr hlen hput hz hup5 hzq hx0 hx1 hpiece q5
      go_upto_region 11 with (go_at_call 8; refine hg2.mono ?_; rintro e w5 ⟨rfl, hb5⟩; have BY := Lib.hid (BX.out.trans (hb5.mono BX.out.size)); clear hb5)
      have b6 := BY.out.alloc BY.out.size (.cells #[.int .i64 E5, .int .i64 Q5, .string TB] 24)
      have hp6 := hp5 _ (HB.out _ _ HT.out b6)
      obtain ⟨c0, c1, c2, _, _, _⟩ := three_cells (heap_alloc_new w5 (.cells #[.int .i64 E5, .int .i64 Q5, .string TB] 24))
      have B6 := Lib.hid b6
      clear b6 hp5 hg2
      generalize w5.alloc (.cells #[.int .i64 E5, .int .i64 Q5, .string TB] 24) = W6 at *
      go_upto_region 12 with (go_at_call 14; refine hp6.mono ?_; rintro e w7 ⟨rfl, hb7⟩; have B7 := Lib.hid (B6.out.trans (hb7.mono B6.out.size)); clear hb7)
      go_wp2_with (go_at_call 7; refine (HA _ (HB.out _ _ HT.out B7.out)).mono ?_; rintro e w8 ⟨rfl, hb8⟩)
      go_ret
      exact ⟨rfl, B7.out.trans (hb8.mono B7.out.size)⟩
    · obtain ⟨g1, g2, g3, g4⟩ := get_bad10 q5
      rw [g1, g2, g3, g4, show tx [] = ⟨#[]⟩ from rfl] at hg2
      have d5 : (getE10 s.data.toList p != 0) = true := by rw [bne_iff_ne]; exact q5
      generalize getE10 s.data.toList p = ER at *
      clear g1 g2 g3 g4 q5
      go_upto_region 10 with (go_at_call 8; refine hg2.mono ?_; rintro e w5 ⟨rfl, hb5⟩; have BY := Lib.hid (BX.out.trans (hb5.mono BX.out.size)); clear hb5)
      have b6 := BY.out.alloc BY.out.size (.cells #[.int .i64 0, .int .i64 0, .string ⟨#[]⟩] 24)
      obtain ⟨c0, c1, c2, _, _, _⟩ := three_cells (heap_alloc_new w5 (.cells #[.int .i64 0, .int .i64 0, .string ⟨#[]⟩] 24))
      have B6 := Lib.hid b6
      clear b6 hg2
      generalize w5.alloc (.cells #[.int .i64 0, .int .i64 0, .string ⟨#[]⟩] 24) = W6 at *
      go_wp2_with (go_at_call 7; refine (HA _ (HB.out _ _ HT.out B6.out)).mono ?_; rintro e w8 ⟨rfl, hb8⟩)
      go_ret
      exact ⟨rfl, B6.out.trans (hb8.mono B6.out.size)⟩
end Go.Proofs.YtpjahfobjnajcaaDoor
