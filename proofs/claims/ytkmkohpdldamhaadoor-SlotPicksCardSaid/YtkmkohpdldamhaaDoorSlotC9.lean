/- The program's Put, Choose and Next: with Sectors and Get all that layer 9's walks want of it. -/
import Derived.Test.YtkmkohpdldamhaaDoorSlotB9
import Derived.Test.YtkmkohpdldamhaaDoorWake9
import Derived.Test.YtkmkohpdldamhaaDoorBack9
namespace Go.Proofs.YtkmkohpdldamhaaDoor
open Go.RowKit

theorem rep_any (c : Nat) (hc : c ≤ 4096) (W : World) :
    Calls Tryd.prog 19 #[.string ⟨#[0]⟩, .int .i64 c] W fun e w' => e = .returned (.string ⟨(List.replicate c (0 : UInt8)).toArray⟩) ∧ Below W.heap.size W w' := by
  have h1 : (⟨#[0]⟩ : ByteArray).size * c ≤ 140737488355328 := by
    have : (⟨#[0]⟩ : ByteArray).size * c = c := Nat.one_mul c
    omega
  have h := Tryd.strings_Repeat ⟨#[0]⟩ c W (by omega) h1
  rw [show (⟨#[0]⟩ : ByteArray).data.toList = [0] from rfl, rep_nul] at h
  exact h
theorem out_put (g : Int) (t : ByteArray) : outE9 g t.size = putE9 g t.data.toList := by
  unfold outE9 putE9; rw [text_size]
set_option maxRecDepth 100000 in
set_option maxHeartbeats 1000000 in
theorem pput9_any (g : Int) (t : ByteArray) (hg : g ≤ 9223372036854775807) (hs : t.size ≤ 281474976710656) (w : World) (hT : Tab w) :
    Calls Tryd.prog 12 #[.agg #[.int .i64 g, .string t]] w fun e w' => ∃ u : ByteArray, e = .returned (.tuple #[.string u, .int .i64 (putE9 g t.data.toList)]) ∧ Hid (u.data.toList = putL9 g t.data.toList) ∧ Below w.heap.size w w' := by
  have hN := heap_alloc_new w (.cells #[.int .i64 g, .string t] 24 (0, 0))
  have hB : Below w.heap.size w (w.alloc (.cells #[.int .i64 g, .string t] 24 (0, 0))) := (Below.refl _ w).alloc (Nat.le_refl _) _
  have HO := Lib.hid (outside_any g t.size)
  rw [out_put] at HO
  by_cases q1 : putE9 g t.data.toList ≠ 0
  · have e1 : (putE9 g t.data.toList != 0) = true := by simpa using q1
    have hL : putL9 g t.data.toList = [] := by unfold putL9; rw [if_neg q1]
    have HL := Lib.hid hL
    have HB := Lib.hid hB
    clear q1 hL hB hN
    go_enter Tryd.func12, Tryd.ntmps12
    go_wp2_with (go_at_call 16; refine (HO.out _).mono ?_; rintro e w3 ⟨rfl, rfl⟩)
    go_ret2
    exact ⟨⟨#[]⟩, rfl, Lib.hid HL.out.symm, HB.out⟩
  have q1 := Decidable.not_not.1 q1
  have hL : putL9 g t.data.toList = put9 g t.data.toList := by unfold putL9; rw [if_pos q1]
  have hgt : (1 ≤ g ∧ g ≤ 1000000000) ∧ t.size ≤ 100000 := by
    have h := q1
    unfold putE9 at h
    rw [text_size] at h
    split at h
    · split at h
      · omega
      · omega
    · omega
  obtain ⟨p1, p2⟩ := be_putL g 8 (by unfold wideW; omega) (by omega) (by omega)
  obtain ⟨p3, p4⟩ := be_putL (t.size : Int) 4 (by unfold wideW; omega) (by omega) (by omega)
  have hp8 := fun W => oput_any g 8 (by omega) W
  have hp4 := fun W => oput_any (t.size : Int) 4 (by omega) W
  rw [show ((8 : Nat) : Int) = 8 from rfl] at p1 p2
  rw [show ((4 : Nat) : Int) = 4 from rfl] at p3 p4
  rw [Int.toNat_natCast] at p4
  rw [p1, p2] at hp8
  rw [p3, p4] at hp4
  rw [q1] at HO ⊢
  obtain ⟨W, hW⟩ : ∃ W, W = w.alloc (.cells #[.int .i64 g, .string t] 24 (0, 0)) := ⟨_, rfl⟩
  rw [← hW] at hN hB
  go_enter Tryd.func12, Tryd.ntmps12
  go_upto_region 1 with fail
  rw [← hW]
  clear hW
  obtain ⟨c0, c1, _, _⟩ := two_cells9 hN
  go_upto_region 4 with (go_at_call 16; refine (HO.out _).mono ?_; rintro e w3 ⟨rfl, rfl⟩)
  go_upto_region 5 with (go_at_call 17; refine (hp8 _).mono ?_; rintro e w4 ⟨a, rfl, ha, hb4⟩)
  obtain ⟨c0, c1, _, _⟩ := two_cells9 (old_obj hb4 hN)
  have hN4 := old_obj hb4 hN
  have hB4 := hB.trans (hb4.mono hB.size)
  have a8 : a.size = 8 := by rw [← text_size, ha.out, be_len]
  go_upto_region 6 with (go_at_call 17; refine (hp4 _).mono ?_; rintro e w5 ⟨b, rfl, hb, hb5⟩)
  have hN5 := old_obj hb5 hN4
  have hB5 := hB4.trans (hb5.mono hB4.size)
  have b4 : b.size = 4 := by rw [← text_size, hb.out, be_len]
  obtain ⟨c0, c1, _, _⟩ := two_cells9 hN5
  have i1 : ¬ (9223372036854775807 < a.size + b.size) := by omega
  have i2 : ¬ (9223372036854775807 < (a ++ b).size + t.size) := by rw [ByteArray.size_append]; omega
  obtain ⟨K, hK⟩ : ∃ K, a ++ b ++ t = K := ⟨_, rfl⟩
  have hKl : K.data.toList = body9 g t.data.toList := by
    rw [← hK, ByteArray.data_append, ByteArray.data_append, Array.toList_append, Array.toList_append, ha.out, hb.out, List.append_assoc]
    unfold body9
    rw [text_size]
  have hKs : K.size = t.size + 12 := by rw [← text_size, hKl, body_len, text_size]
  have hse := fun W h => cseal_any K (by omega) W h
  have hT5 := hT.below hB5
  obtain ⟨S, hS⟩ : ∃ S, K ++ fourT (ofN K.data.toList) = S := ⟨_, rfl⟩
  have hSl : S.data.toList = sealL (body9 g t.data.toList) := by rw [← hS, cat_four, hKl]; rfl
  have hSs : S.size = t.size + 16 := by rw [← text_size, hSl, seal_len9, body_len, text_size]
  rw [hS] at hse
  have HSe := Lib.hid (hse w5 hT5)
  have HK := Lib.hid hK
  have HHB := Lib.hid hB5
  have HN5 := Lib.hid hN5
  have HT5 := Lib.hid hT5
  have HSl := Lib.hid hSl
  have HQ := Lib.hid q1
  clear hse hS hKl ha hb hb4 hb5 hN hN4 hN5 hB hB4 hB5 hT hT5 hp8 hp4 HO p1 p2 p3 p4 hSl q1
  go_upto_region 7 with (go_at_call 18; first | rw [HK.out] | skip; refine HSe.out.mono ?_; rintro e w6 ⟨rfl, hb6⟩)
  have HN6 := Lib.hid (old_obj hb6 HN5.out)
  have HB6 := Lib.hid (HHB.out.trans (hb6.mono HHB.out.size))
  clear hb6 HSe HN5 HHB HT5
  obtain ⟨c0, c1, _, _⟩ := two_cells9 HN6.out
  have hsc := fun W => sects_any t (by omega) W
  have hup := sect_up t.size
  obtain ⟨m, hm⟩ : ∃ m, 64 * sect9 t.size = m := ⟨_, rfl⟩
  rw [hm] at hup
  obtain ⟨c, hc⟩ : ∃ c, m - (t.size + 16) = c := ⟨_, rfl⟩
  have i3 : IntKind.i64.wrap (((sect9 t.size : Nat) : Int) * 64) = (m : Int) := by rw [show ((sect9 t.size : Nat) : Int) * 64 = m by omega]; exact IntWalk.i64_in _ (by omega)
  have i4 : IntKind.i64.wrap ((m : Int) - (S.size : Int)) = (c : Int) := by rw [show (m : Int) - (S.size : Int) = c by omega]; exact IntWalk.i64_in _ (by omega)
  have hre := fun W => rep_any c (by omega) W
  obtain ⟨R, hR⟩ : ∃ R, (⟨(List.replicate c (0 : UInt8)).toArray⟩ : ByteArray) = R := ⟨_, rfl⟩
  rw [hR] at hre
  have hRl : R.data.toList = List.replicate c 0 := by rw [← hR]
  have hRs : R.size = c := by rw [← text_size, hRl, List.length_replicate]
  have i5 : ¬ (9223372036854775807 < S.size + R.size) := by omega
  have hfin : (S ++ R).data.toList = put9 g t.data.toList := by
    rw [ByteArray.data_append, Array.toList_append, HSl.out, hRl]
    unfold put9
    rw [text_size, hm, hc]
  have HF := Lib.hid (hfin.trans hL.symm)
  clear hRl hR hfin HSl hm hc hup hL hRs hSs hKs i1 i2 a8 b4
  go_wp2_with (first
    | (go_at_call 14; refine (hsc _).mono ?_; rintro e w7 ⟨rfl, rfl⟩)
    | (go_at_call 19; refine (hre _).mono ?_; rintro e w8 ⟨rfl, hb8⟩))
  go_ret2
  exact ⟨_, rfl, HF, HB6.out.trans (hb8.mono HB6.out.size)⟩

theorem gen_least {l : List UInt8} : (getE9 l = 0 → 1 ≤ getG9 l) ∧ (getE9 l ≠ 0 → getG9 l = 0) := by
  refine ⟨fun h => ?_, fun h => (bad9 h).1⟩
  have h1 := (get_parts h).2.2.1
  unfold getG9
  rw [if_pos h]
  omega
/-- Which of two counts, by the generations alone. -/
theorem pick_gen (a b : List UInt8) : pickI a b = if getG9 a < getG9 b then 1 else if getG9 a = 0 then -1 else 0 := by
  have ha := @gen_least a
  have hb := @gen_least b
  rcases pick_cases a b with ⟨h, h1, h2⟩ | ⟨h, h1, h2⟩ | ⟨h, h1, h2⟩
  · rw [h, if_neg (by rw [ha.2 h1, hb.2 h2]; omega), if_pos (ha.2 h1)]
  · have := ha.1 h1
    rw [h, if_neg (by
      rcases h2 with h2 | h2
      · rw [hb.2 h2]; omega
      · omega), if_neg (by omega)]
  · have := hb.1 h1
    rw [h, if_pos (by
      rcases h2 with h2 | h2
      · rw [ha.2 h2]; omega
      · omega)]

/-- Behind k rounds: the result's block, and both snapshots, of which the first k were taken. -/
structure Held9 (w : World) (a b : List UInt8) (k : Nat) (ta tb : ByteArray) (ga gb : Int) (W : World) : Prop where
  old : Below w.heap.size w W
  res : W.heap[w.heap.size]? = some (.cells #[.int .i64 0, .string ⟨#[]⟩] 24 (0, 0))
  arr : W.heap[w.heap.size + 1]? = some (.cells #[.int .i64 ga, .string ta, .int .i64 gb, .string tb] 43 (0, 0))
  one : 0 < k → ga = getG9 a ∧ ta.data.toList = getT9 a
  two : 1 < k → gb = getG9 b ∧ tb.data.toList = getT9 b
theorem four_cells9 {w : World} {g : Nat} {x y z u : Value} {t : TypeId} (h : w.heap[g]? = some (.cells #[x, y, z, u] t (0, 0))) :
    (w.cell? ⟨g, 0, none⟩ = some x ∧ w.cell? ⟨g, 1, none⟩ = some y ∧ w.cell? ⟨g, 2, none⟩ = some z ∧ w.cell? ⟨g, 3, none⟩ = some u) ∧ w.frozen? ⟨g, 0, none⟩ = false ∧ w.frozen? ⟨g, 1, none⟩ = false ∧ w.frozen? ⟨g, 2, none⟩ = false ∧ w.frozen? ⟨g, 3, none⟩ = false :=
  ⟨⟨cell_of (j := 0) h rfl, cell_of (j := 1) h rfl, cell_of (j := 2) h rfl, cell_of (j := 3) h rfl⟩, frozen_of_row w g 0 _ _ h, frozen_of_row w g 1 _ _ h, frozen_of_row w g 2 _ _ h, frozen_of_row w g 3 _ _ h⟩
theorem Held9.on {w W W1 : World} {a b : List UInt8} {k : Nat} {ta tb : ByteArray} {ga gb : Int} (h : Held9 w a b k ta tb ga gb W) (hb : Below W.heap.size W W1) : Held9 w a b k ta tb ga gb W1 :=
  ⟨h.old.trans (hb.mono h.old.size), old_obj hb h.res, old_obj hb h.arr, h.one, h.two⟩
theorem heap_set_off (w : World) (g o k : Nat) (v : Value) (h : k ≠ g) : (w.setCell ⟨g, o, none⟩ v).heap[k]? = w.heap[k]? := by
  simp [World.setCell, Array.getElem?_modify, Ne.symm h]
theorem Held9.first {w W : World} {a b : List UInt8} {ta tb t : ByteArray} {ga gb : Int} (h : Held9 w a b 0 ta tb ga gb W) (ht : t.data.toList = getT9 a) :
    Held9 w a b 1 t tb (getG9 a) gb ((W.setCell ⟨w.heap.size + 1, 0, none⟩ (.int .i64 (getG9 a))).setCell ⟨w.heap.size + 1, 1, none⟩ (.string t)) :=
  ⟨two_below9 h.old (by omega) _ _, by rw [heap_set_off _ _ _ _ _ (by omega), heap_set_off _ _ _ _ _ (by omega)]; exact h.res,
    by
      have h0 := heap_setCell_same W (w.heap.size + 1) 0 _ _ (.int .i64 (getG9 a)) h.arr
      exact heap_setCell_same _ (w.heap.size + 1) 1 _ _ (.string t) h0, fun _ => ⟨rfl, ht⟩, fun h => absurd h (by omega)⟩
theorem Held9.second {w W : World} {a b : List UInt8} {ta tb t : ByteArray} {ga gb : Int} (h : Held9 w a b 1 ta tb ga gb W) (ht : t.data.toList = getT9 b) :
    Held9 w a b 2 ta t ga (getG9 b) ((W.setCell ⟨w.heap.size + 1, 2, none⟩ (.int .i64 (getG9 b))).setCell ⟨w.heap.size + 1, 3, none⟩ (.string t)) :=
  ⟨(h.old.setCell (p := ⟨w.heap.size + 1, 2, none⟩) (by simp) _).setCell (p := ⟨w.heap.size + 1, 3, none⟩) (by simp) _, by rw [heap_set_off _ _ _ _ _ (by omega), heap_set_off _ _ _ _ _ (by omega)]; exact h.res,
    by
      have h0 := heap_setCell_same W (w.heap.size + 1) 2 _ _ (.int .i64 (getG9 b)) h.arr
      exact heap_setCell_same _ (w.heap.size + 1) 3 _ _ (.string t) h0, fun _ => h.one (by omega), fun _ => ⟨rfl, ht⟩⟩

theorem pair_index0 (a b : ByteArray) (W : World) : (Instr.index 41 (.agg #[.string a, .string b]) (.int .i64 0)).run Tryd.prog W = .ok (.string a) W := by kernel_rfl
theorem pair_index1 (a b : ByteArray) (W : World) : (Instr.index 41 (.agg #[.string a, .string b]) (.int .i64 1)).run Tryd.prog W = .ok (.string b) W := by kernel_rfl
set_option maxRecDepth 100000 in
set_option maxHeartbeats 1000000 in
theorem pchoose9_any (a b : ByteArray) (ha : a.size ≤ 281474976710656) (hb : b.size ≤ 281474976710656) (w : World) (hT : Tab w) :
    Calls Tryd.prog 7 #[.string a, .string b] w fun e w' => ∃ t : ByteArray, e = .returned (.tuple #[.agg #[.int .i64 (pickG a.data.toList b.data.toList), .string t], .int .i64 (pickI a.data.toList b.data.toList)]) ∧ Hid (t.data.toList = pickT a.data.toList b.data.toList) ∧ Below w.heap.size w w' := by
  have HGA : Hid (∀ v, Tab v → Calls Tryd.prog 13 #[.string a] v fun e w' => ∃ t : ByteArray, e = .returned (.tuple #[.agg #[.int .i64 (getG9 a.data.toList), .string t], .int .i64 (getE9 a.data.toList)]) ∧ Hid (t.data.toList = getT9 a.data.toList) ∧ Below v.heap.size v w') := Lib.hid fun v h => pget9_any a ha v h
  have HGB : Hid (∀ v, Tab v → Calls Tryd.prog 13 #[.string b] v fun e w' => ∃ t : ByteArray, e = .returned (.tuple #[.agg #[.int .i64 (getG9 b.data.toList), .string t], .int .i64 (getE9 b.data.toList)]) ∧ Hid (t.data.toList = getT9 b.data.toList) ∧ Below v.heap.size v w') := Lib.hid fun v h => pget9_any b hb v h
  have HT := Lib.hid hT
  clear hT
  obtain ⟨W, hW⟩ : ∃ W, W = ((w.alloc (.cells #[.int .i64 0, .string ⟨#[]⟩] 24 (0, 0))).alloc (.cells #[.int .i64 0, .string ⟨#[]⟩, .int .i64 0, .string ⟨#[]⟩] 43 (0, 0))) := ⟨_, rfl⟩
  have H0 : Hid (Held9 w a.data.toList b.data.toList 0 ⟨#[]⟩ ⟨#[]⟩ 0 0 W) := Lib.hid (by
    rw [hW]
    exact ⟨((Below.refl _ w).alloc (Nat.le_refl _) _).alloc (by simp) _, heap_alloc2_old _ _ _, heap_alloc2_new _ _ _, fun h => absurd h (by omega), fun h => absurd h (by omega)⟩)
  go_enter Tryd.func7, Tryd.ntmps7
  go_upto_region 2 with fail
  rw [← hW]
  clear hW
  go_wp2
  go_loopw [13] (fun i' wr => ∃ k : Nat, i' = .int .i64 k ∧ k ≤ 2 ∧ ∃ ta tb ga gb, Hid (Held9 w a.data.toList b.data.toList k ta tb ga gb wr)) (fun i _ => 2 - (intOf i).toNat)
  case atStart => exact ⟨0, rfl, by omega, _, _, _, _, H0⟩
  case round =>
    clear H0
    obtain ⟨k, rfl, hk, ta, tb, ga, gb, hH⟩ := hrel
    obtain ⟨⟨c0, c1, c2, c3⟩, f0, f1, f2, f3⟩ := four_cells9 hH.out.arr
    have x0 := pair_index0 a b
    have x1 := pair_index1 a b
    rcases (by omega : k = 0 ∨ k = 1 ∨ k = 2) with rfl | rfl | rfl
    · go_wp2_with (go_at_call 13; refine (HGA.out _ (HT.out.below hH.out.old)).mono ?_; rintro e w1 ⟨t, rfl, ht, hb1⟩; have hH1 := Lib.hid (hH.out.on hb1); clear hH hb1 c0 c1 c2 c3 f0 f1 f2 f3; obtain ⟨⟨c0, c1, c2, c3⟩, f0, f1, f2, f3⟩ := four_cells9 hH1.out.arr)
      go_roundw
      case rel => exact ⟨1, by go_num, by omega, _, _, _, _, Lib.hid (hH1.out.first ht.out)⟩
      case measure => simp [intOf]
    · go_wp2_with (go_at_call 13; refine (HGB.out _ (HT.out.below hH.out.old)).mono ?_; rintro e w1 ⟨t, rfl, ht, hb1⟩; have hH1 := Lib.hid (hH.out.on hb1); clear hH hb1 c0 c1 c2 c3 f0 f1 f2 f3; obtain ⟨⟨c0, c1, c2, c3⟩, f0, f1, f2, f3⟩ := four_cells9 hH1.out.arr)
      go_roundw
      case rel => exact ⟨2, by go_num, by omega, _, _, _, _, Lib.hid (hH1.out.second ht.out)⟩
      case measure => simp [intOf]
    · clear HGA HGB HT
      obtain ⟨rfl, h1⟩ := hH.out.one (by omega)
      obtain ⟨rfl, h2⟩ := hH.out.two (by omega)
      have r0 := hH.out.res
      obtain ⟨d0, d1, g0, g1⟩ := two_cells9 r0
      have HO := Lib.hid hH.out.old
      have R0 := Lib.hid r0
      have H1 := Lib.hid h1
      have H2 := Lib.hid h2
      have hp := pick_gen a.data.toList b.data.toList
      have hpg : pickG a.data.toList b.data.toList = if pickI a.data.toList b.data.toList = -1 then 0 else if pickI a.data.toList b.data.toList = 0 then getG9 a.data.toList else getG9 b.data.toList := rfl
      have hpt : pickT a.data.toList b.data.toList = if pickI a.data.toList b.data.toList = -1 then [] else if pickI a.data.toList b.data.toList = 0 then getT9 a.data.toList else getT9 b.data.toList := rfl
      clear hH h1 h2 r0
      by_cases q1 : getG9 a.data.toList < getG9 b.data.toList
      · have e1 : decide (getG9 a.data.toList < getG9 b.data.toList) = true := decide_eq_true q1
        rw [if_pos q1] at hp
        rw [hp, if_neg (by omega), if_neg (by omega)] at hpg hpt
        have e2 : (getG9 b.data.toList == 0) = false := by
          have : 0 ≤ getG9 a.data.toList := by unfold getG9; split <;> omega
          rw [beq_eq_false_iff_ne]; omega
        have HP := Lib.hid hp
        have HPG := Lib.hid hpg
        have HPT := Lib.hid hpt
        clear hp hpg hpt q1
        go_wp2
        refine bodyPost_ret (results_row_slot rfl _ _ w.heap.size _ rfl (psnap_load (two_stored9 R0.out _ _))) rfl ?_
        refine ⟨tb, by rw [HP.out, HPG.out]; rfl, Lib.hid (by rw [HPT.out]; exact H2.out), two_below9 HO.out (by omega) _ _⟩
      · have e1 : decide (getG9 a.data.toList < getG9 b.data.toList) = false := decide_eq_false q1
        rw [if_neg q1] at hp
        by_cases q2 : getG9 a.data.toList = 0
        · have e2 : (getG9 a.data.toList == 0) = true := beq_iff_eq.2 q2
          rw [if_pos q2] at hp
          rw [hp, if_pos rfl] at hpg hpt
          have HP := Lib.hid hp
          have HPG := Lib.hid hpg
          have HPT := Lib.hid hpt
          clear hp hpg hpt q1 q2
          go_wp2
          refine bodyPost_ret (results_row_slot rfl _ _ w.heap.size _ rfl (psnap_load (two_stored9 R0.out _ _))) rfl ?_
          refine ⟨⟨#[]⟩, by rw [HP.out, HPG.out]; rfl, Lib.hid (by rw [HPT.out]), two_below9 HO.out (by omega) _ _⟩
        · have e2 : (getG9 a.data.toList == 0) = false := beq_eq_false_iff_ne.2 q2
          rw [if_neg q2] at hp
          rw [hp, if_neg (by omega), if_pos rfl] at hpg hpt
          have HP := Lib.hid hp
          have HPG := Lib.hid hpg
          have HPT := Lib.hid hpt
          clear hp hpg hpt q1 q2
          go_wp2
          refine bodyPost_ret (results_row_slot rfl _ _ w.heap.size _ rfl (psnap_load (two_stored9 R0.out _ _))) rfl ?_
          refine ⟨ta, by rw [HP.out, HPG.out]; rfl, Lib.hid (by rw [HPT.out]; exact H1.out), two_below9 HO.out (by omega) _ _⟩
theorem pick_span (a b : List UInt8) : (pickI a b = -1 ∧ pickG a b = 0) ∨ ((pickI a b = 0 ∨ pickI a b = 1) ∧ 1 ≤ pickG a b ∧ pickG a b ≤ 1000000000) := by
  have hr : ∀ l, getE9 l = 0 → 1 ≤ getG9 l ∧ getG9 l ≤ 1000000000 := fun l h => by
    have h1 := (get_parts h).2.2.1
    unfold getG9
    rw [if_pos h]
    omega
  unfold pickG
  rcases pick_cases a b with ⟨h, h1, h2⟩ | ⟨h, h1, h2⟩ | ⟨h, h1, h2⟩
  · exact Or.inl ⟨h, by rw [h]; rfl⟩
  · exact Or.inr ⟨Or.inl h, by rw [h]; exact hr _ h1⟩
  · exact Or.inr ⟨Or.inr h, by rw [h]; exact hr _ h1⟩
set_option maxHeartbeats 1000000 in
theorem pnext9_any (a b : ByteArray) (ha : a.size ≤ 281474976710656) (hb : b.size ≤ 281474976710656) (w : World) (hT : Tab w) :
    Calls Tryd.prog 9 #[.string a, .string b] w fun e w' => e = .returned (.tuple #[.int .i64 (nextG a.data.toList b.data.toList), .int .i64 (nextS a.data.toList b.data.toList)]) ∧ Below w.heap.size w w' := by
  have hc := pchoose9_any a b ha hb w hT
  have hG : nextG a.data.toList b.data.toList = if pickI a.data.toList b.data.toList = -1 then 1 else if pickG a.data.toList b.data.toList = 1000000000 then 0 else pickG a.data.toList b.data.toList + 1 := rfl
  have hS : nextS a.data.toList b.data.toList = if pickI a.data.toList b.data.toList = -1 then 0 else 1 - pickI a.data.toList b.data.toList := rfl
  have hr := pick_span a.data.toList b.data.toList
  generalize nextG a.data.toList b.data.toList = NG at *
  generalize nextS a.data.toList b.data.toList = NS at *
  generalize pickI a.data.toList b.data.toList = PI at *
  generalize pickG a.data.toList b.data.toList = PG at *
  generalize pickT a.data.toList b.data.toList = PT at *
  clear hT ha hb
  go_enter Tryd.func9, Tryd.ntmps9
  go_upto_region 2 with (go_at_call 7; refine hc.mono ?_; rintro e w1 ⟨t, rfl, ht, hb1⟩)
  have hB : Below w.heap.size w (w1.alloc (.cells #[.int .i64 PG, .string t] 24 (0, 0))) := hb1.alloc hb1.size _
  clear hc ht hb1
  have HB := Lib.hid hB
  clear hB
  rcases hr with ⟨h1, h2⟩ | ⟨h1, h2, h3⟩
  · subst h1 h2
    rw [if_pos rfl] at hG hS
    subst hG hS
    go_wp2
    go_ret2
    exact ⟨rfl, HB.out⟩
  · have d1 : decide (PI < 0) = false := decide_eq_false (by omega)
    have i1 : IntKind.i64.wrap (1 - PI) = 1 - PI := IntWalk.i64_in _ (by omega)
    have i2 : IntKind.i64.wrap (PG + 1) = PG + 1 := IntWalk.i64_in _ (by omega)
    rw [if_neg (by omega)] at hG hS
    by_cases q : PG = 1000000000
    · have d2 : (PG == 1000000000) = true := beq_iff_eq.2 q
      rw [if_pos q] at hG
      subst hG hS
      clear h1 h2 h3 q
      go_wp2
      go_ret2
      exact ⟨rfl, HB.out⟩
    · have d2 : (PG == 1000000000) = false := beq_eq_false_iff_ne.2 q
      rw [if_neg q] at hG
      subst hG hS
      clear h1 h2 h3 q
      go_wp2
      go_ret2
      exact ⟨rfl, HB.out⟩

/-- The program's slot does all that layer 9's walks want of it. -/
theorem slot9 : Slot9 Tab where
  below := fun h hb => h.below hb
  sect := fun t ht w => (sects_any t ht w).mono fun e w' h => ⟨h.1, by rw [← h.2]; exact Below.refl _ _⟩
  put := fun g t hg ht w hT => pput9_any g t hg ht w hT
  get := fun s hs w hT => pget9_any s hs w hT
  choose := fun a b ha hb w hT => pchoose9_any a b ha hb w hT
  next := fun a b ha hb w hT => pnext9_any a b ha hb w hT
theorem slotPicks_walk (w : World) (tab : Tab w) (a : ByteArray) (_ : a.size ≤ maxLen) (b : ByteArray) (_ : b.size ≤ maxLen) :
    Calls Tryd.prog 3 #[.string a, .string b] w fun e w' => e = .returned (.bool true) ∧ Below w.heap.size w w' :=
  slotPicks_walk9 slot9 (wakes9 slot9) w tab a b
theorem slotBack_walk (w : World) (tab : Tab w) (g : Int) (hg : (Lit.int .i64 g).wf = true) (t : ByteArray) (_ : t.size ≤ maxLen) (s : ByteArray) (_ : s.size ≤ maxLen) :
    Calls Tryd.prog 4 #[.int .i64 g, .string t, .string s] w fun e w' => e = .returned (.bool true) ∧ Below w.heap.size w w' :=
  slotBack_walk9 slot9 (wakes9 slot9) w tab g hg t s
theorem slotChoose_walk (w : World) (tab : Tab w) (a : ByteArray) (_ : a.size ≤ maxLen) (b : ByteArray) (_ : b.size ≤ maxLen) (t : ByteArray) (_ : t.size ≤ maxLen) :
    Calls Tryd.prog 5 #[.string a, .string b, .string t] w fun e w' => e = .returned (.bool true) ∧ Below w.heap.size w w' :=
  slotChoose_walk9 slot9 (wakes9 slot9) w tab a b t
end Go.Proofs.YtkmkohpdldamhaaDoor
