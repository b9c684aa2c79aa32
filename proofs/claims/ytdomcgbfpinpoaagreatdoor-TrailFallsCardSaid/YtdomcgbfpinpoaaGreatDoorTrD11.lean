/- The program's Wipe where the law asks it, and the law's probes of trail: they come out true in every world in which the table lies. -/
import Derived.Test.YtdomcgbfpinpoaaGreatDoorMApp11
import Derived.Test.YtdomcgbfpinpoaaGreatDoorTrC11
namespace Go.Proofs.YtdomcgbfpinpoaaGreatDoor
open Go.RowKit Go.Maps

abbrev zeros11 : ByteArray := tx (List.replicate 64 0)
theorem zeros_size : zeros11.size = 64 := by rw [tx_size, List.length_replicate]
set_option maxRecDepth 100000 in
set_option maxHeartbeats 2000000 in
theorem ptwipe_here {w : World} {b g cap m : Nat} {d : Dv} (h : PDev w b g cap m d) (hd : d.Ok) (ho : d.ops < 9223372036854700000) (hA : areaE d.cells.length 2 2 = 0) :
    Calls Tryz.prog 19 #[.pointer (some ⟨b, 0, none⟩), .agg #[.int .i64 2, .int .i64 2], .int .i64 1, .int .i64 5] w fun e w' => e = .returned (.int .i64 (d.lastingE 3 zeros11)) ∧ PDev w' b g cap m (d.lasting 3 zeros11) ∧ But b g m w w' := by
  obtain ⟨W, hW⟩ : ∃ W, W = w.alloc (.cells #[.int .i64 2, .int .i64 2] 35 (0, 0)) := ⟨_, rfl⟩
  have b0 : Below w.heap.size w W := by rw [hW]; exact (Below.refl _ w).alloc (Nat.le_refl _) _
  have z0 : W.heap[w.heap.size]? = some (.cells #[.int .i64 2, .int .i64 2] 35 (0, 0)) := by rw [hW]; exact heap_alloc_new w _
  have hck := ptcheck_any (h.step b0) hd 2 2 (by omega)
  rw [hA] at hck
  have hre := fun v => preach_any 2 2 1 v
  rw [show decide ((0 : Int) ≤ 1 ∧ (1 : Int) ≤ 2) = true from rfl] at hre
  have hrp := fun v => rep0_any 64 (by omega) v
  have hst := fun v (hv : PDev v b g cap m d) => pstore_any hv hd (by omega) 3 zeros11 (by rw [zeros_size]; omega) (app_write_ops hd ho _ _)
  rw [show ((64 : Nat) : Int) = 64 from rfl] at hrp
  have HP := Lib.hid (h.step b0)
  have B0 := Lib.hid (But.of_below (b := b) (g := g) (m := m) b0)
  have Z0 := Lib.hid z0
  obtain ⟨c0, c1⟩ := two_cells11 z0
  generalize d.lastingE 3 zeros11 = E at *
  generalize d.lasting 3 zeros11 = D at *
  obtain ⟨X, hX⟩ : ∃ X, zeros11 = X := ⟨_, rfl⟩
  rw [show tx (List.replicate 64 0) = zeros11 from rfl, hX] at hrp
  simp only [hX] at hst
  clear hX hA h hd ho b0 z0
  go_enter Tryz.func19, Tryz.ntmps19
  go_upto_region 1 with fail
  rw [← hW]
  clear hW
  go_upto_region 4 with (go_at_call 20; refine hck.mono ?_; rintro e w1 ⟨rfl, hb1⟩; have B1 := Lib.hid hb1; clear hb1)
  have HP1 := Lib.hid (HP.out.step B1.out)
  have Z01 := Lib.hid (old_obj B1.out Z0.out)
  have HB1 := Lib.hid (B0.out.step B1.out)
  clear hck c0 c1 HP Z0 B0 B1
  obtain ⟨c0, c1⟩ := two_cells11 Z01.out
  go_upto_region 6 with (go_at_call 41; refine (hre _).mono ?_; rintro e w2 ⟨rfl, hb2⟩; have B2 := Lib.hid hb2; clear hb2)
  have HP2 := Lib.hid (HP1.out.step B2.out)
  have Z02 := Lib.hid (old_obj B2.out Z01.out)
  have HB2 := Lib.hid (HB1.out.step B2.out)
  clear hre c0 c1 HP1 Z01 HB1 B2
  obtain ⟨c0, c1⟩ := two_cells11 Z02.out
  go_upto_region 9 with fail
  go_region_with (first
    | (go_at_call 42; refine (hrp _).mono ?_; rintro e w3 ⟨rfl, hb3⟩; have B3 := Lib.hid hb3; clear hb3; have c0' := cell_of (j := 0) (old_obj B3.out (show (w2.drew).heap[w.heap.size]? = _ from Z02.out)) rfl)
    | (go_at_call 34; refine (hst _ (HP2.out.drew.step B3.out)).mono ?_; rintro e w4 ⟨rfl, hp4, hb4⟩; have HP4 := Lib.hid hp4; have HB4 := Lib.hid hb4; clear hp4 hb4))
  all_goals
    go_wp2
    go_ret
    exact ⟨rfl, HP4.out, (HB2.out.drew.step B3.out).trans HB4.out⟩

abbrev youL : List UInt8 := [121, 111, 117]
abbrev hi11 : List UInt8 := [104, 105]
/-- The probes' device. -/
def AwK (d : Dv) (l : List (List UInt8)) : Prop := Still d 5 (List.replicate 128 0 ++ (framesL 1 0 l ++ List.replicate (64 * (3 - sumN l)) 0))
theorem awk_new : AwK (Dv.new 5) [] := by
  have h := still_new 5
  unfold AwK
  rw [show List.replicate (64 * 5) (0 : UInt8) = List.replicate 128 0 ++ (framesL 1 0 [] ++ List.replicate (64 * (3 - sumN [])) 0) by
    rw [show framesL 1 0 [] = [] from rfl, List.nil_append, show sumN [] = 0 from rfl, List.replicate_append_replicate]] at h
  exact h
theorem area_awk : areaE 5 (2 : Nat) (2 : Nat) = 0 := by decide
theorem awk_app {d : Dv} {l : List (List UInt8)} (h : AwK d l) (b : List UInt8) (hw : wrong10 1 ((l.length : Int) + 1) b.length = 0) (hs : sumN l + nsec b.length ≤ 2) :
    d.appE 2 2 (sumN l : Nat) 1 ((l.length : Int) + 1) b = 0 ∧ d.appTo 2 2 (sumN l : Nat) 1 ((l.length : Int) + 1) b = ((sumN l + nsec b.length : Nat) : Int) ∧ AwK (d.app 2 2 (sumN l : Nat) 1 ((l.length : Int) + 1) b) (l ++ [b]) := by
  obtain ⟨a1, a2, a3⟩ := Still.app h 2 2 (sumN l) 1 ((l.length : Int) + 1) b area_awk hw hs
  refine ⟨a1, a2, ?_⟩
  unfold AwK
  rw [keeps_step 1 (List.replicate 128 0) _ 2 l b (by rw [List.length_replicate]), List.drop_replicate] at a3
  rw [sumN_snoc, show 64 * (3 - (sumN l + nsec b.length)) = 64 * (3 - sumN l) - 64 * nsec b.length by omega]
  exact a3
theorem awk_load {d : Dv} {l : List (List UInt8)} (h : AwK d l) (hp : Puts 1 0 l) (hs : sumN l ≤ 2) : d.loadE 2 2 = 0 ∧ d.loadV 2 2 1 = (l, sumN l) := by
  have hfl := framesL_len 1 0 l
  have e : ((List.replicate 128 (0 : UInt8) ++ (framesL 1 0 l ++ List.replicate (64 * (3 - sumN l)) 0)).drop (64 * 2)).take (64 * 2) = framesL 1 0 l ++ List.replicate (64 * (2 - sumN l)) 0 := by
    rw [List.drop_append, List.drop_of_length_le (by rw [List.length_replicate]; omega), List.nil_append, List.length_replicate, List.drop_zero, List.take_append, List.take_of_length_le (by omega), hfl, List.take_replicate]
    congr 2
    omega
  have hl := Still.load h 2 2 1 area_awk
  rw [e] at hl
  rw [show ((2 : Nat) : Int) = 2 from rfl] at hl
  refine ⟨hl.1, ?_⟩
  rw [hl.2]
  exact scanV_frames 1 l _ hp (by rw [List.length_replicate]; omega) (fun hn => zeros_none _ hn.1)
theorem awk_wipe {d : Dv} (h : AwK d [hi11, youL]) : d.lastingE 3 zeros11 = 0 ∧ AwK (d.lasting 3 zeros11) [hi11] := by
  obtain ⟨p1, p2, p3⟩ := Still.put h 3 1 zeros11 zeros_size (by omega) (by omega)
  rw [show ((3 : Nat) : Int) = 3 from rfl] at p1 p2 p3
  have hl : d.lasting 3 zeros11 = (d.write 3 zeros11).flush := by unfold Dv.lasting; rw [if_pos p1]
  have hlE : d.lastingE 3 zeros11 = 0 := by unfold Dv.lastingE; rw [if_pos p1, p2]
  refine ⟨hlE, ?_⟩
  rw [hl]
  have hl1 := framesL_len 1 0 [hi11]
  have hl2 : (put10 1 2 youL).length = 64 := put10_len 1 2 youL
  have hf : framesL 1 0 [hi11, youL] = framesL 1 0 [hi11] ++ put10 1 2 youL := framesL_snoc 1 0 [hi11] youL
  have hs1 : sumN [hi11] = 1 := rfl
  have hs2 : sumN [hi11, youL] = 2 := rfl
  rw [hs1] at hl1
  rw [hs2, hf, tx_list] at p3
  unfold AwK
  rw [hs1]
  obtain ⟨F, hF⟩ : ∃ F, framesL 1 0 [hi11] = F := ⟨_, rfl⟩
  obtain ⟨Y, hY⟩ : ∃ Y, put10 1 2 youL = Y := ⟨_, rfl⟩
  rw [hF] at hl1 p3 ⊢
  rw [hY] at hl2 p3
  have e : (List.replicate 128 (0 : UInt8) ++ (F ++ Y ++ List.replicate (64 * (3 - 2)) 0)).take (64 * 3) ++ (List.replicate 64 0 ++ (List.replicate 128 0 ++ (F ++ Y ++ List.replicate (64 * (3 - 2)) 0)).drop (64 * (3 + 1))) = List.replicate 128 0 ++ (F ++ List.replicate (64 * (3 - 1)) 0) := by
    have e1 : List.replicate 128 (0 : UInt8) ++ (F ++ Y ++ List.replicate (64 * (3 - 2)) 0) = (List.replicate 128 0 ++ F) ++ (Y ++ List.replicate 64 0) := by simp only [List.append_assoc]
    have e2 : (List.replicate 128 (0 : UInt8) ++ F).length = 192 := by rw [List.length_append, List.length_replicate, hl1]
    rw [e1, show 64 * 3 = (List.replicate 128 (0 : UInt8) ++ F).length by rw [e2], List.take_left, show 64 * (3 + 1) = (List.replicate 128 (0 : UInt8) ++ F).length + 64 by rw [e2], ← List.drop_drop, List.drop_left, ← hl2, List.drop_left, List.append_assoc, hl2, List.replicate_append_replicate]
  rw [e] at p3
  exact p3
/-- All that the probes ask of the device. -/
theorem aw_told {d0 d1 d2 d3 : Dv} (h0 : d0 = Dv.new 5) (h1 : d1 = d0.app 2 2 0 1 1 hi11) (h2 : d2 = d1.app 2 2 1 1 2 youL) (h3 : d3 = d2.lasting 3 zeros11) :
    (d0.appE 2 2 0 1 1 hi11 = 0 ∧ d0.appTo 2 2 0 1 1 hi11 = 1) ∧ (d1.appE 2 2 1 1 2 youL = 0 ∧ d1.appTo 2 2 1 1 2 youL = 2) ∧ (d2.appE 2 2 2 1 3 [] = 22 ∧ d2.appTo 2 2 2 1 3 [] = 0 ∧ d2.app 2 2 2 1 3 [] = d2) ∧
      (d2.loadE 2 2 = 0 ∧ d2.loadV 2 2 1 = ([hi11, youL], 2)) ∧ d2.lastingE 3 zeros11 = 0 ∧ (d3.loadE 2 2 = 0 ∧ d3.loadV 2 2 1 = ([hi11], 1)) ∧ (d1.cells.length = 5 ∧ d2.cells.length = 5 ∧ d3.cells.length = 5) := by
  have k0 : AwK d0 [] := by rw [h0]; exact awk_new
  obtain ⟨a1, a2, k1⟩ := awk_app k0 hi11 (by rfl) (by decide)
  have k1 : AwK d1 [hi11] := by rw [h1]; exact k1
  obtain ⟨b1, b2, k2⟩ := awk_app k1 youL (by rfl) (by decide)
  have k2 : AwK d2 [hi11, youL] := by rw [h2]; exact k2
  obtain ⟨c1, k3⟩ := awk_wipe k2
  have k3 : AwK d3 [hi11] := by rw [h3]; exact k3
  have l1 : d1.cells.length = 5 := k1.len
  have l2 : d2.cells.length = 5 := k2.len
  have l3 : d3.cells.length = 5 := k3.len
  have e1 : d2.appE 2 2 2 1 3 [] = 22 := by
    unfold Dv.appE
    rw [l2]
    rfl
  have e2 : d2.app 2 2 2 1 3 [] = d2 := by
    unfold Dv.app
    rw [if_neg]
    exact fun x => absurd x.2.2 (by decide)
  exact ⟨⟨a1, a2⟩, ⟨b1, b2⟩, ⟨e1, by unfold Dv.appTo; rw [e1]; rfl, e2⟩, awk_load k2 ⟨rfl, rfl, trivial⟩ (by decide), c1, awk_load k3 ⟨rfl, trivial⟩ (by decide), l1, l2, l3⟩
set_option maxRecDepth 100000 in
set_option maxHeartbeats 4000000 in
theorem awake11 (w : World) (hT : Tab w) : Calls Tryz.prog 5 #[] w fun e w' => e = .returned (.bool true) ∧ Below w.heap.size w w' := by
  obtain ⟨d0, h0⟩ : ∃ d, d = Dv.new 5 := ⟨_, rfl⟩
  obtain ⟨d1, h1⟩ : ∃ d, d = d0.app 2 2 0 1 1 hi11 := ⟨_, rfl⟩
  obtain ⟨d2, h2⟩ : ∃ d, d = d1.app 2 2 1 1 2 youL := ⟨_, rfl⟩
  obtain ⟨d3, h3⟩ : ∃ d, d = d2.lasting 3 zeros11 := ⟨_, rfl⟩
  obtain ⟨⟨a1, a2⟩, ⟨b1, b2⟩, ⟨e1, e2, e3⟩, ⟨f1, f2⟩, c1, ⟨f3, f4⟩, l1, l2, l3⟩ := aw_told h0 h1 h2 h3
  have ok0 : d0.Ok := by rw [h0]; exact dv_new_ok 5 (by omega) (by omega)
  have ok1 : d1.Ok := by rw [h1]; exact app_ok ok0 _ _ _ _ _ _
  have ok2 : d2.Ok := by rw [h2]; exact app_ok ok1 _ _ _ _ _ _
  have ok3 : d3.Ok := by rw [h3]; exact lasting_ok ok2 _ _
  have o0 : d0.ops = 0 := by rw [h0]; rfl
  have o1 := app_ops d0 2 2 0 1 1 hi11
  have o2 := app_ops d1 2 2 1 1 2 youL
  rw [← h1, show nsec hi11.length = 1 from rfl] at o1
  rw [← h2, show nsec youL.length = 1 from rfl] at o2
  have hnew : Calls Tryz.prog 6 #[.int .i64 5] w fun e w' => ∃ b g cap m, e = .returned (.tuple #[.pointer (some ⟨b, 0, none⟩), .int .i64 0]) ∧ PDev w' b g cap m d0 ∧ w.heap.size ≤ b ∧ w.heap.size ≤ g ∧ w.heap.size ≤ m ∧ Below w.heap.size w w' := by
    rw [h0]; exact pnew_any 5 (by omega) (by omega) w
  have hap1 : ∀ (v : World) (b g cap m : Nat), PDev v b g cap m d0 → Tab v → Calls Tryz.prog 10 #[.pointer (some ⟨b, 0, none⟩), .agg #[.int .i64 2, .int .i64 2], .int .i64 0, .agg #[.int .i64 1, .int .i64 1, .string ⟨#[104, 105]⟩]] v fun e w' => e = .returned (.tuple #[.int .i64 1, .int .i64 0]) ∧ PDev w' b g cap m d1 ∧ But b g m v w' := fun v b g cap m hv ht => by
    have := ptapp_any hv ok0 (by omega) ht 2 2 0 1 1 (by omega) (by omega) ⟨#[104, 105]⟩ (by decide)
    rw [show (⟨#[104, 105]⟩ : ByteArray).data.toList = hi11 from rfl, a1, a2, ← h1] at this
    exact this
  have hap2 : ∀ (v : World) (b g cap m : Nat), PDev v b g cap m d1 → Tab v → Calls Tryz.prog 10 #[.pointer (some ⟨b, 0, none⟩), .agg #[.int .i64 2, .int .i64 2], .int .i64 1, .agg #[.int .i64 1, .int .i64 2, .string ⟨#[121, 111, 117]⟩]] v fun e w' => e = .returned (.tuple #[.int .i64 2, .int .i64 0]) ∧ PDev w' b g cap m d2 ∧ But b g m v w' := fun v b g cap m hv ht => by
    have := ptapp_any hv ok1 (by omega) ht 2 2 1 1 2 (by omega) (by omega) ⟨#[121, 111, 117]⟩ (by decide)
    rw [show (⟨#[121, 111, 117]⟩ : ByteArray).data.toList = youL from rfl, b1, b2, ← h2] at this
    exact this
  have hap3 : ∀ (v : World) (b g cap m : Nat), PDev v b g cap m d2 → Tab v → Calls Tryz.prog 10 #[.pointer (some ⟨b, 0, none⟩), .agg #[.int .i64 2, .int .i64 2], .int .i64 2, .agg #[.int .i64 1, .int .i64 3, .string ⟨#[]⟩]] v fun e w' => e = .returned (.tuple #[.int .i64 0, .int .i64 22]) ∧ PDev w' b g cap m d2 ∧ But b g m v w' := fun v b g cap m hv ht => by
    have := ptapp_any hv ok2 (by omega) ht 2 2 2 1 3 (by omega) (by omega) ⟨#[]⟩ (by decide)
    rw [show (⟨#[]⟩ : ByteArray).data.toList = [] from rfl, e1, e2, e3] at this
    exact this
  have hld2 : ∀ (v : World) (b g cap m : Nat), PDev v b g cap m d2 → Tab v → Calls Tryz.prog 17 #[.pointer (some ⟨b, 0, none⟩), .agg #[.int .i64 2, .int .i64 2], .int .i64 1] v fun e w' => ∃ a c, e = .returned (.tuple #[.slice a 2 c, .int .i64 2, .int .i64 0]) ∧ Below v.heap.size v w' := fun v b g cap m hv ht => by
    refine (ptload_any hv ok2 ht 2 2 1 (by omega)).mono fun e w' ⟨a, c, q1, _, _, q2⟩ => ⟨a, c, ?_, q2⟩
    rw [f1, f2] at q1
    exact q1
  have hld3 : ∀ (v : World) (b g cap m : Nat), PDev v b g cap m d3 → Tab v → Calls Tryz.prog 17 #[.pointer (some ⟨b, 0, none⟩), .agg #[.int .i64 2, .int .i64 2], .int .i64 1] v fun e w' => ∃ a c, e = .returned (.tuple #[.slice a 1 c, .int .i64 1, .int .i64 0]) ∧ Below v.heap.size v w' := fun v b g cap m hv ht => by
    refine (ptload_any hv ok3 ht 2 2 1 (by omega)).mono fun e w' ⟨a, c, q1, _, _, q2⟩ => ⟨a, c, ?_, q2⟩
    rw [f3, f4] at q1
    exact q1
  have hwi : ∀ (v : World) (b g cap m : Nat), PDev v b g cap m d2 → Calls Tryz.prog 19 #[.pointer (some ⟨b, 0, none⟩), .agg #[.int .i64 2, .int .i64 2], .int .i64 1, .int .i64 5] v fun e w' => e = .returned (.int .i64 0) ∧ PDev w' b g cap m d3 ∧ But b g m v w' := fun v b g cap m hv => by
    have := ptwipe_here hv ok2 (by omega) (by rw [l2]; decide)
    rw [c1, ← h3] at this
    exact this
  have hck : ∀ (v : World) (b g cap m : Nat), PDev v b g cap m d3 → Calls Tryz.prog 20 #[.pointer (some ⟨b, 0, none⟩), .agg #[.int .i64 4, .int .i64 2]] v fun e w' => e = .returned (.int .i64 2) ∧ Below v.heap.size v w' := fun v b g cap m hv => by
    have := ptcheck_any hv ok3 4 2 (by omega)
    rw [l3, show areaE 5 4 2 = 2 by decide] at this
    exact this
  have hrm := fun v => proom_any 2 2 1 (by omega) (by omega) ⟨#[]⟩ (by decide) v
  rw [show fits11 2 1 (⟨#[]⟩ : ByteArray).size = true from rfl] at hrm
  have HT := Lib.hid hT
  clear h0 h1 h2 h3 a1 a2 b1 b2 e1 e2 e3 f1 f2 c1 f3 f4 l1 l2 l3 ok0 ok1 ok2 ok3 o0 o1 o2 hT
  go_enter Tryz.func5, Tryz.ntmps5
  go_upto_region 5 with (go_at_call 6; refine hnew.mono ?_; rintro e w1 ⟨b, g, cp, m, rfl, hp, hb, hg, hm, hb1⟩; have HP1 := Lib.hid hp; have HB1 := Lib.hid hb1; have HBGM := Lib.hid (And.intro hb (And.intro hg hm)); clear hp hb1 hb hg hm)
  obtain ⟨W, hW⟩ : ∃ W, W = w1.alloc (.cells #[.int .i64 2, .int .i64 2] 35 (0, 0)) := ⟨_, rfl⟩
  have b0 : Below w1.heap.size w1 W := by rw [hW]; exact (Below.refl _ w1).alloc (Nat.le_refl _) _
  have z0 : W.heap[w1.heap.size]? = some (.cells #[.int .i64 2, .int .i64 2] 35 (0, 0)) := by rw [hW]; exact heap_alloc_new w1 _
  have hl := HP1.out.lt
  have HF : Hid (w1.heap.size ≠ b ∧ w1.heap.size ≠ g ∧ w1.heap.size ≠ m) := Lib.hid (by omega)
  have HWB : Hid (Below w.heap.size w W) := Lib.hid (HB1.out.trans (b0.mono HB1.out.size))
  have HTab : Hid (∀ v, But b g m W v → Tab v) := Lib.hid fun v hv => HT.out.below (HWB.out.trans (hv.below HBGM.out.1 HBGM.out.2.1 HBGM.out.2.2 HWB.out.size))
  have Z0 := Lib.hid z0
  have HP2 := Lib.hid (HP1.out.step b0)
  have BU0 := Lib.hid (But.refl b g m W)
  obtain ⟨q0, q1⟩ := two_cells11 z0
  have hsz : w1.heap.size = w1.heap.size := rfl
  obtain ⟨k, hk⟩ : ∃ k, w1.heap.size = k := ⟨_, rfl⟩
  rw [← hW]
  simp only [hk] at Z0 HF q0 q1 ⊢
  clear hW b0 z0 hl hnew HP1 HB1 hk hsz
  go_upto_region 6 with (go_at_call 10; refine (hap1 _ _ _ _ _ HP2.out (HTab.out _ BU0.out)).mono ?_; rintro e w3 ⟨rfl, hp3, hb3⟩; have HP3 := Lib.hid hp3; have BU3 := Lib.hid (BU0.out.trans hb3); clear hp3 hb3)
  clear q0 q1 hap1
  obtain ⟨q0, q1⟩ := two_cells11 (BU3.out.obj Z0.out HF.out.1 HF.out.2.1 HF.out.2.2)
  go_upto_region 7 with (go_at_call 10; refine (hap2 _ _ _ _ _ HP3.out (HTab.out _ BU3.out)).mono ?_; rintro e w4 ⟨rfl, hp3, hb3⟩; have HP4 := Lib.hid hp3; have BU4 := Lib.hid (BU3.out.trans hb3); clear hp3 hb3)
  clear q0 q1 hap2
  obtain ⟨q0, q1⟩ := two_cells11 (BU4.out.obj Z0.out HF.out.1 HF.out.2.1 HF.out.2.2)
  go_upto_region 8 with (go_at_call 10; refine (hap3 _ _ _ _ _ HP4.out (HTab.out _ BU4.out)).mono ?_; rintro e w5 ⟨rfl, hp3, hb3⟩; have HP5 := Lib.hid hp3; have BU5 := Lib.hid (BU4.out.trans hb3); clear hp3 hb3)
  clear q0 q1 hap3
  obtain ⟨q0, q1⟩ := two_cells11 (BU5.out.obj Z0.out HF.out.1 HF.out.2.1 HF.out.2.2)
  go_upto_region 9 with (go_at_call 17; refine (hld2 _ _ _ _ _ HP5.out (HTab.out _ BU5.out)).mono ?_; rintro e w6 ⟨a6, c6, rfl, hb6⟩; have HP6 := Lib.hid (HP5.out.step hb6); have BU6 := Lib.hid (BU5.out.step hb6); clear hb6)
  clear q0 q1 hld2
  obtain ⟨q0, q1⟩ := two_cells11 (BU6.out.obj Z0.out HF.out.1 HF.out.2.1 HF.out.2.2)
  go_upto_region 10 with (go_at_call 19; refine (hwi _ _ _ _ _ HP6.out).mono ?_; rintro e w7 ⟨rfl, hp3, hb3⟩; have HP7 := Lib.hid hp3; have BU7 := Lib.hid (BU6.out.trans hb3); clear hp3 hb3)
  clear q0 q1 hwi
  obtain ⟨q0, q1⟩ := two_cells11 (BU7.out.obj Z0.out HF.out.1 HF.out.2.1 HF.out.2.2)
  go_upto_region 11 with (go_at_call 17; refine (hld3 _ _ _ _ _ HP7.out (HTab.out _ BU7.out)).mono ?_; rintro e w8 ⟨a8, c8, rfl, hb6⟩; have HP8 := Lib.hid (HP7.out.step hb6); have BU8 := Lib.hid (BU7.out.step hb6); clear hb6)
  clear q0 q1 hld3
  obtain ⟨q0, q1⟩ := two_cells11 (BU8.out.obj Z0.out HF.out.1 HF.out.2.1 HF.out.2.2)
  go_wp2_with (first
    | (go_at_call 20; refine (hck _ _ _ _ _ HP8.out).mono ?_; rintro e w9 ⟨rfl, hb9⟩; have BU9 := Lib.hid (BU8.out.step hb9); clear hb9; obtain ⟨r0, r1⟩ := two_cells11 (BU9.out.obj Z0.out HF.out.1 HF.out.2.1 HF.out.2.2))
    | (go_at_call 21; refine (hrm _).mono ?_; rintro e w10 ⟨rfl, hb10⟩; have BU10 := Lib.hid (BU9.out.step hb10); clear hb10))
  go_ret
  exact ⟨rfl, HWB.out.trans (BU10.out.below HBGM.out.1 HBGM.out.2.1 HBGM.out.2.2 HWB.out.size)⟩
end Go.Proofs.YtdomcgbfpinpoaaGreatDoor
