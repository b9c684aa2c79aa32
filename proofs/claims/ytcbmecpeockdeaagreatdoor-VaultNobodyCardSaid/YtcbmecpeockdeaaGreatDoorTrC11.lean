/- The program's Append and Load of frames on a part of a device, in every world in which the table lies. -/
import Derived.Test.YtcbmecpeockdeaaGreatDoorFrmF10
import Derived.Test.YtcbmecpeockdeaaGreatDoorMFrmG10
import Derived.Test.YtcbmecpeockdeaaGreatDoorMWrite8
import Derived.Test.YtcbmecpeockdeaaGreatDoorTrB11
namespace Go.Proofs.YtcbmecpeockdeaaGreatDoor
open Go.RowKit Go.Maps

theorem two_boxes {w : World} (A B : Obj) {W : World} (hW : W = (w.alloc A).alloc B) : Below w.heap.size w W ∧ W.heap[w.heap.size]? = some A ∧ W.heap[w.heap.size + 1]? = some B := by
  subst hW
  exact ⟨((Below.refl _ w).alloc (Nat.le_refl _) A).alloc (by simp) B, heap_alloc2_old _ _ _, heap_alloc2_new _ _ _⟩
theorem two_cells11 {w : World} {g : Nat} {x y : Value} {t : TypeId} (h : w.heap[g]? = some (.cells #[x, y] t (0, 0))) : w.cell? ⟨g, 0, none⟩ = some x ∧ w.cell? ⟨g, 1, none⟩ = some y := ⟨cell_of (j := 0) h rfl, cell_of (j := 1) h rfl⟩
theorem app_write_ops {d : Dv} (hd : d.Ok) (ho : d.ops < 9223372036854700000) (p : Int) (t : ByteArray) : (d.write p t).ops < 9223372036854775807 := by
  unfold Dv.write
  split
  · rename_i hw
    obtain ⟨_, h1, h2, h3, h4⟩ := (writable_iff d p t).1 hw
    have hr := reach_le d (t.size / 64)
    have hf := hd.few
    show d.ops + (d.reach (t.size / 64) : Nat) < _
    omega
  · omega
set_option maxRecDepth 100000 in
set_option maxHeartbeats 2000000 in
theorem ptapp_any {w : World} {b g cap m : Nat} {d : Dv} (h : PDev w b g cap m d) (hd : d.Ok) (ho : d.ops < 9223372036854700000) (hT : Tab w) (f s p ep sq : Int) (hs1 : s ≤ 9223372036854775807) (hp : 0 ≤ p ∧ p ≤ s) (t : ByteArray) (ht : t.size ≤ 281474976710656) :
    Calls Tryz.prog 37 #[.pointer (some ⟨b, 0, none⟩), .agg #[.int .i64 f, .int .i64 s], .int .i64 p, .agg #[.int .i64 ep, .int .i64 sq, .string t]] w fun e w' =>
      e = .returned (.tuple #[.int .i64 (d.appTo f s p ep sq t.data.toList), .int .i64 (d.appE f s p ep sq t.data.toList)]) ∧ PDev w' b g cap m (d.app f s p ep sq t.data.toList) ∧ But b g m w w' := by
  have hlt := h.lt
  obtain ⟨W, hW⟩ : ∃ W, W = (w.alloc (.cells #[.int .i64 f, .int .i64 s] 55 (0, 0))).alloc (.cells #[.int .i64 ep, .int .i64 sq, .string t] 81 (0, 0)) := ⟨_, rfl⟩
  obtain ⟨b0, z0, z1⟩ := two_boxes _ _ hW
  have hck := ptcheck_any (h.step b0) hd f s hs1
  have hpt := fun v (hv : Tab v) => pput10_any ep sq t ht v hv
  have hrm := fun v => proom_any f s p hp hs1 t ht v
  have hse := fun v => psects_any t ht v
  have hst := fun v (hv : PDev v b g cap m d) (x : ByteArray) (hx : x.size ≤ 4611686018427387904) => pstore_any hv hd (by omega) (f + p) x hx (app_write_ops hd ho _ _)
  have hL : t.data.toList.length = t.size := text_size t
  have hHB : Hid (But b g m w W) := Lib.hid (But.of_below b0)
  have hfew := hd.few
  have HP := Lib.hid (h.step b0)
  have HT := Lib.hid (hT.below b0)
  have HLT := Lib.hid hlt
  have Z0 := Lib.hid z0
  have Z1 := Lib.hid z1
  obtain ⟨c0, c1⟩ := two_cells11 z0
  obtain ⟨k0, k1, k2, _, _, _⟩ := three_cells z1
  unfold Dv.appTo
  by_cases hA : areaE d.cells.length f s = 0
  · have hn : 1 ≤ s ∧ 0 ≤ f ∧ f + s ≤ d.cells.length := by
      unfold areaE at hA
      split at hA
      · assumption
      · omega
    rw [hA] at hck
    have i1 : IntKind.i64.wrap (f + p) = f + p := IntWalk.i64_in _ (by omega)
    by_cases hQ : wrong10 ep sq t.size = 0
    · rw [hQ] at hpt
      have hput : tx (putL10 ep sq t.data.toList) = tx (put10 ep sq t.data.toList) := by unfold putL10; rw [hL, if_pos hQ]
      simp only [hput] at hpt
      have hps := put_size ep sq t.data.toList
      have hnl : nsec t.data.toList.length ≤ 50 := by
        have := wrong_none hQ
        rw [hL]; unfold nsec; omega
      by_cases hF : fits11 s p t.size = true
      · rw [hF] at hrm
        obtain ⟨g1, g2⟩ := app_good (d := d) (f := f) (s := s) (p := p) (ep := ep) (sq := sq) (b := t.data.toList) hA (by rw [hL]; exact hQ) (by rw [hL]; exact hF)
        rw [g1, g2, hL]
        have hst2 := fun v (hv : PDev v b g cap m d) => hst v hv (tx (put10 ep sq t.data.toList)) (by omega)
        have hfit : 0 ≤ p ∧ p ≤ s ∧ (nsec t.size : Int) ≤ s - p := by
          unfold fits11 at hF
          exact of_decide_eq_true hF
        have i2 : IntKind.i64.wrap (p + (nsec t.size : Nat)) = p + (nsec t.size : Nat) := IntWalk.i64_in _ (by omega)
        obtain ⟨E, hE⟩ : ∃ E, d.lastingE (f + p) (tx (put10 ep sq t.data.toList)) = E := ⟨_, rfl⟩
        obtain ⟨D, hD⟩ : ∃ D, d.lasting (f + p) (tx (put10 ep sq t.data.toList)) = D := ⟨_, rfl⟩
        simp only [hE, hD] at hst2 ⊢
        generalize tx (put10 ep sq t.data.toList) = X at *
        generalize nsec t.size = n at *
        clear hE hD g1 g2 hps hput hnl hQ hF hfit hn hA hfew hL h hd ho hst hlt b0 z0 z1 hT hs1 hp ht
        by_cases hz : E = 0
        · subst hz
          rw [if_pos rfl]
          go_enter Tryz.func37, Tryz.ntmps37
          go_upto_region 1 with fail
          rw [← hW]
          clear hW
          go_upto_region 4 with (go_at_call 49; refine hck.mono ?_; rintro e w1 ⟨rfl, hb1⟩; have B1 := Lib.hid hb1; clear hb1)
          have HP1 := Lib.hid (HP.out.step B1.out)
          have HT1 := Lib.hid (HT.out.below B1.out)
          have Z01 := Lib.hid (old_obj B1.out Z0.out)
          have Z11 := Lib.hid (old_obj B1.out Z1.out)
          have HB1 := Lib.hid (hHB.out.step B1.out)
          clear hck c0 c1 k0 k1 k2 HP HT Z0 Z1 hHB B1
          obtain ⟨c0, c1⟩ := two_cells11 Z01.out
          obtain ⟨k0, k1, k2, _, _, _⟩ := three_cells Z11.out
          go_upto_region 7 with (go_at_call 53; refine (hpt _ HT1.out).mono ?_; rintro e w2 ⟨rfl, hb2⟩; have B2 := Lib.hid hb2; clear hb2)
          have HP2 := Lib.hid (HP1.out.step B2.out)
          have Z02 := Lib.hid (old_obj B2.out Z01.out)
          have Z12 := Lib.hid (old_obj B2.out Z11.out)
          have HB2 := Lib.hid (HB1.out.step B2.out)
          clear hpt c0 c1 k0 k1 k2 HP1 HT1 Z01 Z11 HB1 B2
          obtain ⟨c0, c1⟩ := two_cells11 Z02.out
          obtain ⟨k0, k1, k2, _, _, _⟩ := three_cells Z12.out
          go_upto_region 9 with (go_at_call 22; refine (hrm _).mono ?_; rintro e w3 ⟨rfl, hb3⟩; have B3 := Lib.hid hb3; clear hb3)
          have HP3 := Lib.hid (HP2.out.step B3.out)
          have Z03 := Lib.hid (old_obj B3.out Z02.out)
          have Z13 := Lib.hid (old_obj B3.out Z12.out)
          have HB3 := Lib.hid (HB2.out.step B3.out)
          clear hrm c0 c1 k0 k1 k2 HP2 Z02 Z12 HB2 B3
          obtain ⟨c0, c1⟩ := two_cells11 Z03.out
          go_upto_region 12 with (go_at_call 54; refine (hst2 _ HP3.out).mono ?_; rintro e w4 ⟨rfl, hp4, hb4⟩; have HP4 := Lib.hid hp4; have HB4 := Lib.hid hb4; clear hp4 hb4)
          have Z14 := Lib.hid (HB4.out.obj Z13.out (by have := HLT.out; omega) (by have := HLT.out; omega) (by have := HLT.out; omega))
          clear hst2 c0 c1
          obtain ⟨k0, k1, k2, _, _, _⟩ := three_cells Z14.out
          go_wp2_with (go_at_call 43; refine (hse _).mono ?_; rintro e w5 ⟨rfl, rfl⟩)
          go_ret2
          exact ⟨rfl, HP4.out, HB3.out.trans HB4.out⟩
        · rw [if_neg hz]
          have e1 : (E != 0) = true := bne_iff_ne.2 hz
          clear hse
          go_enter Tryz.func37, Tryz.ntmps37
          go_upto_region 1 with fail
          rw [← hW]
          clear hW
          go_upto_region 4 with (go_at_call 49; refine hck.mono ?_; rintro e w1 ⟨rfl, hb1⟩; have B1 := Lib.hid hb1; clear hb1)
          have HP1 := Lib.hid (HP.out.step B1.out)
          have HT1 := Lib.hid (HT.out.below B1.out)
          have Z01 := Lib.hid (old_obj B1.out Z0.out)
          have Z11 := Lib.hid (old_obj B1.out Z1.out)
          have HB1 := Lib.hid (hHB.out.step B1.out)
          clear hck c0 c1 k0 k1 k2 HP HT Z0 Z1 hHB B1
          obtain ⟨c0, c1⟩ := two_cells11 Z01.out
          obtain ⟨k0, k1, k2, _, _, _⟩ := three_cells Z11.out
          go_upto_region 7 with (go_at_call 53; refine (hpt _ HT1.out).mono ?_; rintro e w2 ⟨rfl, hb2⟩; have B2 := Lib.hid hb2; clear hb2)
          have HP2 := Lib.hid (HP1.out.step B2.out)
          have Z02 := Lib.hid (old_obj B2.out Z01.out)
          have Z12 := Lib.hid (old_obj B2.out Z11.out)
          have HB2 := Lib.hid (HB1.out.step B2.out)
          clear hpt c0 c1 k0 k1 k2 HP1 HT1 Z01 Z11 HB1 B2
          obtain ⟨c0, c1⟩ := two_cells11 Z02.out
          obtain ⟨k0, k1, k2, _, _, _⟩ := three_cells Z12.out
          go_upto_region 9 with (go_at_call 22; refine (hrm _).mono ?_; rintro e w3 ⟨rfl, hb3⟩; have B3 := Lib.hid hb3; clear hb3)
          have HP3 := Lib.hid (HP2.out.step B3.out)
          have Z03 := Lib.hid (old_obj B3.out Z02.out)
          have HB3 := Lib.hid (HB2.out.step B3.out)
          clear hrm c0 c1 k0 k1 k2 HP2 Z02 Z12 HB2 B3
          obtain ⟨c0, c1⟩ := two_cells11 Z03.out
          go_wp2_with (go_at_call 54; refine (hst2 _ HP3.out).mono ?_; rintro e w4 ⟨rfl, hp4, hb4⟩; have HP4 := Lib.hid hp4; have HB4 := Lib.hid hb4; clear hp4 hb4)
          go_ret2
          exact ⟨rfl, HP4.out, HB3.out.trans HB4.out⟩
      · have hF' : fits11 s p t.size = false := by simpa using hF
        rw [hF'] at hrm
        have g1 : d.appE f s p ep sq t.data.toList = 22 := by
          unfold Dv.appE
          rw [hL, if_neg (by omega), if_neg (by omega), if_pos hF']
        have g2 : d.app f s p ep sq t.data.toList = d := by
          unfold Dv.app
          rw [if_neg]
          rw [hL]
          exact fun x => hF x.2.2
        rw [g1, g2, if_neg (by omega)]
        clear hst hse g1 g2 hps hput hnl hQ hF hF' hn hA hfew hL h hd ho hlt b0 z0 z1 hT hs1 hp ht
        go_enter Tryz.func37, Tryz.ntmps37
        go_upto_region 1 with fail
        rw [← hW]
        clear hW
        go_upto_region 4 with (go_at_call 49; refine hck.mono ?_; rintro e w1 ⟨rfl, hb1⟩; have B1 := Lib.hid hb1; clear hb1)
        have HP1 := Lib.hid (HP.out.step B1.out)
        have HT1 := Lib.hid (HT.out.below B1.out)
        have Z01 := Lib.hid (old_obj B1.out Z0.out)
        have Z11 := Lib.hid (old_obj B1.out Z1.out)
        have HB1 := Lib.hid (hHB.out.step B1.out)
        clear hck c0 c1 k0 k1 k2 HP HT Z0 Z1 hHB B1
        obtain ⟨k0, k1, k2, _, _, _⟩ := three_cells Z11.out
        go_upto_region 7 with (go_at_call 53; refine (hpt _ HT1.out).mono ?_; rintro e w2 ⟨rfl, hb2⟩; have B2 := Lib.hid hb2; clear hb2)
        have HP2 := Lib.hid (HP1.out.step B2.out)
        have Z02 := Lib.hid (old_obj B2.out Z01.out)
        have Z12 := Lib.hid (old_obj B2.out Z11.out)
        have HB2 := Lib.hid (HB1.out.step B2.out)
        clear hpt k0 k1 k2 HP1 HT1 Z01 Z11 HB1 B2
        obtain ⟨c0, c1⟩ := two_cells11 Z02.out
        obtain ⟨k0, k1, k2, _, _, _⟩ := three_cells Z12.out
        go_wp2_with (go_at_call 22; refine (hrm _).mono ?_; rintro e w3 ⟨rfl, hb3⟩; have B3 := Lib.hid hb3; clear hb3)
        go_ret2
        exact ⟨rfl, HP2.out.step B3.out, HB2.out.step B3.out⟩
    · have g1 : d.appE f s p ep sq t.data.toList = wrong10 ep sq t.size := by
        unfold Dv.appE
        rw [hL, if_neg (by omega), if_pos hQ]
      have g2 : d.app f s p ep sq t.data.toList = d := by
        unfold Dv.app
        rw [if_neg]
        rw [hL]
        exact fun x => hQ x.2.1
      rw [g1, g2, if_neg hQ]
      have e1 : (wrong10 ep sq t.size != 0) = true := bne_iff_ne.2 hQ
      generalize tx (putL10 ep sq t.data.toList) = X at *
      generalize wrong10 ep sq t.size = Q at *
      clear hst hse hrm g1 g2 hQ hn hA hfew hL h hd ho hlt b0 z0 z1 hT hs1 hp ht
      go_enter Tryz.func37, Tryz.ntmps37
      go_upto_region 1 with fail
      rw [← hW]
      clear hW
      go_upto_region 4 with (go_at_call 49; refine hck.mono ?_; rintro e w1 ⟨rfl, hb1⟩; have B1 := Lib.hid hb1; clear hb1)
      have HP1 := Lib.hid (HP.out.step B1.out)
      have HT1 := Lib.hid (HT.out.below B1.out)
      have Z11 := Lib.hid (old_obj B1.out Z1.out)
      have HB1 := Lib.hid (hHB.out.step B1.out)
      clear hck c0 c1 k0 k1 k2 HP HT Z0 Z1 hHB B1
      obtain ⟨k0, k1, k2, _, _, _⟩ := three_cells Z11.out
      go_wp2_with (go_at_call 53; refine (hpt _ HT1.out).mono ?_; rintro e w2 ⟨rfl, hb2⟩; have B2 := Lib.hid hb2; clear hb2)
      go_ret2
      exact ⟨rfl, HP1.out.step B2.out, HB1.out.step B2.out⟩
  · have g1 : d.appE f s p ep sq t.data.toList = areaE d.cells.length f s := by
      unfold Dv.appE
      rw [if_pos hA]
    have g2 : d.app f s p ep sq t.data.toList = d := by
      unfold Dv.app
      rw [if_neg]
      exact fun x => hA x.1
    rw [g1, g2, if_neg hA]
    have e1 : (areaE d.cells.length f s != 0) = true := bne_iff_ne.2 hA
    generalize areaE d.cells.length f s = A at *
    clear hst hse hrm hpt g1 g2 hA hfew hL h hd ho hlt b0 z0 z1 hT hs1 hp ht
    go_enter Tryz.func37, Tryz.ntmps37
    go_upto_region 1 with fail
    rw [← hW]
    clear hW
    go_wp2_with (go_at_call 49; refine hck.mono ?_; rintro e w1 ⟨rfl, hb1⟩; have B1 := Lib.hid hb1; clear hb1)
    go_ret2
    exact ⟨rfl, HP.out.step B1.out, hHB.out.step B1.out⟩
theorem readT_size {d : Dv} (hd : d.Ok) (x y : Int) : (d.readT x y).size ≤ 128000 := by
  have hf := hd.few
  unfold Dv.readT
  split
  · rw [cat_size _ fun t ht => by
      obtain ⟨c, hc, rfl⟩ := List.mem_map.1 ht
      exact (hd.fit c (List.mem_of_mem_drop (List.mem_of_mem_take hc))).1]
    rw [List.length_map, List.length_take, List.length_drop]
    omega
  · show (0 : Nat) ≤ _; omega
set_option maxRecDepth 100000 in
set_option maxHeartbeats 2000000 in
theorem ptload_any {w : World} {b g cap m : Nat} {d : Dv} (h : PDev w b g cap m d) (hd : d.Ok) (hT : Tab w) (f s ep : Int) (hs1 : s ≤ 9223372036854775807) :
    Calls Tryz.prog 30 #[.pointer (some ⟨b, 0, none⟩), .agg #[.int .i64 f, .int .i64 s], .int .i64 ep] w fun e w' =>
      ∃ a c, e = .returned (.tuple #[.slice a (d.loadV f s ep).1.length c, .int .i64 ((d.loadV f s ep).2 : Nat), .int .i64 (d.loadE f s)]) ∧ (d.loadV f s ep).1.length ≤ c ∧ Txs w.heap.size w'.heap.size w' a (d.loadV f s ep).1 ∧ Below w.heap.size w w' := by
  obtain ⟨W, hW⟩ : ∃ W, W = w.alloc (.cells #[.int .i64 f, .int .i64 s] 55 (0, 0)) := ⟨_, rfl⟩
  have b0 : Below w.heap.size w W := by rw [hW]; exact (Below.refl _ w).alloc (Nat.le_refl _) _
  have z0 : W.heap[w.heap.size]? = some (.cells #[.int .i64 f, .int .i64 s] 55 (0, 0)) := by rw [hW]; exact heap_alloc_new w _
  have hck := ptcheck_any (h.step b0) hd f s hs1
  have hrd := fun v (hv : PDev v b g cap m d) => pread_any hv hd f s hs1
  have hsz := readT_size hd f s
  have HP := Lib.hid (h.step b0)
  have HT := Lib.hid (hT.below b0)
  have B0 := Lib.hid b0
  have Z0 := Lib.hid z0
  obtain ⟨c0, c1⟩ := two_cells11 z0
  by_cases hA : areaE d.cells.length f s = 0
  · rw [hA] at hck
    have hE : d.loadE f s = d.readE f s := by unfold Dv.loadE; rw [if_neg (by omega)]
    rw [hE]
    by_cases hR : d.readE f s = 0
    · have hV : d.loadV f s ep = scanV (d.readT f s).data.toList ep := by unfold Dv.loadV; rw [hE, if_pos hR]
      rw [hV]
      rw [hR] at hrd ⊢
      generalize d.readT f s = X at *
      have hsc := fun v (hv : Tab v) => pscan10_any X (by omega) ep v hv
      generalize (scanV X.data.toList ep).1 = xs at *
      generalize (scanV X.data.toList ep).2 = n at *
      clear hsz hV hR hE hA h hd hT hs1 b0 z0
      go_enter Tryz.func30, Tryz.ntmps30
      go_upto_region 1 with fail
      rw [← hW]
      clear hW
      go_upto_region 4 with (go_at_call 49; refine hck.mono ?_; rintro e w1 ⟨rfl, hb1⟩; have B1 := Lib.hid hb1; clear hb1)
      have HP1 := Lib.hid (HP.out.step B1.out)
      have HT1 := Lib.hid (HT.out.below B1.out)
      have Z01 := Lib.hid (old_obj B1.out Z0.out)
      have HB1 := Lib.hid (B0.out.trans (B1.out.mono B0.out.size))
      clear hck c0 c1 HP HT Z0 B0 B1
      obtain ⟨c0, c1⟩ := two_cells11 Z01.out
      go_upto_region 7 with (go_at_call 46; refine (hrd _ HP1.out).mono ?_; rintro e w2 ⟨rfl, hb2⟩; have B2 := Lib.hid hb2; clear hb2)
      have HT2 := Lib.hid (HT1.out.below B2.out)
      have HB2 := Lib.hid (HB1.out.trans (B2.out.mono HB1.out.size))
      clear hrd c0 c1 HP1 HT1 Z01 HB1 B2
      go_wp2_with (go_at_call 50; refine (hsc _ HT2.out).mono ?_; rintro e w3 ⟨a, c, rfl, hc, hx, hb3⟩; have HX := Lib.hid (And.intro hc hx); have B3 := Lib.hid hb3; clear hc hx hb3)
      go_ret3
      exact ⟨a, c, rfl, HX.out.1, HX.out.2.wide HB2.out.size (Nat.le_refl _), HB2.out.trans (B3.out.mono HB2.out.size)⟩
    · have hV : d.loadV f s ep = ([], 0) := by unfold Dv.loadV; rw [hE, if_neg hR]
      rw [hV]
      have e1 : (d.readE f s != 0) = true := bne_iff_ne.2 hR
      generalize d.readT f s = X at *
      generalize d.readE f s = R at *
      clear hsz hV hR hE hA h hd hT hs1 b0 z0
      go_enter Tryz.func30, Tryz.ntmps30
      go_upto_region 1 with fail
      rw [← hW]
      clear hW
      go_upto_region 4 with (go_at_call 49; refine hck.mono ?_; rintro e w1 ⟨rfl, hb1⟩; have B1 := Lib.hid hb1; clear hb1)
      have HP1 := Lib.hid (HP.out.step B1.out)
      have Z01 := Lib.hid (old_obj B1.out Z0.out)
      have HB1 := Lib.hid (B0.out.trans (B1.out.mono B0.out.size))
      clear hck c0 c1 HP HT Z0 B0 B1
      obtain ⟨c0, c1⟩ := two_cells11 Z01.out
      go_wp2_with (go_at_call 46; refine (hrd _ HP1.out).mono ?_; rintro e w2 ⟨rfl, hb2⟩; have B2 := Lib.hid hb2; clear hb2)
      go_ret3
      exact ⟨none, 0, rfl, Nat.le_refl _, Or.inl rfl, HB1.out.trans (B2.out.mono HB1.out.size)⟩
  · have hE : d.loadE f s = areaE d.cells.length f s := by unfold Dv.loadE; rw [if_pos hA]
    have hV : d.loadV f s ep = ([], 0) := by unfold Dv.loadV; rw [hE, if_neg hA]
    rw [hE, hV]
    have e1 : (areaE d.cells.length f s != 0) = true := bne_iff_ne.2 hA
    generalize areaE d.cells.length f s = A at *
    clear hsz hV hE hA h hd hT hs1 b0 z0 hrd
    go_enter Tryz.func30, Tryz.ntmps30
    go_upto_region 1 with fail
    rw [← hW]
    clear hW
    go_wp2_with (go_at_call 49; refine hck.mono ?_; rintro e w1 ⟨rfl, hb1⟩; have B1 := Lib.hid hb1; clear hb1)
    go_ret3
    exact ⟨none, 0, rfl, Nat.le_refl _, Or.inl rfl, B0.out.trans (B1.out.mono B0.out.size)⟩
end Go.Proofs.YtcbmecpeockdeaaGreatDoor
