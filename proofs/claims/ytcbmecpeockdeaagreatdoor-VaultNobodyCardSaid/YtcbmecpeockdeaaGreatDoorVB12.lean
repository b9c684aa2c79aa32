/- The program's two steps on a vault: a frame is appended, a snapshot is written. -/
import Derived.Test.YtcbmecpeockdeaaGreatDoorVA12
import Derived.Deep.RegionHeld3
import Derived.Deep.CutBlock
import Derived.Deep.DeepCutAuto
namespace Go.Proofs.YtcbmecpeockdeaaGreatDoor
open Go.RowKit Go.Maps

/-- A call of the device, behind which the vault's own block is as it was. -/
theorem PV.call {w w' : World} {a b g cap m : Nat} {v : Vt} {d : Dv} (h : PV w a b g cap m v) (hp : PDev w' b g cap m d) (hb : But b g m w w') : PV w' a b g cap m { v with d := d } :=
  ⟨hb.obj h.box h.far.1 h.far.2.1 h.far.2.2, hp, h.far⟩
theorem PV.dev_set {w : World} {a b g cap m : Nat} {v : Vt} (h : PV w a b g cap m v) (j : Nat) (x : Value) : PDev (w.setCell ⟨a, j, none⟩ x) b g cap m v.d :=
  h.dev.kept (cell_else _ _ _ _ _ h.far.1.symm) (cell_else _ _ _ _ _ h.far.2.1.symm) (cell_else _ _ _ _ _ h.far.2.2.symm)
theorem PV.set_seq {w : World} {a b g cap m : Nat} {v : Vt} (h : PV w a b g cap m v) (x : Int) : PV (w.setCell ⟨a, 3, none⟩ (.int .i64 x)) a b g cap m { v with sq := x } :=
  ⟨heap_setCell_same w a 3 _ _ _ h.box, h.dev_set _ _, h.far⟩
theorem PV.set_at {w : World} {a b g cap m : Nat} {v : Vt} (h : PV w a b g cap m v) (x : Int) : PV (w.setCell ⟨a, 4, none⟩ (.int .i64 x)) a b g cap m { v with p := x } :=
  ⟨heap_setCell_same w a 4 _ _ _ h.box, h.dev_set _ _, h.far⟩
theorem PV.set_ep {w : World} {a b g cap m : Nat} {v : Vt} (h : PV w a b g cap m v) (x : Int) : PV (w.setCell ⟨a, 2, none⟩ (.int .i64 x)) a b g cap m { v with ep := x } :=
  ⟨heap_setCell_same w a 2 _ _ _ h.box, h.dev_set _ _, h.far⟩
theorem PV.set_shut {w : World} {a b g cap m : Nat} {v : Vt} (h : PV w a b g cap m v) (x : Bool) : PV (w.setCell ⟨a, 5, none⟩ (.bool x)) a b g cap m { v with shut := x } :=
  ⟨heap_setCell_same w a 5 _ _ _ h.box, h.dev_set _ _, h.far⟩
set_option maxRecDepth 100000 in
set_option maxHeartbeats 4000000 in
theorem vputFrame_any {w : World} {a b g cap m : Nat} {v : Vt} (h : PV w a b g cap m v) (hk : v.Ok) (ho : v.d.ops < 9223372036854700000) (hT : Tab w) (t : ByteArray) (ht : t.size ≤ 281474976710656) :
    Calls Tryz.prog 20 #[.pointer (some ⟨a, 0, none⟩), .string t] w fun e w' => e = .returned (.int .i64 (v.appE t.data.toList)) ∧ PV w' a b g cap m (v.app0 t.data.toList) ∧ Buts a b g m w w' := by
  have hn : v.n ≤ 9223372036854775807 := by have := hk.dev.few; have := hk.s1; unfold Vt.n; omega
  have hsq := hk.sq
  have iw : IntKind.i64.wrap (v.sq + 1) = v.sq + 1 := IntWalk.i64_in _ (by omega)
  have hjo := vjournal_any h.drew hk
  have hap := fun u (hu : PV u a b g cap m v) (hv : Tab u) => ptapp_any hu.dev hk.dev ho hv v.f v.n v.p v.ep (v.sq + 1) hn hk.at_ t ht
  obtain ⟨⟨c0, c1, c2, c3, c4, c5⟩, _⟩ := six_cells h.box
  have HP := Lib.hid h.drew
  have HT := Lib.hid (show Tab w.drew from hT.drew)
  have HC := Lib.hid (fun u (hu : PV u a b g cap m v) => (six_cells hu.box).1)
  have HCD := Lib.hid (fun (d : Dv) u (hu : PV u a b g cap m { v with d := d }) => (show u.cell? ⟨a, 0, none⟩ = some (.pointer (some ⟨b, 0, none⟩)) ∧ u.cell? ⟨a, 1, none⟩ = some (.int .i64 v.s) ∧ u.cell? ⟨a, 2, none⟩ = some (.int .i64 v.ep) ∧ u.cell? ⟨a, 3, none⟩ = some (.int .i64 v.sq) ∧ u.cell? ⟨a, 4, none⟩ = some (.int .i64 v.p) ∧ u.cell? ⟨a, 5, none⟩ = some (.bool v.shut) from (six_cells hu.box).1))
  have hE : v.d.appE v.f v.n v.p v.ep (v.sq + 1) t.data.toList = v.appE t.data.toList := rfl
  obtain ⟨D, hD⟩ : ∃ D, v.d.app v.f v.n v.p v.ep (v.sq + 1) t.data.toList = D := ⟨_, rfl⟩
  obtain ⟨To, hTo⟩ : ∃ To, v.d.appTo v.f v.n v.p v.ep (v.sq + 1) t.data.toList = To := ⟨_, rfl⟩
  have hR : v.app0 t.data.toList = if v.appE t.data.toList = 0 then ⟨D, v.s, v.ep, v.sq + 1, To, v.shut⟩ else { v with d := D } := by unfold Vt.app0; rw [hD, hTo]
  rw [hE, hTo, hD] at hap
  rw [hR]
  generalize v.appE t.data.toList = E at *
  generalize hF : v.f = F at *
  generalize hN : v.n = N at *
  obtain ⟨Q, hQ⟩ : ∃ Q, v.sq + 1 = Q := ⟨_, rfl⟩
  simp only [hQ] at hap ⊢
  have iw2 : IntKind.i64.wrap (v.sq + 1) = Q := iw.trans hQ
  clear hE hD hTo hR hn hsq hQ h hk ho hT ht hF hN iw
  go_enter Tryz.func20, Tryz.ntmps20
  go_upto_region 2 with fail
  go_cut [6, 7] (fun s6 s7 wx => s6 = .int .i64 To ∧ s7 = .int .i64 E ∧ Hid (PV wx a b g cap m { v with d := D } ∧ Buts a b g m w wx))
  case first =>
    go_region_held3 (fun u => u.cell? ⟨a, 0, none⟩ = some (.pointer (some ⟨b, 0, none⟩)) ∧ u.cell? ⟨a, 2, none⟩ = some (.int .i64 v.ep) ∧ u.cell? ⟨a, 4, none⟩ = some (.int .i64 v.p)) (first | go_keep)
      (first
        | (go_at_call 23; refine hjo.mono ?_; rintro e w1 ⟨rfl, hb1⟩; have B1 := Lib.hid hb1; have HP1 := Lib.hid (HP.out.step hb1); obtain ⟨c0, c1, c2, c3, c4, c5⟩ := HC.out _ (HP.out.step hb1); clear hb1)
        | (go_at_call 37; refine (hap _ HP1.out (HT.out.below B1.out)).mono ?_; rintro e w2 ⟨rfl, hp2, hb2⟩; have HX := Lib.hid (And.intro (HP1.out.call hp2 hb2) (Buts.of_but (a := a) hb2)); obtain ⟨c0, c1, c2, c3, c4, c5⟩ := HCD.out _ _ (HP1.out.call hp2 hb2); clear hp2 hb2))
    all_goals
      go_wp2_with fail
      go_meet
      exact ⟨rfl, rfl, Lib.hid ⟨HX.out.1, ((Buts.refl a b g m w).drew.step B1.out).trans HX.out.2⟩⟩
  case rest =>
  obtain ⟨rfl, rfl, HX⟩ := hcut
  clear c0 c1 c2 c3 c4 c5 hjo hap
  obtain ⟨⟨c0, c1, c2, c3, c4, c5⟩, f2, f3, f4, f5⟩ := six_cells HX.out.1.box
  by_cases hz : E = 0
  · subst hz
    go_wp2
    go_ret
    exact ⟨rfl, (HX.out.1.set_seq Q).set_at To, (HX.out.2.cell _ (Or.inl rfl)).cell _ (Or.inl rfl)⟩
  · have e1 : (E != 0) = true := bne_iff_ne.2 hz
    go_wp2
    go_ret
    try rw [if_neg hz]
    exact ⟨rfl, HX.out.1, HX.out.2⟩
theorem next_span (a b : List UInt8) : (0 ≤ nextG a b ∧ nextG a b ≤ 1000000000) ∧ (nextS a b = 0 ∨ nextS a b = 1) := by
  have h := pick_span a b
  unfold nextG nextS
  by_cases q : pickI a b = -1
  · rw [if_pos q, if_pos q]; omega
  · rw [if_neg q, if_neg q]
    split <;> omega
theorem held_size {d : Dv} (hd : d.Ok) (s : Nat) : (heldA d s).length ≤ 128000 ∧ (heldB d s).length ≤ 128000 := by
  have h := readT_size hd 0 (2 * (s : Int))
  have h2 : (heldT d s).length ≤ 128000 := by unfold heldT; rw [text_size]; exact h
  unfold heldA heldB
  split
  · rw [List.length_take, List.length_drop]; omega
  · show (0 : Nat) ≤ _ ∧ (0 : Nat) ≤ _; omega
set_option maxRecDepth 100000 in
set_option maxHeartbeats 4000000 in
theorem vputSnap_any {w : World} {a b g cap m : Nat} {v : Vt} (h : PV w a b g cap m v) (hk : v.Ok) (hon : v.shut = false) (ho : v.d.ops < 9223372036854700000) (hT : Tab w) (t : ByteArray) (ht : t.size ≤ 281474976710656) :
    Calls Tryz.prog 21 #[.pointer (some ⟨a, 0, none⟩), .string t] w fun e w' => e = .returned (.int .i64 (snapE v.d v.s t.data.toList)) ∧ PV w' a b g cap m (v.snap0 t.data.toList) ∧ Buts a b g m w w' := by
  have hfi := vfits_any h t ht
  have hhe := fun u (hu : PV u a b g cap m v) => vheld_any hu hk
  obtain ⟨hza, hzb⟩ := held_size hk.dev v.s
  have hne := fun u (hu : Tab u) => pnext9_any (tx (heldA v.d v.s)) (tx (heldB v.d v.s)) (by rw [tx_size]; omega) (by rw [tx_size]; omega) u hu
  simp only [tx_list] at hne
  obtain ⟨⟨hg0, hg1⟩, hs01⟩ := next_span (heldA v.d v.s) (heldB v.d v.s)
  have hs := hk.s1
  have hf : v.fits t.data.toList = fits12 v.s t.data.toList := by unfold Vt.fits; rw [hon]; rfl
  rw [hf] at hfi
  have HP := Lib.hid h
  have HT := Lib.hid hT
  have HC := Lib.hid (fun u (hu : PV u a b g cap m v) => (six_cells hu.box).1)
  have HB0 := Lib.hid (Buts.refl a b g m w)
  have hput := fun u (hu : Tab u) => pput9_any (nextG (heldA v.d v.s) (heldB v.d v.s)) t (by omega) ht u hu
  have hiw : IntKind.i64.wrap (nextS (heldA v.d v.s) (heldB v.d v.s) * (v.s : Int)) = snapP v.d v.s := by
    unfold snapP
    rcases hs01 with q | q <;> rw [q] <;> exact IntWalk.i64_in _ (by omega)
  by_cases q1 : fits12 v.s t.data.toList = true
  · rw [q1] at hfi
    by_cases q2 : heldE v.d v.s = 0
    · rw [q2] at hhe
      by_cases q3 : snapG v.d v.s = 0
      · have hE : snapE v.d v.s t.data.toList = 23 := by unfold snapE; rw [if_neg (by rw [q1]; simp), if_neg (by omega), if_pos q3]
        have hD : snapD v.d v.s t.data.toList = v.d := by unfold snapD; rw [if_neg (fun x => x.2.2 q3)]
        have hR : v.snap0 t.data.toList = v := by unfold Vt.snap0; rw [hE, if_neg (by omega), hD]
        rw [hE, hR]
        have q4 : nextG (heldA v.d v.s) (heldB v.d v.s) = 0 := q3
        rw [q4] at hne
        generalize tx (heldA v.d v.s) = A at *
        generalize tx (heldB v.d v.s) = B at *
        generalize nextS (heldA v.d v.s) (heldB v.d v.s) = S at *
        clear hE hD hR q1 q2 q3 q4 hput hiw hs01 hg0 hg1 hs hf hza hzb ht ho hT h hk hon
        go_enter Tryz.func21, Tryz.ntmps21
        go_wp2_with (first
          | (go_at_call 9; refine hfi.mono ?_; rintro e w1 ⟨rfl, hb1⟩; have B1 := Lib.hid hb1; have HP1 := Lib.hid (HP.out.step hb1); have HT1 := Lib.hid (HT.out.below hb1); clear hb1)
          | (go_at_call 27; refine (hhe _ HP1.out).mono ?_; rintro e w2 ⟨rfl, hb2⟩; have B2 := Lib.hid hb2; have HP2 := Lib.hid (HP1.out.step hb2); have HT2 := Lib.hid (HT1.out.below hb2); clear hb2)
          | (go_at_call 38; refine (hne _ HT2.out).mono ?_; rintro e w3 ⟨rfl, hb3⟩; have B3 := Lib.hid hb3; have HP3 := Lib.hid (HP2.out.step hb3); clear hb3))
        go_ret
        exact ⟨rfl, HP3.out, ((HB0.out.step B1.out).step B2.out).step B3.out⟩
      · have htl := of_decide_eq_true (show decide _ = true from q1)
        have hpe : putE9 (nextG (heldA v.d v.s) (heldB v.d v.s)) t.data.toList = 0 := put9_ok (by have : nextG (heldA v.d v.s) (heldB v.d v.s) ≠ 0 := q3; omega) hg1 hs.2.1 htl
        have hpl : putL9 (nextG (heldA v.d v.s) (heldB v.d v.s)) t.data.toList = put9 (nextG (heldA v.d v.s) (heldB v.d v.s)) t.data.toList := by unfold putL9; rw [if_pos hpe]
        rw [hpe, hpl] at hput
        obtain ⟨X, hX⟩ : ∃ X, tx (put9 (nextG (heldA v.d v.s) (heldB v.d v.s)) t.data.toList) = X := ⟨_, rfl⟩
        have hput2 : ∀ u, Tab u → Calls Tryz.prog 39 #[.agg #[.int .i64 (nextG (heldA v.d v.s) (heldB v.d v.s)), .string t]] u fun e w' => e = .returned (.tuple #[.string X, .int .i64 0]) ∧ Below u.heap.size u w' := fun u hu => (hput u hu).mono fun e w' ⟨y, y1, y2, y3⟩ => by
          have : y = X := by rw [tx_of y2.out, hX]
          subst this
          exact ⟨y1, y3⟩
        have hXs : X.size ≤ 4611686018427387904 := by rw [← hX, tx_size, put9_len]; omega
        have hwr := fun u (hu : PV u a b g cap m v) => pwrite_any hu.dev hk.dev (by omega) (snapP v.d v.s) X hXs
        have hfl := fun u (hu : PDev u b g cap m (v.d.write (snapP v.d v.s) X)) => pflush_any hu (hk.dev.write (snapP v.d v.s) X) (app_write_ops hk.dev ho _ _)
        have hE : snapE v.d v.s t.data.toList = v.d.lastingE (snapP v.d v.s) X := by unfold snapE; rw [if_neg (by rw [q1]; simp), if_neg (by omega), if_neg q3, ← hX]; rfl
        have hD : snapD v.d v.s t.data.toList = v.d.lasting (snapP v.d v.s) X := by unfold snapD; rw [if_pos ⟨q1, q2, q3⟩, ← hX]; rfl
        have hLE : v.d.lastingE (snapP v.d v.s) X = if v.d.writeE (snapP v.d v.s) X = 0 then (v.d.write (snapP v.d v.s) X).flushE else v.d.writeE (snapP v.d v.s) X := rfl
        have hLD : v.d.lasting (snapP v.d v.s) X = if v.d.writeE (snapP v.d v.s) X = 0 then (v.d.write (snapP v.d v.s) X).flush else v.d.write (snapP v.d v.s) X := rfl
        have hR : v.snap0 t.data.toList = if snapE v.d v.s t.data.toList = 0 then ⟨snapD v.d v.s t.data.toList, v.s, nextG (heldA v.d v.s) (heldB v.d v.s), 0, 0, v.shut⟩ else { v with d := snapD v.d v.s t.data.toList } := rfl
        rw [hR, hE, hD, hLE, hLD]
        have q4 : (nextG (heldA v.d v.s) (heldB v.d v.s) == 0) = false := beq_eq_false_iff_ne.2 q3
        generalize snapP v.d v.s = P at *
        generalize tx (heldA v.d v.s) = A at *
        generalize tx (heldB v.d v.s) = B at *
        generalize nextS (heldA v.d v.s) (heldB v.d v.s) = S at *
        generalize nextG (heldA v.d v.s) (heldB v.d v.s) = G at *
        obtain ⟨E1, hE1⟩ : ∃ E1, v.d.writeE P X = E1 := ⟨_, rfl⟩
        obtain ⟨D1, hD1⟩ : ∃ D1, v.d.write P X = D1 := ⟨_, rfl⟩
        simp only [hE1, hD1] at hwr hfl ⊢
        have HCD := Lib.hid (fun (d : Dv) u (hu : PV u a b g cap m { v with d := d }) => (show u.cell? ⟨a, 0, none⟩ = some (.pointer (some ⟨b, 0, none⟩)) from (six_cells hu.box).1.1))
        have HFr := Lib.hid (fun (d : Dv) u (hu : PV u a b g cap m { v with d := d }) => (six_cells hu.box).2)
        clear hE hD hLE hLD hR hE1 hD1 q1 q2 q3 hput hs01 hg0 hg1 hs hf hza hzb ht ho hT h hk hon htl hpe hpl hX hXs
        by_cases q5 : E1 = 0
        · subst q5
          obtain ⟨E2, hE2⟩ : ∃ E2, D1.flushE = E2 := ⟨_, rfl⟩
          obtain ⟨D2, hD2⟩ : ∃ D2, D1.flush = D2 := ⟨_, rfl⟩
          simp only [hE2, hD2] at hfl ⊢
          clear hE2 hD2
          simp only [if_true]
          by_cases q6 : E2 = 0
          · subst q6
            simp only [if_true]
            go_enter Tryz.func21, Tryz.ntmps21
            go_upto_region 10 with (first
              | (go_at_call 9; refine hfi.mono ?_; rintro e w1 ⟨rfl, hb1⟩; have B1 := Lib.hid hb1; have HP1 := Lib.hid (HP.out.step hb1); have HT1 := Lib.hid (HT.out.below hb1); clear hb1)
              | (go_at_call 27; refine (hhe _ HP1.out).mono ?_; rintro e w2 ⟨rfl, hb2⟩; have B2 := Lib.hid hb2; have HP2 := Lib.hid (HP1.out.step hb2); have HT2 := Lib.hid (HT1.out.below hb2); clear hb2)
              | (go_at_call 38; refine (hne _ HT2.out).mono ?_; rintro e w3 ⟨rfl, hb3⟩; have B3 := Lib.hid hb3; have HP3 := Lib.hid (HP2.out.step hb3); have HT3 := Lib.hid (HT2.out.below hb3); clear hb3)
              | (go_at_call 39; refine (hput2 _ HT3.out).mono ?_; rintro e w4 ⟨rfl, hb4⟩; have HP4 := Lib.hid (HP3.out.step hb4); have HB4 := Lib.hid ((((HB0.out.step B1.out).step B2.out).step B3.out).step hb4); clear hb4))
            obtain ⟨c0, c1, _⟩ := HC.out _ HP4.out
            go_region_with (go_at_call 40; refine (hwr _ HP4.out.drew).mono ?_; rintro e w5 ⟨rfl, hp5, hb5⟩; have HP5 := Lib.hid (HP4.out.drew.call hp5 hb5); have HB5 := Lib.hid (HB4.out.drew.trans (Buts.of_but (a := a) hb5)); clear hp5 hb5)
            all_goals
              clear c0 c1
              have c0 := HCD.out _ _ HP5.out
              go_upto_region 14 with (go_at_call 41; refine (hfl _ HP5.out.dev).mono ?_; rintro e w6 ⟨rfl, hp6, hb6⟩; have HP6 := Lib.hid (HP5.out.call hp6 hb6); have HB6 := Lib.hid (HB5.out.trans (Buts.of_but (a := a) hb6)); clear hp6 hb6)
              obtain ⟨f2, f3, f4, f5⟩ := HFr.out _ _ HP6.out
              clear c0
              obtain ⟨⟨c0, c1, c2, c3, c4, c5⟩, _⟩ := six_cells HP6.out.box
              go_wp2
              go_ret
              exact ⟨rfl, ((HP6.out.set_ep G).set_seq 0).set_at 0, ((HB6.out.cell _ (Or.inl rfl)).cell _ (Or.inl rfl)).cell _ (Or.inl rfl)⟩
          · have e2 : (E2 != 0) = true := bne_iff_ne.2 q6
            rw [if_neg q6]
            go_enter Tryz.func21, Tryz.ntmps21
            go_upto_region 10 with (first
              | (go_at_call 9; refine hfi.mono ?_; rintro e w1 ⟨rfl, hb1⟩; have B1 := Lib.hid hb1; have HP1 := Lib.hid (HP.out.step hb1); have HT1 := Lib.hid (HT.out.below hb1); clear hb1)
              | (go_at_call 27; refine (hhe _ HP1.out).mono ?_; rintro e w2 ⟨rfl, hb2⟩; have B2 := Lib.hid hb2; have HP2 := Lib.hid (HP1.out.step hb2); have HT2 := Lib.hid (HT1.out.below hb2); clear hb2)
              | (go_at_call 38; refine (hne _ HT2.out).mono ?_; rintro e w3 ⟨rfl, hb3⟩; have B3 := Lib.hid hb3; have HP3 := Lib.hid (HP2.out.step hb3); have HT3 := Lib.hid (HT2.out.below hb3); clear hb3)
              | (go_at_call 39; refine (hput2 _ HT3.out).mono ?_; rintro e w4 ⟨rfl, hb4⟩; have HP4 := Lib.hid (HP3.out.step hb4); have HB4 := Lib.hid ((((HB0.out.step B1.out).step B2.out).step B3.out).step hb4); clear hb4))
            obtain ⟨c0, c1, _⟩ := HC.out _ HP4.out
            go_region_with (go_at_call 40; refine (hwr _ HP4.out.drew).mono ?_; rintro e w5 ⟨rfl, hp5, hb5⟩; have HP5 := Lib.hid (HP4.out.drew.call hp5 hb5); have HB5 := Lib.hid (HB4.out.drew.trans (Buts.of_but (a := a) hb5)); clear hp5 hb5)
            all_goals
              clear c0 c1
              have c0 := HCD.out _ _ HP5.out
              go_wp2_with (go_at_call 41; refine (hfl _ HP5.out.dev).mono ?_; rintro e w6 ⟨rfl, hp6, hb6⟩; have HP6 := Lib.hid (HP5.out.call hp6 hb6); have HB6 := Lib.hid (HB5.out.trans (Buts.of_but (a := a) hb6)); clear hp6 hb6)
              go_ret
              exact ⟨rfl, HP6.out, HB6.out⟩
        · have e1 : (E1 != 0) = true := bne_iff_ne.2 q5
          simp only [if_neg q5]
          go_enter Tryz.func21, Tryz.ntmps21
          go_upto_region 10 with (first
            | (go_at_call 9; refine hfi.mono ?_; rintro e w1 ⟨rfl, hb1⟩; have B1 := Lib.hid hb1; have HP1 := Lib.hid (HP.out.step hb1); have HT1 := Lib.hid (HT.out.below hb1); clear hb1)
            | (go_at_call 27; refine (hhe _ HP1.out).mono ?_; rintro e w2 ⟨rfl, hb2⟩; have B2 := Lib.hid hb2; have HP2 := Lib.hid (HP1.out.step hb2); have HT2 := Lib.hid (HT1.out.below hb2); clear hb2)
            | (go_at_call 38; refine (hne _ HT2.out).mono ?_; rintro e w3 ⟨rfl, hb3⟩; have B3 := Lib.hid hb3; have HP3 := Lib.hid (HP2.out.step hb3); have HT3 := Lib.hid (HT2.out.below hb3); clear hb3)
            | (go_at_call 39; refine (hput2 _ HT3.out).mono ?_; rintro e w4 ⟨rfl, hb4⟩; have HP4 := Lib.hid (HP3.out.step hb4); have HB4 := Lib.hid ((((HB0.out.step B1.out).step B2.out).step B3.out).step hb4); clear hb4))
          obtain ⟨c0, c1, _⟩ := HC.out _ HP4.out
          go_region_with (go_at_call 40; refine (hwr _ HP4.out.drew).mono ?_; rintro e w5 ⟨rfl, hp5, hb5⟩; have HP5 := Lib.hid (HP4.out.drew.call hp5 hb5); have HB5 := Lib.hid (HB4.out.drew.trans (Buts.of_but (a := a) hb5)); clear hp5 hb5)
          all_goals
            go_wp2
            go_ret
            exact ⟨rfl, HP5.out, HB5.out⟩
    · have hE : snapE v.d v.s t.data.toList = heldE v.d v.s := by unfold snapE; rw [if_neg (by rw [q1]; simp), if_pos q2]
      have hD : snapD v.d v.s t.data.toList = v.d := by unfold snapD; rw [if_neg (fun x => q2 x.2.1)]
      have hR : v.snap0 t.data.toList = v := by unfold Vt.snap0; rw [hE, if_neg q2, hD]
      rw [hE, hR]
      have e1 : (heldE v.d v.s != 0) = true := bne_iff_ne.2 q2
      generalize tx (heldA v.d v.s) = A at *
      generalize tx (heldB v.d v.s) = B at *
      generalize heldE v.d v.s = E at *
      clear hE hD hR q1 q2 hput hiw hs01 hg0 hg1 hs hf hza hzb ht ho hT h hk hon hne
      go_enter Tryz.func21, Tryz.ntmps21
      go_wp2_with (first
        | (go_at_call 9; refine hfi.mono ?_; rintro e w1 ⟨rfl, hb1⟩; have B1 := Lib.hid hb1; have HP1 := Lib.hid (HP.out.step hb1); clear hb1)
        | (go_at_call 27; refine (hhe _ HP1.out).mono ?_; rintro e w2 ⟨rfl, hb2⟩; have B2 := Lib.hid hb2; have HP2 := Lib.hid (HP1.out.step hb2); clear hb2))
      go_ret
      exact ⟨rfl, HP2.out, (HB0.out.step B1.out).step B2.out⟩
  · have q1' : fits12 v.s t.data.toList = false := by simpa using q1
    rw [q1'] at hfi
    have hE : snapE v.d v.s t.data.toList = 22 := by unfold snapE; rw [if_pos q1']
    have hD : snapD v.d v.s t.data.toList = v.d := by unfold snapD; rw [if_neg (fun x => q1 x.1)]
    have hR : v.snap0 t.data.toList = v := by unfold Vt.snap0; rw [hE, if_neg (by omega), hD]
    rw [hE, hR]
    clear hE hD hR q1 q1' hput hiw hs01 hg0 hg1 hs hf hza hzb ht ho hT h hk hon hne hhe
    go_enter Tryz.func21, Tryz.ntmps21
    go_wp2_with (go_at_call 9; refine hfi.mono ?_; rintro e w1 ⟨rfl, hb1⟩; have B1 := Lib.hid hb1; have HP1 := Lib.hid (HP.out.step hb1); clear hb1)
    go_ret
    exact ⟨rfl, HP1.out, HB0.out.step B1.out⟩
end Go.Proofs.YtcbmecpeockdeaaGreatDoor
