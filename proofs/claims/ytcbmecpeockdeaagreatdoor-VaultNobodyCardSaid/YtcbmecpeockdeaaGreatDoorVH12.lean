/- The law's probes of vault: they come out true in every world in which the table lies. -/
import Derived.Test.YtcbmecpeockdeaaGreatDoorMMap8
import Derived.Test.YtcbmecpeockdeaaGreatDoorMVF12
namespace Go.Proofs.YtcbmecpeockdeaaGreatDoor
open Go.RowKit Go.Maps

theorem made_zeros12 (W : World) :
    (Instr.makeSlice 51 (.int .i64 200) (.int .i64 200)).run Tryz.prog W = .ok (.slice (some ⟨W.heap.size, 0, none⟩) 200 200) (W.alloc (.cells (byteRow (List.replicate 200 0)) 5)) := by
  rw [← byteRow_made]
  exact run_make_row' (P := Tryz.prog) 51 5 (.int .u8 0) 1 Tryz.underlying51 infoU8 rfl .i64 .i64 200 (by omega) (by omega) W
theorem row_one {A B : Nat} {w : World} {x : Option Addr} {y : List UInt8} (h : Txs A B w x [y]) : ∃ bl off, x = some ⟨bl, off, none⟩ ∧ bl < B ∧ w.cell? ⟨bl, off, none⟩ = some (.string (tx y)) := by
  rcases h with q | ⟨bl, off, q1, _, q3, q4⟩
  · cases q
  · exact ⟨bl, off, q1, q3, q4 0 (by show 0 < 1; omega)⟩
set_option maxRecDepth 100000 in
set_option maxHeartbeats 4000000 in
theorem awake12 (w : World) (hT : Tab w) : Calls Tryz.prog 5 #[] w fun e w' => e = .returned (.bool true) ∧ Below w.heap.size w w' := by
  obtain ⟨d0, V1, V2, V3, V4, hd0, H⟩ := aw12
  have hnew : Calls Tryz.prog 15 #[.int .i64 12] w fun e w' => ∃ b g cap m, e = .returned (.tuple #[.pointer (some ⟨b, 0, none⟩), .int .i64 0]) ∧ PDev w' b g cap m d0 ∧ w.heap.size ≤ b ∧ w.heap.size ≤ g ∧ w.heap.size ≤ m ∧ Below w.heap.size w w' := by
    rw [hd0]; exact pnew_any 12 (by omega) (by omega) w
  obtain ⟨⟨p1, p2, p3⟩, ⟨q1, q2, q3, q4, q5⟩, ⟨r1, r2, r3, r4⟩, ⟨s1, s2, s3, s4⟩, ⟨t1, t2, t3, t4⟩, ⟨u1, u2, u3, u4, u5⟩, x6, ⟨y1, y2, y3, y4, y5, y6⟩⟩ := H
  have hop1 : ∀ (v : World) (b g cap m : Nat), PDev v b g cap m d0 → Tab v → Calls Tryz.prog 13 #[.pointer (some ⟨b, 0, none⟩), .int .i64 2, .string ⟨#[102, 105, 114, 115, 116]⟩] v fun e w' => ∃ a, e = .returned (.tuple #[.pointer (some ⟨a, 0, none⟩), .string ⟨#[102, 105, 114, 115, 116]⟩, .slice none 0 0, .int .i64 0]) ∧ PV w' a b g cap m V1 ∧ v.heap.size ≤ a ∧ But b g m v w' := fun v b g cap m hv ht => by
    have := vopen_first hv p1 (by omega) ht 2 ⟨by omega, by omega, by omega⟩ ⟨#[102, 105, 114, 115, 116]⟩ (by decide) q2 q1
    rw [show (⟨#[102, 105, 114, 115, 116]⟩ : ByteArray).data.toList = firstL from rfl, q3] at this
    exact this
  have hap1 : ∀ (v : World) (a b g cap m : Nat), PV v a b g cap m V1 → Tab v → Calls Tryz.prog 6 #[.pointer (some ⟨a, 0, none⟩), .string ⟨#[111, 110, 101]⟩] v fun e w' => e = .returned (.int .i64 0) ∧ PV w' a b g cap m V2 ∧ Buts a b g m v w' := fun v a b g cap m hv ht => by
    have := vappend_any hv q4 (by omega) ht ⟨#[111, 110, 101]⟩ (by decide)
    rw [show (⟨#[111, 110, 101]⟩ : ByteArray).data.toList = oneL from rfl, r1, r2] at this
    exact this
  have hsn : ∀ (v : World) (a b g cap m : Nat), PV v a b g cap m V2 → Tab v → Calls Tryz.prog 7 #[.pointer (some ⟨a, 0, none⟩), .string ⟨#[115, 101, 99, 111, 110, 100]⟩] v fun e w' => e = .returned (.int .i64 0) ∧ PV w' a b g cap m V3 ∧ Buts a b g m v w' := fun v a b g cap m hv ht => by
    have := vsnap_any hv r3 (by omega) ht ⟨#[115, 101, 99, 111, 110, 100]⟩ (by decide)
    rw [show (⟨#[115, 101, 99, 111, 110, 100]⟩ : ByteArray).data.toList = secondL from rfl, s1, s2] at this
    exact this
  have hap2 : ∀ (v : World) (a b g cap m : Nat), PV v a b g cap m V3 → Tab v → Calls Tryz.prog 6 #[.pointer (some ⟨a, 0, none⟩), .string ⟨#[116, 119, 111]⟩] v fun e w' => e = .returned (.int .i64 0) ∧ PV w' a b g cap m V4 ∧ Buts a b g m v w' := fun v a b g cap m hv ht => by
    have := vappend_any hv s3 (by omega) ht ⟨#[116, 119, 111]⟩ (by decide)
    rw [show (⟨#[116, 119, 111]⟩ : ByteArray).data.toList = twoL from rfl, t1, t2] at this
    exact this
  have hsl := t3.s1
  have hs2 : V4.s = 2 := by
    have e4 := (append_same V3 twoL).1
    have e3 := snap_same V2 secondL
    have e2 := (append_same V1 oneL).1
    rw [t2] at e4; rw [s2] at e3; rw [r2] at e2
    rw [e4, e3, e2, ← q3]
    unfold openV
    rw [if_pos q2]
  have hop2 : ∀ (v : World) (b g cap m : Nat), PDev v b g cap m V4.d → Tab v → Calls Tryz.prog 13 #[.pointer (some ⟨b, 0, none⟩), .int .i64 2, .string ⟨#[]⟩] v fun e w' => ∃ a x c, e = .returned (.tuple #[.pointer (some ⟨a, 0, none⟩), .string ⟨#[115, 101, 99, 111, 110, 100]⟩, .slice x 1 c, .int .i64 0]) ∧ PDev w' b g cap m V4.d ∧ v.heap.size ≤ a ∧ But b g m v w' ∧ Txs v.heap.size w'.heap.size w' x [twoL] := fun v b g cap m hv ht => by
    have := vopen_again hv t3.dev ht 2 ⟨by omega, by omega, by have := t3.s1.2.2; rw [hs2] at this; exact this⟩ ⟨#[]⟩ u2 u1
    rw [show (⟨#[]⟩ : ByteArray).data.toList = [] from rfl, u4, u5] at this
    refine this.mono fun e w' ⟨a, x, c, z1, z2, z3, z4, _, z6⟩ => ⟨a, x, c, z1, ?_, z3, z4, z6⟩
    have := z2.dev
    rw [u3] at this
    exact this
  have hop3 : ∀ (v : World) (b g cap m : Nat), PDev v b g cap m V4.d → Calls Tryz.prog 13 #[.pointer (some ⟨b, 0, none⟩), .int .i64 6, .string ⟨#[]⟩] v fun e w' => e = .returned (.tuple #[.pointer none, .string ⟨#[]⟩, .slice none 0 0, .int .i64 2]) ∧ v = w' := fun v b g cap m hv => vopen_arg hv t3.dev 6 ⟨#[]⟩ x6
  have hep : ∀ (v : World) (a b g cap m : Nat), PV v a b g cap m V4 → Calls Tryz.prog 10 #[.pointer (some ⟨a, 0, none⟩)] v fun e w' => e = .returned (.int .i64 2) ∧ v = w' := fun v a b g cap m hv => by
    have := vepoch_any hv
    rw [y1] at this
    exact this
  have hsq : ∀ (v : World) (a b g cap m : Nat), PV v a b g cap m V4 → Calls Tryz.prog 11 #[.pointer (some ⟨a, 0, none⟩)] v fun e w' => e = .returned (.int .i64 1) ∧ v = w' := fun v a b g cap m hv => by
    have := vseq_any hv
    rw [y2] at this
    exact this
  have hcl : ∀ (v : World) (a b g cap m : Nat), PV v a b g cap m V4 → Calls Tryz.prog 12 #[.pointer (some ⟨a, 0, none⟩)] v fun e w' => e = .returned (.bool false) ∧ v = w' := fun v a b g cap m hv => by
    have := vclosed_any hv
    rw [y3] at this
    exact this
  have hro : ∀ (v : World) (a b g cap m : Nat), PV v a b g cap m V4 → Calls Tryz.prog 8 #[.pointer (some ⟨a, 0, none⟩), .string ⟨#[]⟩] v fun e w' => e = .returned (.bool true) ∧ Below v.heap.size v w' := fun v a b g cap m hv => by
    have := vroom_any hv t3 ⟨#[]⟩ (by decide)
    rw [show (⟨#[]⟩ : ByteArray).data.toList = [] from rfl, y4] at this
    exact this
  have hf1 : ∀ (v : World) (a b g cap m : Nat), PV v a b g cap m V4 → Calls Tryz.prog 9 #[.pointer (some ⟨a, 0, none⟩), .string ⟨#[120]⟩] v fun e w' => e = .returned (.bool true) ∧ Below v.heap.size v w' := fun v a b g cap m hv => by
    have := vfits_any hv ⟨#[120]⟩ (by decide)
    rw [show (⟨#[120]⟩ : ByteArray).data.toList = [120] from rfl, y5] at this
    exact this
  obtain ⟨Z, hZ⟩ : ∃ Z, Z = tx (List.replicate 200 0) := ⟨_, rfl⟩
  obtain ⟨OZ, hOZ⟩ : ∃ OZ, OZ = Obj.cells (byteRow (List.replicate 200 0)) 5 := ⟨_, rfl⟩
  have hf2 : ∀ (v : World) (a b g cap m : Nat), PV v a b g cap m V4 → Calls Tryz.prog 9 #[.pointer (some ⟨a, 0, none⟩), .string Z] v fun e w' => e = .returned (.bool false) ∧ Below v.heap.size v w' := fun v a b g cap m hv => by
    have := vfits_any hv Z (by rw [hZ, tx_size, List.length_replicate]; omega)
    rw [hZ, tx_list, y6] at this
    rw [hZ]
    exact this
  have mk : ∀ W : World, (Instr.makeSlice 51 (.int .i64 200) (.int .i64 200)).run Tryz.prog W = .ok (.slice (some ⟨W.heap.size, 0, none⟩) 200 200) (W.alloc OZ) := fun W => by rw [hOZ]; exact made_zeros12 W
  have cv : ∀ (W : World), (convert 51 9 (.slice (some ⟨W.heap.size, 0, none⟩) 200 200)).run Tryz.prog (W.alloc OZ) = .ok (.string Z) (W.alloc OZ) := fun W => by
    have h : (W.alloc OZ).heap[W.heap.size]? = some (.cells (byteRow (List.replicate 200 0)) 5 (0, 0)) := by rw [hOZ]; exact heap_alloc_new W _
    have h2 := byteRow_text h 200
    rw [List.length_replicate] at h2
    rw [hZ]; exact h2
  have HT := Lib.hid hT
  clear hd0 p1 p2 p3 q1 q2 q3 q4 q5 r1 r2 r3 r4 s1 s2 s3 s4 t1 t2 t3 t4 u1 u2 u3 u4 u5 x6 y1 y2 y3 y4 y5 y6 hT hsl hs2 hZ hOZ
  go_enter Tryz.func5, Tryz.ntmps5
  go_upto_region 4 with (go_at_call 15; refine hnew.mono ?_; rintro e w1 ⟨b, g, cp, m, rfl, hp, hb, hg, hm, hb1⟩; have HP1 := Lib.hid hp; have HB1 := Lib.hid hb1; have HN := Lib.hid (And.intro hb (And.intro hg hm)); clear hp hb1 hb hg hm)
  go_upto_region 7 with (go_at_call 13; refine (hop1 _ _ _ _ _ HP1.out (HT.out.below HB1.out)).mono ?_; rintro e w2 ⟨a, rfl, hp, ha, hb2⟩; have HP2 := Lib.hid hp; have HB2 := Lib.hid (HB1.out.trans (hb2.below HN.out.1 HN.out.2.1 HN.out.2.2 HB1.out.size)); have HNA := Lib.hid (Nat.le_trans HB1.out.size ha); clear hp hb2 ha)
  go_upto_region 8 with (go_at_call 6; refine (hap1 _ _ _ _ _ _ HP2.out (HT.out.below HB2.out)).mono ?_; rintro e w3 ⟨rfl, hp, hb3⟩; have HP3 := Lib.hid hp; have HB3 := Lib.hid (HB2.out.trans (hb3.below HNA.out HN.out.1 HN.out.2.1 HN.out.2.2 HB2.out.size)); clear hp hb3)
  go_upto_region 9 with (go_at_call 7; refine (hsn _ _ _ _ _ _ HP3.out (HT.out.below HB3.out)).mono ?_; rintro e w4 ⟨rfl, hp, hb4⟩; have HP4 := Lib.hid hp; have HB4 := Lib.hid (HB3.out.trans (hb4.below HNA.out HN.out.1 HN.out.2.1 HN.out.2.2 HB3.out.size)); clear hp hb4)
  go_upto_region 10 with (go_at_call 6; refine (hap2 _ _ _ _ _ _ HP4.out (HT.out.below HB4.out)).mono ?_; rintro e w5 ⟨rfl, hp, hb5⟩; have HP5 := Lib.hid hp; have HB5 := Lib.hid (HB4.out.trans (hb5.below HNA.out HN.out.1 HN.out.2.1 HN.out.2.2 HB4.out.size)); clear hp hb5)
  go_upto_region 11 with (go_at_call 13; refine (hop2 _ _ _ _ _ HP5.out.dev (HT.out.below HB5.out)).mono ?_; rintro e w6 ⟨a2, x, c, rfl, hp, _, hb6, hx⟩; have HP6 := Lib.hid (HP5.out.call hp hb6); have HB6 := Lib.hid (HB5.out.trans (hb6.below HN.out.1 HN.out.2.1 HN.out.2.2 HB5.out.size)); have HX6 := Lib.hid (row_one hx); clear hp hb6 hx)
  obtain ⟨bl, off, rfl, _, xc0⟩ := HX6.out
  have xc : w6.cell? ⟨bl, off, none⟩ = some (.string ⟨#[116, 119, 111]⟩) := xc0
  clear xc0 hop1 hap1 hsn hap2 hop2 hnew
  go_wp2_with (first
    | (go_at_call 13; refine (hop3 _ _ _ _ _ HP6.out.dev).mono ?_; rintro e w7 ⟨rfl, rfl⟩)
    | (go_at_call 10; refine (hep _ _ _ _ _ _ HP6.out).mono ?_; rintro e w8 ⟨rfl, rfl⟩)
    | (go_at_call 11; refine (hsq _ _ _ _ _ _ HP6.out).mono ?_; rintro e w9 ⟨rfl, rfl⟩)
    | (go_at_call 12; refine (hcl _ _ _ _ _ _ HP6.out).mono ?_; rintro e w10 ⟨rfl, rfl⟩)
    | (go_at_call 8; refine (hro _ _ _ _ _ _ HP6.out).mono ?_; rintro e w11 ⟨rfl, hb⟩; have HP7 := Lib.hid (HP6.out.step hb); have HB7 := Lib.hid (HB6.out.trans (hb.mono HB6.out.size)); clear hb)
    | (go_at_call 9; refine (hf1 _ _ _ _ _ _ HP7.out).mono ?_; rintro e w12 ⟨rfl, hb⟩; have HP8 := Lib.hid (HP7.out.step (hb.alloc hb.size OZ)); have HB8 := Lib.hid (HB7.out.trans ((hb.alloc hb.size OZ).mono HB7.out.size)); clear hb hf1)
    | (go_at_call 9; refine (hf2 _ _ _ _ _ _ HP8.out).mono ?_; rintro e w13 ⟨rfl, hb⟩; have HB9 := Lib.hid (HB8.out.trans (hb.mono HB8.out.size)); clear hb))
  go_ret
  exact ⟨rfl, HB9.out⟩
end Go.Proofs.YtcbmecpeockdeaaGreatDoor
