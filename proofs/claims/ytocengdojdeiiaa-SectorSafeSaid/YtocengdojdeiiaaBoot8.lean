/- The program's Boot. -/
import Derived.Test.YtocengdojdeiiaaDown8
namespace Go.Proofs.Ytocengdojdeiiaa
open Go.RowKit Go.Maps

theorem psettle_le {w : World} {b g cap m : Nat} {d : Dv} (h : PDev w b g cap m d) (hd : d.Ok) (k j : Nat) (hk : k < d.cells.length) (hl : (d.cells.getD k sec0).loose = true) (hj : j ≤ 64) (x : ByteArray) (hx : x = (d.cells.getD k sec0).now.extract 0 j ++ (d.cells.getD k sec0).safe.extract j 64) :
    Calls Try.prog 40 #[.pointer (some ⟨b, 0, none⟩), .int .i64 k, .int .i64 j] w fun e w' => e = .returned (.tuple #[]) ∧ PDev w' b g cap m ⟨d.cells.set k ⟨x, x, false⟩, d.ops, d.armed, d.dead⟩ ∧ But b g m w w' := by
  by_cases e : j = 64
  · subst e
    refine psettle_all h hd k hk hl x ?_
    rw [hx]
    refine text_eq ?_
    have hs := (fit_at hd.fit hk).1
    simp only [ByteArray.data_append, Array.toList_append, cut_list]
    rw [List.drop_zero, List.take_of_length_le (by rw [text_size]; omega), Nat.sub_self, List.take_zero, List.append_nil]
  · exact psettle_any h hd k j hk hl (by omega) x hx
/-- A slice of bools that has no element, or lies in none of three blocks. -/
def Far (a : Option Addr) (xs : List Bool) (b g m : Nat) : Prop := xs = [] ∨ ∀ x off, a = some ⟨x, off, none⟩ → x ≠ b ∧ x ≠ g ∧ x ≠ m
theorem Bools.but {B b g m : Nat} {w w' : World} {a : Option Addr} {xs : List Bool} (h : Bools B w a xs) (hb : But b g m w w') (h0 : B ≤ w.heap.size) (hne : Far a xs b g m) : Bools B w' a xs := by
  rcases h with h | ⟨x, off, ha, hB, hc⟩
  · exact Or.inl h
  rcases hne with h | hne
  · exact Or.inl h
  · have hn := hne x off ha
    exact Or.inr ⟨x, off, ha, hB, fun j hj => (World.cell?_of_block (w := w) (hb.block x (by omega) hn.1 hn.2.1 hn.2.2)).trans (hc j hj)⟩
theorem Bools.up {B B' : Nat} {w : World} {a : Option Addr} {xs : List Bool} (h : Bools B w a xs) (hB : B ≤ B') : Bools B' w a xs := by
  rcases h with h | ⟨b, off, ha, hb, hc⟩
  · exact Or.inl h
  · exact Or.inr ⟨b, off, ha, by omega, hc⟩

set_option maxHeartbeats 2000000 in
theorem pboot_any {w : World} {b g cap m : Nat} {d : Dv} (h : PDev w b g cap m d) (hd : d.Ok) (ka : Option Addr) (kc : Nat) (ks : List Bool) (torn cut : Int) (hK : Bools w.heap.size w ka ks) (hne : Far ka ks b g m) :
    Calls Try.prog 19 #[.pointer (some ⟨b, 0, none⟩), .agg #[.slice ka ks.length kc, .int .i64 torn, .int .i64 cut]] w fun e w' => e = .returned (.int .i64 0) ∧ PDev w' b g cap m (d.boot ks torn cut) ∧ But b g m w w' := by
  have hlt := h.lt
  obtain ⟨C, hC⟩ : ∃ C : Obj, C = .cells #[.slice ka ks.length kc, .int .i64 torn, .int .i64 cut] 39 := ⟨_, rfl⟩
  have hB0 : Below w.heap.size w (w.alloc C) := (Below.refl _ w).alloc (Nat.le_refl _) _
  have hN0 := heap_alloc_new w C
  have h1 := h.step hB0
  have hma := pmade_any h1 hd
  have hlo := ploose_any h1 hd
  have hsz0 : (w.alloc C).heap.size = w.heap.size + 1 := by simp
  have hK1 := hK.below hB0
  obtain ⟨L, hL⟩ : ∃ L, looseI d.cells = L := ⟨_, rfl⟩
  have hll : L.length ≤ 2000 := by have := looseI_len d.cells; have := hd.few; rw [← hL]; omega
  have HL := Lib.hid hL
  have HFL := Lib.hid (settled_boot d.cells ks torn cut)
  rw [hL] at hlo
  have HP := Lib.hid h1
  have HB0 := Lib.hid hB0
  have HN := Lib.hid hN0
  have HD := Lib.hid hd
  have HK := Lib.hid hK1
  have HNE := Lib.hid hne
  have HLT := Lib.hid hlt
  have HSZ := Lib.hid hsz0
  have HF := Lib.hid (fun i c (h : c.now.size = 64 ∧ c.safe.size = 64) => left_size c i ks torn cut h)
  obtain ⟨F, hF⟩ : ∃ F : Nat → Sec → ByteArray, F = fun i c => leftOf c i ks torn cut := ⟨_, rfl⟩
  have HFE := Lib.hid hF
  rw [← hF] at HFL
  clear h hd h1 hB0 hN0 hK hK1 hL hlt hsz0 hF hne
  go_enter Try.func19, Try.ntmps19
  go_upto_region 1 with fail
  rw [← hC]
  generalize w.alloc C = W1 at *
  rw [hC] at HN
  clear hC
  go_wp2_with (first
    | (go_at_call 41; refine hma.mono ?_; rintro e w1 ⟨rfl, rfl⟩)
    | (go_at_call 39; refine hlo.mono ?_; rintro e w3 ⟨a, c, rfl, hi, hb3⟩; have HI := Lib.hid hi; have HB3 := Lib.hid hb3; clear hi hb3))
  obtain ⟨n, hn⟩ : ∃ n, L.length = n := ⟨_, rfl⟩
  have HNN := Lib.hid hn
  rw [hn] at hll ⊢
  clear hn hma hlo
  go_loopw [13] (fun i' wr => ∃ i : Nat, i' = .int .i64 i ∧ i ≤ n ∧ Hid (PDev wr b g cap m ⟨settled d.cells F i, d.ops, d.armed, d.dead⟩) ∧ Hid (But b g m w wr) ∧ Hid (But b g m W1 wr) ∧ Hid (IntsNew W1.heap.size w3.heap.size wr a L) ∧ Hid (w3.heap.size ≤ wr.heap.size)) (fun i _ => n - (intOf i).toNat)
  case atStart =>
    refine ⟨0, rfl, by omega, Lib.hid ?_, Lib.hid (((But.refl b g m w).step HB0.out).step HB3.out), Lib.hid ((But.refl b g m W1).step HB3.out), HI, Lib.hid (Nat.le_refl _)⟩
    rw [settled_none]
    exact HP.out.step HB3.out
  case round =>
    obtain ⟨i, rfl, hi, hP, hBB, hB1, hI, hS⟩ := hrel
    by_cases hlt : i < n
    · have i1 : (i : Int) < (n : Int) := by omega
      obtain ⟨x, off, rfl, hc⟩ := hI.out.at (k := i) (by rw [HNN.out]; exact hlt)
      obtain ⟨k, hk, hnum⟩ := looseI_at d.cells i (by rw [HL.out, HNN.out]; exact hlt)
      rw [HL.out] at hnum
      rw [hnum] at hc
      obtain ⟨k1, k2, k3⟩ := looseN_get _ _ _ hk
      have hOK : Dv.Ok ⟨settled d.cells F i, d.ops, d.armed, d.dead⟩ := HD.out.settled _ (fun i c h => by rw [HFE.out]; exact HF.out i c h) i _ _ _ HD.out.ops0 HD.out.armed0 HD.out.armed1
      have hat := settled_at d.cells F i k k1
      rw [if_neg (by omega)] at hat
      have hfa := fit_at HD.out.fit k1
      have hlt2 := HLT.out
      have hsz := HSZ.out
      have hbx := But.obj (k := w.heap.size) hB1.out HN.out (by omega) (by omega) (by omega)
      obtain ⟨c0, c1, c2, _⟩ := three_cells hbx
      have hw1 : W1.heap.size ≤ wr.heap.size := hB1.out.size
      have hw2 : w.heap.size ≤ W1.heap.size := by omega
      have hKr : Bools wr.heap.size wr ka ks := (HK.out.but hB1.out hw2 HNE.out).up (Nat.le_trans hw2 hw1)
      have hre := prest_any i ka kc ks torn cut wr hKr
      have hle := rest_le i ks torn cut
      have hset : ∀ W, Below wr.heap.size wr W → Calls Try.prog 40 #[.pointer (some ⟨b, 0, none⟩), .int .i64 k, .int .i64 (restN i ks torn cut)] W fun e w' => e = .returned (.tuple #[]) ∧ PDev w' b g cap m ⟨(settled d.cells F i).set k ⟨F i (d.cells.getD k sec0), F i (d.cells.getD k sec0), false⟩, d.ops, d.armed, d.dead⟩ ∧ But b g m W w' := fun W hW =>
        psettle_le (hP.out.step hW) hOK k _ (by show k < (settled d.cells F i).length; rw [settled_len]; exact k1) (by show ((settled d.cells F i).getD k sec0).loose = true; rw [hat]; exact k2) hle _ (by show _ = ((settled d.cells F i).getD k sec0).now.extract _ _ ++ ((settled d.cells F i).getD k sec0).safe.extract _ _; rw [hat, rest_left _ _ _ _ _ hfa, HFE.out])
      have hmore := settled_more d.cells F i k hk
      rw [← hmore] at hset
      obtain ⟨SS, hSS⟩ : ∃ SS, settled d.cells F (i + 1) = SS := ⟨_, rfl⟩
      rw [hSS] at hset
      have HSS := Lib.hid hSS
      generalize restN i ks torn cut = R at *
      clear hnum k1 k2 k3 hOK hat hmore hSS hk hbx hKr hfa hle hsz hw1 hw2
      go_wp2_with (first
        | (go_at_call 44; refine hre.mono ?_; rintro e w5 ⟨rfl, hb5⟩; have HB5 := Lib.hid hb5; clear hb5)
        | (go_at_call 40; refine (hset _ HB5.out).mono ?_; rintro e w4 ⟨rfl, hp4, hb4⟩; have HP4 := Lib.hid hp4; have HB4 := Lib.hid ((But.of_below (b := b) (g := g) (m := m) HB5.out).trans hb4); clear hp4 hb4))
      go_roundw
      case rel =>
        have hsz := HSZ.out
        exact ⟨i + 1, by go_num, by omega, by rw [HSS.out]; exact HP4, Lib.hid (hBB.out.trans HB4.out), Lib.hid (hB1.out.trans HB4.out), Lib.hid (hI.out.but hS.out HB4.out (by omega) (by omega) (by omega)), Lib.hid (Nat.le_trans hS.out HB4.out.size)⟩
      case measure => simp [intOf]; omega
    · obtain rfl : i = n := by omega
      have HFF : Hid (settled d.cells F i = booted d.cells ks torn cut d.cells.length) := Lib.hid (by
        have := HFL.out
        rwa [show (looseN d.cells).length = i by rw [← HNN.out, ← HL.out]; unfold looseI; rw [List.length_map]] at this)
      obtain ⟨c0, c1, c2, c3, c4, f0, f1, f2, f3, f4⟩ := five_cells hP.out.box
      go_wp2
      go_ret
      refine ⟨rfl, ?_, (hBB.out.cell _ (Or.inl rfl)).cell _ (Or.inl rfl)⟩
      unfold Dv.boot
      rw [← HFF.out]
      exact hP.out.boxed (z := false) (heap_setCell_same _ b 3 _ _ _ (heap_setCell_same _ b 4 _ _ (.bool true) hP.out.box)) (fun k hk => by rw [cell_else _ _ _ _ _ hk, cell_else _ _ _ _ _ hk])
end Go.Proofs.Ytocengdojdeiiaa
