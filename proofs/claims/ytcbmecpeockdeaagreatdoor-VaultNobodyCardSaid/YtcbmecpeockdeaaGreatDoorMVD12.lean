/- The program's Open of a vault: on a device that has none yet, on one that has; and what it refuses. -/
import Derived.Test.YtcbmecpeockdeaaGreatDoorMOcount
import Derived.Test.YtcbmecpeockdeaaGreatDoorVC12
namespace Go.Proofs.YtcbmecpeockdeaaGreatDoor
open Go.RowKit Go.Maps

theorem But.buts {a b g m : Nat} {w x y : World} (h : But b g m w x) (k : Buts a b g m x y) (ha : w.heap.size ≤ a) : But b g m w y :=
  ⟨k.os.trans h.os, k.tape.trans h.tape, k.output.trans h.output, Nat.le_trans h.size k.size, fun i hi h1 h2 h3 => (k.block i (Nat.lt_of_lt_of_le hi h.size) (by omega) h1 h2 h3).trans (h.block i hi h1 h2 h3)⟩
theorem Txs.aside {A B : Nat} {w : World} {x : Option Addr} {xs : List (List UInt8)} (h : Txs A B w x xs) (r j : Nat) (v : Value) (hr : r < A) : Txs A B (w.setCell ⟨r, j, none⟩ v) x xs := by
  rcases h with h | ⟨bl, off, ha, h1, h2, hc⟩
  · exact Or.inl h
  · refine Or.inr ⟨bl, off, ha, h1, h2, fun i hi => ?_⟩
    rw [← hc i hi]
    exact World.cell?_setCell_other w ⟨r, j, none⟩ ⟨bl, off + i, none⟩ v (fun e => by injection e with e; omega)
theorem results_four {fn : Func} {t u v x : Tmp} (h : fn.results = #[.tmp t, .tmp u, .tmp v, .tmp x]) (tmps : Array Value) (P : Program) (w : World) :
    (results fn tmps).run P w = .ok (.tuple #[tmps.getD t undef, tmps.getD u undef, tmps.getD v undef, tmps.getD x undef]) w := by
  simp [results, h]
/-- What Open refuses of its arguments. -/
def outside12 (n : Nat) (s : Int) : Int := if 1 ≤ s ∧ s ≤ 500 ∧ 2 * s < n then 0 else 2
theorem voutside_any {w : World} {b g cap m : Nat} {d : Dv} (h : PDev w b g cap m d) (hd : d.Ok) (s : Int) :
    Calls Tryz.prog 26 #[.pointer (some ⟨b, 0, none⟩), .int .i64 s] w fun e w' => e = .returned (.int .i64 (outside12 d.cells.length s)) ∧ w = w' := by
  have hs := psize_any h
  have h0 := hd.some
  generalize d.cells.length = L at *
  have e0 : ((L : Int) == 0) = false := by rw [beq_eq_false_iff_ne]; omega
  unfold outside12
  clear h hd
  by_cases q1 : s < 1
  · have e1 : decide (s < 1) = true := decide_eq_true q1
    rw [if_neg (by omega)]
    clear q1
    go_enter Tryz.func26, Tryz.ntmps26
    go_wp2_with (go_at_call 44; refine hs.mono ?_; rintro e w1 ⟨rfl, rfl⟩)
    go_ret
    exact ⟨rfl, rfl⟩
  have e1 : decide (s < 1) = false := decide_eq_false q1
  by_cases q2 : 500 < s
  · have e2 : decide (500 < s) = true := decide_eq_true q2
    rw [if_neg (by omega)]
    clear q1 q2
    go_enter Tryz.func26, Tryz.ntmps26
    go_wp2_with (go_at_call 44; refine hs.mono ?_; rintro e w1 ⟨rfl, rfl⟩)
    go_ret
    exact ⟨rfl, rfl⟩
  have e2 : decide (500 < s) = false := decide_eq_false q2
  have iw : IntKind.i64.wrap (2 * s) = 2 * s := IntWalk.i64_in _ (by omega)
  by_cases q3 : (L : Int) ≤ 2 * s
  · have e3 : decide ((L : Int) ≤ 2 * s) = true := decide_eq_true q3
    rw [if_neg (by omega)]
    clear q1 q2 q3
    go_enter Tryz.func26, Tryz.ntmps26
    go_wp2_with (go_at_call 44; refine hs.mono ?_; rintro e w1 ⟨rfl, rfl⟩)
    go_ret
    exact ⟨rfl, rfl⟩
  · have e3 : decide ((L : Int) ≤ 2 * s) = false := decide_eq_false q3
    rw [if_pos (by omega)]
    clear q1 q2 q3
    go_enter Tryz.func26, Tryz.ntmps26
    go_wp2_with (go_at_call 44; refine hs.mono ?_; rintro e w1 ⟨rfl, rfl⟩)
    go_ret
    exact ⟨rfl, rfl⟩
/-- Slots beyond their limits. -/
theorem vopen_arg {w : World} {b g cap m : Nat} {d : Dv} (h : PDev w b g cap m d) (hd : d.Ok) (s : Int) (t : ByteArray) (hs : outside12 d.cells.length s ≠ 0) :
    Calls Tryz.prog 13 #[.pointer (some ⟨b, 0, none⟩), .int .i64 s, .string t] w fun e w' => e = .returned (.tuple #[.pointer none, .string ⟨#[]⟩, .slice none 0 0, .int .i64 2]) ∧ w = w' := by
  have ho := voutside_any h hd s
  have h2 : outside12 d.cells.length s = 2 := by unfold outside12 at hs ⊢; split at hs <;> simp_all
  rw [h2] at ho
  clear h hd hs h2
  go_enter Tryz.func13, Tryz.ntmps13
  go_wp2_with (go_at_call 26; refine ho.mono ?_; rintro e w1 ⟨rfl, rfl⟩)
  refine bodyPost_ret (results_four rfl _ _ _) rfl ?_
  exact ⟨rfl, rfl⟩
/-- No device. -/
theorem vopen_no {w : World} (s : Int) (t : ByteArray) :
    Calls Tryz.prog 13 #[.pointer none, .int .i64 s, .string t] w fun e w' => e = .returned (.tuple #[.pointer none, .string ⟨#[]⟩, .slice none 0 0, .int .i64 1]) ∧ w = w' := by
  have hs := psize_no (w := w) (v := .pointer none) (Or.inl rfl)
  have ho : Calls Tryz.prog 26 #[.pointer none, .int .i64 s] w fun e w' => e = .returned (.int .i64 1) ∧ w = w' := by
    go_enter Tryz.func26, Tryz.ntmps26
    go_wp2_with (go_at_call 44; refine hs.mono ?_; rintro e w1 ⟨rfl, rfl⟩)
    go_ret
    exact ⟨rfl, rfl⟩
  clear hs
  go_enter Tryz.func13, Tryz.ntmps13
  go_wp2_with (go_at_call 26; refine ho.mono ?_; rintro e w1 ⟨rfl, rfl⟩)
  refine bodyPost_ret (results_four rfl _ _ _) rfl ?_
  exact ⟨rfl, rfl⟩
end Go.Proofs.YtcbmecpeockdeaaGreatDoor
namespace Go.Proofs.YtcbmecpeockdeaaGreatDoor
open Go.RowKit Go.Maps

def firstVt (d : Dv) (s : Nat) : Vt := ⟨d, s, 0, 0, 0, false⟩
theorem first_ok {d : Dv} (hd : d.Ok) {s : Nat} (hs : 1 ≤ s ∧ s ≤ 500 ∧ 2 * s < d.cells.length) : (firstVt d s).Ok :=
  ⟨hd, hs, ⟨Int.le_refl 0, by show (0 : Int) ≤ _; omega⟩, ⟨Int.le_refl 0, by show (0 : Int) ≤ (d.cells.length : Int) - 2 * (s : Int); omega⟩⟩
set_option maxRecDepth 100000 in
set_option maxHeartbeats 4000000 in
theorem vopen_first {w : World} {b g cap m : Nat} {d : Dv} (h : PDev w b g cap m d) (hd : d.Ok) (ho : d.ops < 9223372036854700000) (hT : Tab w) (s : Nat) (hs : 1 ≤ s ∧ s ≤ 500 ∧ 2 * s < d.cells.length) (t : ByteArray) (ht : t.size ≤ 281474976710656) (hI : openI d s = -1) (hE : openE d s t.data.toList = 0) :
    Calls Tryz.prog 13 #[.pointer (some ⟨b, 0, none⟩), .int .i64 s, .string t] w fun e w' => ∃ a, e = .returned (.tuple #[.pointer (some ⟨a, 0, none⟩), .string t, .slice none 0 0, .int .i64 0]) ∧ PV w' a b g cap m (openV d s t.data.toList) ∧ w.heap.size ≤ a ∧ But b g m w w' := by
  have hH : heldE d s = 0 := by
    unfold openE at hE
    split at hE
    · rename_i q; exact absurd hE q
    · rename_i q; omega
  have hS : snapE d s t.data.toList = 0 := by
    unfold openE at hE
    rw [if_neg (by omega), if_pos hI] at hE
    exact hE
  have hou := voutside_any h hd (s : Int)
  have h0 : outside12 d.cells.length (s : Int) = 0 := by unfold outside12; rw [if_pos (by omega)]
  rw [h0] at hou
  obtain ⟨W, hW⟩ : ∃ W, W = w.alloc (.cells #[.pointer (some ⟨b, 0, none⟩), .int .i64 s, .int .i64 0, .int .i64 0, .int .i64 0, .bool false] 26 (0, 0)) := ⟨_, rfl⟩
  have b0 : Below w.heap.size w W := by rw [hW]; exact (Below.refl _ w).alloc (Nat.le_refl _) _
  have z0 : W.heap[w.heap.size]? = some (.cells #[.pointer (some ⟨b, 0, none⟩), .int .i64 s, .int .i64 0, .int .i64 0, .int .i64 0, .bool false] 26 (0, 0)) := by rw [hW]; exact heap_alloc_new w _
  have hlt := h.lt
  have HP : Hid (PV W w.heap.size b g cap m (firstVt d s)) := Lib.hid ⟨z0, h.step b0, by omega, by omega, by omega⟩
  have hk := first_ok hd hs
  have hhe := vheld_any HP.out hk
  obtain ⟨hza, hzb⟩ := held_size hd s
  have hch := fun u (hu : Tab u) => pchoose9_any (tx (heldA d s)) (tx (heldB d s)) (by rw [tx_size]; omega) (by rw [tx_size]; omega) u hu
  simp only [tx_list] at hch
  have hI2 : pickI (heldA d s) (heldB d s) = -1 := hI
  rw [hI2] at hch
  have hsn := fun u (hu : PV u w.heap.size b g cap m (firstVt d s)) (hv : Tab u) => vputSnap_any hu hk rfl ho hv t ht
  have hcl := fun u => clone_any t ht u
  have e1 : heldE (firstVt d s).d (firstVt d s).s = 0 := hH
  have e2 : snapE (firstVt d s).d (firstVt d s).s t.data.toList = 0 := hS
  have e3 : (firstVt d s).snap0 t.data.toList = openV d s t.data.toList := by
    unfold Vt.snap0 openV
    rw [if_pos e2, if_pos hI]
    rfl
  rw [e1] at hhe
  rw [e2, e3] at hsn
  have e4 : heldA (firstVt d s).d (firstVt d s).s = heldA d s := rfl
  have e5 : heldB (firstVt d s).d (firstVt d s).s = heldB d s := rfl
  rw [e4, e5] at hhe
  generalize tx (heldA d s) = A at *
  generalize tx (heldB d s) = B at *
  generalize pickG (heldA d s) (heldB d s) = G at *
  generalize openV d s t.data.toList = V1 at *
  generalize firstVt d s = V0 at *
  have HB0 := Lib.hid (But.of_below (b := b) (g := g) (m := m) b0)
  have HT := Lib.hid (hT.below b0)
  clear h hd ho hT hs ht hI hE hH hS h0 b0 z0 hlt hk hza hzb hI2 e1 e2 e3 e4 e5
  go_enter Tryz.func13, Tryz.ntmps13
  go_upto_region 5 with (go_at_call 26; refine hou.mono ?_; rintro e w1 ⟨rfl, rfl⟩)
  rw [← hW]
  clear hW
  go_upto_region 9 with (first
    | (go_at_call 27; refine hhe.mono ?_; rintro e w2 ⟨rfl, hb2⟩; have HP2 := Lib.hid (HP.out.step hb2); have HT2 := Lib.hid (HT.out.below hb2); have HB2 := Lib.hid (HB0.out.step hb2); clear hb2)
    | (go_at_call 28; refine (hch _ HT2.out).mono ?_; rintro e w3 ⟨y, rfl, _, hb3⟩; have HP3 := Lib.hid (HP2.out.step hb3); have HT3 := Lib.hid (HT2.out.below hb3); have HB3 := Lib.hid (HB2.out.step hb3); clear hb3))
  have b4 : Below w3.heap.size w3 (w3.alloc (.cells #[.int .i64 G, .string y] 62)) := (Below.refl _ w3).alloc (Nat.le_refl _) _
  have HP4 := Lib.hid (HP3.out.step b4)
  have HT4 := Lib.hid (HT3.out.below b4)
  have HB4 := Lib.hid (HB3.out.step b4)
  clear b4
  generalize w3.alloc (.cells #[.int .i64 G, .string y] 62) = w4 at *
  go_wp2_with (first
    | (go_at_call 21; refine (hsn _ HP4.out HT4.out).mono ?_; rintro e w5 ⟨rfl, hp5, hb5⟩; have HP5 := Lib.hid hp5; have HB5 := Lib.hid (HB4.out.buts hb5 (Nat.le_refl _)); clear hp5 hb5)
    | (go_at_call 29; refine (hcl _).mono ?_; rintro e w6 ⟨rfl, hb6⟩; have HP6 := Lib.hid (HP5.out.step hb6); have HB6 := Lib.hid (HB5.out.step hb6); clear hb6))
  refine bodyPost_ret (results_four rfl _ _ _) rfl ?_
  exact ⟨_, rfl, HP6.out, Nat.le_refl _, HB6.out⟩
set_option maxRecDepth 100000 in
set_option maxHeartbeats 4000000 in
theorem vopen_again {w : World} {b g cap m : Nat} {d : Dv} (h : PDev w b g cap m d) (hd : d.Ok) (hT : Tab w) (s : Nat) (hs : 1 ≤ s ∧ s ≤ 500 ∧ 2 * s < d.cells.length) (t : ByteArray) (hI : openI d s ≠ -1) (hE : openE d s t.data.toList = 0) :
    Calls Tryz.prog 13 #[.pointer (some ⟨b, 0, none⟩), .int .i64 s, .string t] w fun e w' => ∃ a x c, e = .returned (.tuple #[.pointer (some ⟨a, 0, none⟩), .string (tx (openT d s t.data.toList)), .slice x (openB d s).length c, .int .i64 0]) ∧ PV w' a b g cap m (openV d s t.data.toList) ∧ w.heap.size ≤ a ∧ But b g m w w' ∧ (openB d s).length ≤ c ∧ Txs w.heap.size w'.heap.size w' x (openB d s) := by
  have hH : heldE d s = 0 := by
    unfold openE at hE
    split at hE
    · rename_i q; exact absurd hE q
    · rename_i q; omega
  have hL : d.loadE (2 * (s : Int)) ((d.cells.length : Int) - 2 * (s : Int)) = 0 := by
    unfold openE at hE
    rw [if_neg (by omega), if_neg hI] at hE
    exact hE
  have hou := voutside_any h hd (s : Int)
  have h0 : outside12 d.cells.length (s : Int) = 0 := by unfold outside12; rw [if_pos (by omega)]
  rw [h0] at hou
  obtain ⟨W, hW⟩ : ∃ W, W = w.alloc (.cells #[.pointer (some ⟨b, 0, none⟩), .int .i64 s, .int .i64 0, .int .i64 0, .int .i64 0, .bool false] 26 (0, 0)) := ⟨_, rfl⟩
  have b0 : Below w.heap.size w W := by rw [hW]; exact (Below.refl _ w).alloc (Nat.le_refl _) _
  have z0 : W.heap[w.heap.size]? = some (.cells #[.pointer (some ⟨b, 0, none⟩), .int .i64 s, .int .i64 0, .int .i64 0, .int .i64 0, .bool false] 26 (0, 0)) := by rw [hW]; exact heap_alloc_new w _
  have hlt := h.lt
  have HP : Hid (PV W w.heap.size b g cap m (firstVt d s)) := Lib.hid ⟨z0, h.step b0, by omega, by omega, by omega⟩
  have hk := first_ok hd hs
  have hhe := vheld_any HP.out hk
  obtain ⟨hza, hzb⟩ := held_size hd s
  have hch := fun u (hu : Tab u) => pchoose9_any (tx (heldA d s)) (tx (heldB d s)) (by rw [tx_size]; omega) (by rw [tx_size]; omega) u hu
  simp only [tx_list] at hch
  have hI2 : decide (openI d s < 0) = false := decide_eq_false (by
    have := pick_span (heldA d s) (heldB d s)
    unfold openI at hI ⊢
    omega)
  have hjo := fun u (hu : PV u w.heap.size b g cap m (firstVt d s)) => vjournal_any hu hk
  have hld := fun u (hu : PDev u b g cap m d) (hv : Tab u) => ptload_any hu hd hv (2 * (s : Int)) ((d.cells.length : Int) - 2 * (s : Int)) (openG d s) (by have := hd.few; omega)
  rw [hL] at hld
  have e0 : d.loadV (2 * (s : Int)) ((d.cells.length : Int) - 2 * (s : Int)) (openG d s) = openL d s := rfl
  rw [e0] at hld
  have e1 : heldE (firstVt d s).d (firstVt d s).s = 0 := hH
  have e3 : openV d s t.data.toList = ⟨d, s, openG d s, ((openL d s).1.length : Int), ((openL d s).2 : Nat), false⟩ := by unfold openV; rw [if_neg hI]
  have e4 : heldA (firstVt d s).d (firstVt d s).s = heldA d s := rfl
  have e5 : heldB (firstVt d s).d (firstVt d s).s = heldB d s := rfl
  have e6 : openB d s = (openL d s).1 := by unfold openB; rw [if_neg hI]
  have e7 : openT d s t.data.toList = pickT (heldA d s) (heldB d s) := by unfold openT; rw [if_neg hI]
  have e8 : (firstVt d s).f = 2 * (s : Int) := rfl
  have e9 : (firstVt d s).n = (d.cells.length : Int) - 2 * (s : Int) := rfl
  have e10 : pickG (heldA d s) (heldB d s) = openG d s := rfl
  have e11 : pickI (heldA d s) (heldB d s) = openI d s := rfl
  rw [e1, e4, e5] at hhe
  rw [e10, e11] at hch
  rw [e8, e9] at hjo
  rw [e3, e6, e7]
  obtain ⟨V0, hV0⟩ : ∃ V0, V0 = firstVt d s := ⟨_, rfl⟩
  have HV0 := Lib.hid hV0
  rw [← hV0] at hjo HP
  generalize tx (heldA d s) = A at *
  generalize tx (heldB d s) = B at *
  generalize openG d s = G at *
  generalize openI d s = I at *
  obtain ⟨N, hN⟩ : ∃ N, (d.cells.length : Int) - 2 * (s : Int) = N := ⟨_, rfl⟩
  obtain ⟨F, hF⟩ : ∃ F, 2 * (s : Int) = F := ⟨_, rfl⟩
  simp only [hN] at hjo hld
  simp only [hF] at hjo hld
  generalize (openL d s).1 = xs at *
  generalize (openL d s).2 = n at *
  have HB0 := Lib.hid (But.of_below (b := b) (g := g) (m := m) b0)
  have HT := Lib.hid (hT.below b0)
  clear h hd hT hs hI hE hH hL h0 b0 z0 hlt hk hza hzb e0 e1 e3 e4 e5 e6 e7 e8 e9 e10 e11 hV0 hN hF
  go_enter Tryz.func13, Tryz.ntmps13
  go_upto_region 5 with (go_at_call 26; refine hou.mono ?_; rintro e w1 ⟨rfl, rfl⟩)
  rw [← hW]
  clear hW
  go_upto_region 9 with (first
    | (go_at_call 27; refine hhe.mono ?_; rintro e w2 ⟨rfl, hb2⟩; have HP2 := Lib.hid (HP.out.step hb2); have HT2 := Lib.hid (HT.out.below hb2); have HB2 := Lib.hid (HB0.out.step hb2); clear hb2)
    | (go_at_call 28; refine (hch _ HT2.out).mono ?_; rintro e w3 ⟨y, rfl, hy, hb3⟩; have HP3 := Lib.hid (HP2.out.step hb3); have HT3 := Lib.hid (HT2.out.below hb3); have HB3 := Lib.hid (HB2.out.step hb3); have HY := Lib.hid (tx_of hy.out); clear hb3 hy))
  obtain ⟨w4, hw4⟩ : ∃ w4, w4 = w3.alloc (.cells #[.int .i64 G, .string y] 62) := ⟨_, rfl⟩
  have b4 : Below w3.heap.size w3 w4 := by rw [hw4]; exact (Below.refl _ w3).alloc (Nat.le_refl _) _
  have z4 : w4.heap[w3.heap.size]? = some (.cells #[.int .i64 G, .string y] 62 (0, 0)) := by rw [hw4]; exact heap_alloc_new w3 _
  have HP4 := Lib.hid (HP3.out.step b4)
  have HT4 := Lib.hid (HT3.out.below b4)
  have HB4 := Lib.hid (HB3.out.step b4)
  have HZ4 := Lib.hid z4
  have HLW : Hid (w.heap.size < w3.heap.size ∧ w3.heap.size < w4.heap.size) := Lib.hid ⟨HP3.out.lt, obj_lt z4⟩
  rw [← hw4]
  clear hw4 b4 z4
  have HVD : Hid (∀ u, PV u w.heap.size b g cap m V0 → PDev u b g cap m d) := Lib.hid fun u hu => by
    have := hu.dev
    rw [HV0.out] at this
    exact this
  go_upto_region 14 with fail
  have l0 := cell_of (j := 0) (show w4.drew.heap[w3.heap.size]? = _ from HZ4.out) rfl
  go_cut [8, 9, 16] (fun s8 s9 s16 wx => ∃ (x : Option Addr) (c : Nat), s8 = .slice x xs.length c ∧ s9 = .int .i64 0 ∧ s16 = .int .i64 (n : Nat) ∧ Hid (PV wx w.heap.size b g cap m V0 ∧ But b g m w wx ∧ Txs w4.heap.size wx.heap.size wx x xs ∧ xs.length ≤ c ∧ wx.heap[w3.heap.size]? = some (.cells #[.int .i64 G, .string y] 62 (0, 0))))
  case first =>
    go_region_held3 (fun u => u.cell? ⟨w3.heap.size, 0, none⟩ = some (.int .i64 G)) (first | go_keep)
      (first
        | (go_at_call 23; refine (hjo _ HP4.out.drew).mono ?_; rintro e w5 ⟨rfl, hb5⟩; have HP5 := Lib.hid (HP4.out.drew.step hb5); have B5 := Lib.hid hb5; have HZ5 := Lib.hid (old_obj hb5 (show w4.drew.heap[w3.heap.size]? = _ from HZ4.out)); have l1 := cell_of (j := 0) HZ5.out rfl; clear hb5)
        | (go_at_call 30; refine (hld _ (HVD.out _ HP5.out) (HT4.out.drew.below B5.out)).mono ?_; rintro e w6 ⟨x, c, rfl, hc, hx, hb6⟩; have HX6 := Lib.hid (And.intro hc (And.intro hx hb6)); have HZ6 := Lib.hid (old_obj hb6 HZ5.out); have l2 := cell_of (j := 0) HZ6.out rfl; clear hc hx hb6))
    all_goals
      go_wp2_with fail
      go_meet
      exact ⟨_, _, rfl, rfl, rfl, Lib.hid ⟨HP5.out.step HX6.out.2.2, (HB4.out.drew.step B5.out).step HX6.out.2.2, HX6.out.2.1.wide B5.out.size (Nat.le_refl _), HX6.out.1, HZ6.out⟩⟩
  case rest =>
  obtain ⟨x, c, rfl, rfl, rfl, HX⟩ := hcut
  obtain ⟨p0, p1, p2, p3, p4⟩ := HX.out
  obtain ⟨⟨c0, c1, c2, c3, c4, c5⟩, f2, f3, f4, f5⟩ := six_cells p0.box
  have m0 := cell_of (j := 0) p4 rfl
  clear l0 p0 p1 p2 p3 p4
  go_upto_region 18 with fail
  obtain ⟨W7, hW7⟩ : ∃ W7, W7 = ((wc.setCell ⟨w.heap.size, 2, none⟩ (.int .i64 G)).setCell ⟨w.heap.size, 3, none⟩ (.int .i64 xs.length)).setCell ⟨w.heap.size, 4, none⟩ (.int .i64 (n : Nat)) := ⟨_, rfl⟩
  rw [← hW7]
  have hlw := HLW.out
  obtain ⟨p0, p1, p2, p3, p4⟩ := HX.out
  have g0 : PV W7 w.heap.size b g cap m ⟨d, s, G, (xs.length : Int), (n : Nat), false⟩ := by
    have := ((p0.set_ep G).set_seq (xs.length : Int)).set_at (n : Nat)
    rw [← hW7, HV0.out] at this
    exact this
  have g1 : But b g m w W7 := by
    rw [hW7]
    exact ((p1.cell _ (Or.inr (Or.inr (Or.inr (Nat.le_refl _))))).cell _ (Or.inr (Or.inr (Or.inr (Nat.le_refl _))))).cell _ (Or.inr (Or.inr (Or.inr (Nat.le_refl _))))
  have hsz : W7.heap.size = wc.heap.size := by rw [hW7]; simp [World.setCell]
  have g2 : Txs w.heap.size W7.heap.size W7 x xs := by
    rw [hsz, hW7]
    exact (((p2.aside _ _ _ (by omega)).aside _ _ _ (by omega)).aside _ _ _ (by omega)).wide (by omega) (Nat.le_refl _)
  have g4 : W7.heap[w3.heap.size]? = some (.cells #[.int .i64 G, .string y] 62 (0, 0)) := by
    rw [hW7, cell_else _ _ _ _ _ (by omega), cell_else _ _ _ _ _ (by omega), cell_else _ _ _ _ _ (by omega)]
    exact p4
  have m1 := cell_of (j := 1) g4 rfl
  have HG := Lib.hid (And.intro g0 (And.intro g1 (And.intro g2 p3)))
  clear p0 p1 p2 p3 p4 c0 c1 c2 c3 c4 c5 f2 f3 f4 f5 m0 g0 g1 g2 g4 hsz hW7 hlw HX
  go_quiet (fail)
  go_wp2
  refine bodyPost_ret (results_four rfl _ _ _) rfl ?_
  have hb := below_drewN W7 nq
  exact ⟨_, x, c, by rw [← HY.out]; rfl, HG.out.1.step hb, Nat.le_refl _, HG.out.2.1.step hb, HG.out.2.2.2, HG.out.2.2.1.step hb⟩
end Go.Proofs.YtcbmecpeockdeaaGreatDoor
