/- The program's readTable. -/
import Derived.Test.YteccahggahpeeaaBatD15
import Derived.Test.YteccahggahpeeaaMPut15
import Derived.Test.YteccahggahpeeaaMStrictA
namespace Go.Proofs.Yteccahggahpeeaa
open Go.RowKit

/-- Rows are read, as many as are told, whether or not there is a fault. -/
def rowsQ (L : List UInt8) (r : Rs) : Nat → Rs × Tb15
  | 0 => (r, [])
  | m + 1 => (textR L (numR L (rowsQ L r m).1 4 999999) 200, (rowsQ L r m).2 ++ [(numV L (rowsQ L r m).1 4 999999, textL L (numR L (rowsQ L r m).1 4 999999) 200)])
theorem numR_stop {L : List UInt8} {r : Rs} (h : r.e ≠ 0) (x m : Int) : numR L r x m = r := by unfold numR; rw [if_neg h]
theorem textR_stop {L : List UInt8} {r : Rs} (h : r.e ≠ 0) (m : Int) : textR L r m = r := by unfold textR; rw [if_neg h]
theorem rowsQ_len (L : List UInt8) (r : Rs) (m : Nat) : (rowsQ L r m).2.length = m := by
  induction m with
  | zero => rfl
  | succ m ih => show (_ ++ [_]).length = _; rw [List.length_append, ih]; rfl
theorem rowsQ_stop (L : List UInt8) (r : Rs) {k : Nat} (h : (rowsQ L r k).1.e ≠ 0) (m : Nat) : (rowsQ L r (k + m)).1 = (rowsQ L r k).1 := by
  induction m with
  | zero => rfl
  | succ m ih =>
    show textR L (numR L (rowsQ L r (k + m)).1 4 999999) 200 = _
    rw [ih, numR_stop h, textR_stop h]
theorem rowsQ_on (L : List UInt8) (r : Rs) : ∀ (m k : Nat), (rowsOn L m (rowsQ L r k).1 (rowsQ L r k).2).1 = (rowsQ L r (k + m)).1 ∧ ((rowsQ L r (k + m)).1.e = 0 → (rowsOn L m (rowsQ L r k).1 (rowsQ L r k).2).2 = (rowsQ L r (k + m)).2)
  | 0, k => ⟨rfl, fun _ => rfl⟩
  | m + 1, k => by
    by_cases h : (rowsQ L r k).1.e = 0
    · have ih := rowsQ_on L r m (k + 1)
      rw [show k + 1 + m = k + (m + 1) by omega] at ih
      have e : rowsOn L (m + 1) (rowsQ L r k).1 (rowsQ L r k).2 = rowsOn L m (rowsQ L r (k + 1)).1 (rowsQ L r (k + 1)).2 := by
        show (if _ then _ else _) = _
        rw [if_pos h]; rfl
      rw [e]; exact ih
    · rw [rows_stop h, rowsQ_stop L r h]
      exact ⟨rfl, fun z => absurd z h⟩
theorem rowsQ_in {L : List UInt8} {r : Rs} (h : Within L r) (m : Nat) : Within L (rowsQ L r m).1 := by
  induction m with
  | zero => exact h
  | succ m ih => exact text_in (num_in ih)
theorem numV_bd {L : List UInt8} (r : Rs) (x : Int) {m : Int} (hm : 0 ≤ m) : 0 ≤ numV L r x m ∧ numV L r x m ≤ m := by
  by_cases h : r.e = 0
  · by_cases h2 : numE L r.p x m = 0
    · obtain ⟨g, g2⟩ := num_zero h2
      unfold numV
      rw [if_pos h, if_pos h2]
      exact ⟨(get_bound g).1, g2⟩
    · unfold numV; rw [if_pos h, if_neg h2]; omega
  · unfold numV; rw [if_neg h]; omega
theorem grow_trans15 {a b c : World} {row : Option Nat} (h : a.grownBy b row) (k : b.grownBy c row) : a.grownBy c row :=
  ⟨k.os.trans h.os, k.tape.trans h.tape, k.output.trans h.output, Nat.le_trans h.size k.size, fun i hi hne => (k.block i (Nat.lt_of_lt_of_le hi h.size) hne).trans (h.block i hi hne)⟩
theorem grow_but15 {a b : World} (h : a.grownBy b none) (row : Option Nat) : a.grownBy b row := ⟨h.os, h.tape, h.output, h.size, fun i hi _ => h.block i hi (by simp)⟩
theorem Mk15.grown {α : Type} {E : Elt α} {g g2 : Nat} {t : TypeId} {n : Nat} {l : List α} {W V : World} (h : Mk15 E g2 t n l W) (hg : W.grownBy V (some g)) (hne : g2 ≠ g) : Mk15 E g2 t n l V := by
  obtain ⟨arr, h1, h2, h3⟩ := h
  exact ⟨arr, by rw [hg.block g2 (obj_lt h1) (fun e => by injection e with e; exact hne e)]; exact h1, h2, h3⟩
theorem Rd.grown_none {W V : World} {g : Nat} {s : ByteArray} {r : Rs} (h : Rd W g s r) (hg : W.grownBy V none) : Rd V g s r := by
  obtain ⟨o, h1, h2⟩ := h
  exact ⟨o, by rw [hg.block g (obj_lt h1) (by simp)]; exact h1, h2⟩
theorem Rd.set {W : World} {g : Nat} {s : ByteArray} {r : Rs} (h : Rd W g s r) {p : Nat} (hp : g ≠ p) (j : Nat) (v : Value) : Rd (W.setCell ⟨p, j, none⟩ v) g s r := by
  obtain ⟨o, h1, h2⟩ := h
  exact ⟨o, by rw [heap_set15 _ _ _ _ _ hp]; exact h1, h2⟩
/-- A table being read. -/
structure Rt15 (w : World) (g g2 n : Nat) (s : ByteArray) (r : Rs) (T : Tb15) (W : World) : Prop where
  grown : w.grownBy W (some g)
  rd : Rd W g s r
  tbl : Mk15 recE g2 67 n T W
  new : w.heap.size ≤ g2
  old : g < w.heap.size
abbrev fnNum (g : Nat) : Value := .func (.func 48) #[.pointer (some ⟨g, 0, none⟩)] #[]
abbrev fnText (g : Nat) : Value := .func (.func 50) #[.pointer (some ⟨g, 0, none⟩)] #[]
set_option maxRecDepth 100000 in
set_option maxHeartbeats 8000000 in
theorem preadt_any (s : ByteArray) (hs : s.size ≤ 4611686018427387904) (r : Rs) (hr : Within s.data.toList r) (g : Nat) (w : World) (h : Rd w g s r) :
    Calls Try.prog 49 #[fnNum g, fnText g] w fun e w' => ∃ (g2 n : Nat), e = .returned (.slice (some ⟨g2, 0, none⟩) n n) ∧ numV s.data.toList r 1 60 = n ∧ Rt15 w g g2 n s (rowsQ s.data.toList (numR s.data.toList r 1 60) n).1 (rowsQ s.data.toList (numR s.data.toList r 1 60) n).2 w' := by
  obtain ⟨i0, hi, hz0, hz1, hz2⟩ := info_parts infoRec
  obtain ⟨n, hn⟩ : ∃ n : Nat, numV s.data.toList r 1 60 = n := ⟨(numV s.data.toList r 1 60).toNat, by have := (numV_bd (L := s.data.toList) r 1 (m := 60) (by omega)).1; omega⟩
  have hn60 : n ≤ 60 := by have := (numV_bd (L := s.data.toList) r 1 (m := 60) (by omega)).2; omega
  have hnum := snum_any s hs r hr g 1 60 w h
  rw [hn] at hnum
  have HN := Lib.hid hn
  have HNU := Lib.hid hnum
  have hr1 := num_in (x := 1) (m := 60) hr
  have HNK : Hid (∀ (q : Rs) (W : World), Within s.data.toList q → Rd W g s q → Calls Try.prog 48 #[.pointer (some ⟨g, 0, none⟩), .int .i64 4, .int .i64 999999] W fun e w' => e = .returned (.int .i64 (numV s.data.toList q 4 999999)) ∧ Rd w' g s (numR s.data.toList q 4 999999) ∧ W.grownBy w' (some g)) := Lib.hid fun q W h1 h2 => snum_any s hs q h1 g 4 999999 W h2
  have HTK : Hid (∀ (q : Rs) (W : World), Within s.data.toList q → Rd W g s q → Calls Try.prog 50 #[.pointer (some ⟨g, 0, none⟩), .int .i64 200] W fun e w' => e = .returned (.string (tx (textL s.data.toList q 200))) ∧ Rd w' g s (textR s.data.toList q 200) ∧ W.grownBy w' (some g)) := Lib.hid fun q W h1 h2 => stext_any s hs q h1 g 200 W h2
  obtain ⟨r1, hr1e⟩ : ∃ r1, numR s.data.toList r 1 60 = r1 := ⟨_, rfl⟩
  rw [hr1e] at HNU hr1 ⊢
  have HIN : Hid (∀ k, Within s.data.toList (rowsQ s.data.toList r1 k).1) := Lib.hid (rowsQ_in hr1)
  have HLE : Hid (∀ k, (rowsQ s.data.toList r1 k).2.length = k) := Lib.hid (rowsQ_len _ _)
  have HOL : Hid (g < w.heap.size) := Lib.hid (by obtain ⟨o, h1, _⟩ := h; exact obj_lt h1)
  have hbt : n * i0.bytes ≤ 281474976710656 := by rw [hz2]; omega
  clear h hnum hn hr1e hr1 hr
  go_enter Try.func49, Try.ntmps49
  go_wp2_with (first
    | (go_at_call 48; refine HNU.out.mono ?_; rintro e w2 ⟨rfl, h1, h2⟩; have H2 := Lib.hid (And.intro h1 h2); clear h1 h2)
    | (at_make; refine wpList_make_full _ rfl _ _ 65 rfl w2.heap.size 67 i0 _ 2 Try.underlying65 hi hz0 hz1 .i64 .i64 _ _ n rfl rfl rfl rfl (by rw [hz2]; omega) (by unfold maxLen; omega) (Nat.le_refl _) ?_))
  intro w3 hown hg
  have H3 : Hid (Rt15 w g w2.heap.size n s (rowsQ s.data.toList r1 0).1 (rowsQ s.data.toList r1 0).2 w3) := Lib.hid ⟨grow_trans15 H2.out.2 (grow_but15 hg _), H2.out.1.grown_none hg, Mk15.start recE hown, H2.out.2.size, HOL.out⟩
  generalize w2.heap.size = g2 at *
  clear hown hg hi hz0 hz1 hz2 hbt H2 HNU
  go_upto_region 3 with fail
  go_loopw [12] (fun s12 wr => ∃ k : Nat, s12 = .int .i64 k ∧ k ≤ n ∧ Hid (Rt15 w g g2 n s (rowsQ s.data.toList r1 k).1 (rowsQ s.data.toList r1 k).2 wr)) (fun k _ => n + 1 - (intOf k).toNat)
  case atStart => exact ⟨0, rfl, by omega, H3⟩
  case round =>
    clear H3
    obtain ⟨k, rfl, hk, H⟩ := hrel
    by_cases hlt : k < n
    · have i1 : (k : Int) < (n : Int) := by omega
      have i3 : (0 : Int) ≤ (k : Int) := by omega
      have hne : g2 ≠ g := by have := H.out.new; have := H.out.old; omega
      have hin := HIN.out k
      have hlen := HLE.out k
      have HST : Hid ((rowsQ s.data.toList r1 (k + 1)).1 = textR s.data.toList (numR s.data.toList (rowsQ s.data.toList r1 k).1 4 999999) 200 ∧ (rowsQ s.data.toList r1 (k + 1)).2 = (rowsQ s.data.toList r1 k).2 ++ [(numV s.data.toList (rowsQ s.data.toList r1 k).1 4 999999, textL s.data.toList (numR s.data.toList (rowsQ s.data.toList r1 k).1 4 999999) 200)]) := Lib.hid ⟨rfl, rfl⟩
      generalize (rowsQ s.data.toList r1 k).1 = q at *
      generalize (rowsQ s.data.toList r1 k).2 = T at *
      have HA := Lib.hid (HNK.out q wr hin H.out.rd)
      have HB : Hid (∀ W, Rd W g s (numR s.data.toList q 4 999999) → Calls Try.prog 50 #[.pointer (some ⟨g, 0, none⟩), .int .i64 200] W fun e w' => e = .returned (.string (tx (textL s.data.toList (numR s.data.toList q 4 999999) 200))) ∧ Rd w' g s (textR s.data.toList (numR s.data.toList q 4 999999) 200) ∧ W.grownBy w' (some g)) := Lib.hid fun W hW => HTK.out _ W (num_in hin) hW
      generalize numR s.data.toList q 4 999999 = q2 at *
      generalize numV s.data.toList q 4 999999 = nv at *
      generalize textL s.data.toList q2 200 = tl at *
      generalize textR s.data.toList q2 200 = q3 at *
      have HNE := Lib.hid (And.intro hne (And.intro hlen hlt))
      clear hin hne hlen
      go_upto_region 6 with (first
        | (go_at_call 48; refine HA.out.mono ?_; rintro e w4 ⟨rfl, h1, h2⟩; have H4 : Hid (Rt15 w g g2 n s q2 T w4) := Lib.hid ⟨grow_trans15 H.out.grown h2, h1, H.out.tbl.grown h2 HNE.out.1, H.out.new, H.out.old⟩; clear h1 h2)
        | (go_at_call 50; refine (HB.out _ H4.out.rd).mono ?_; rintro e w5 ⟨rfl, h1, h2⟩; have H5 : Hid (Rt15 w g g2 n s q3 T w5) := Lib.hid ⟨grow_trans15 H4.out.grown h2, h1, H4.out.tbl.grown h2 HNE.out.1, H4.out.new, H4.out.old⟩; obtain ⟨u0, hu0⟩ := H5.out.tbl.cell (j := k * 2) (by have := HNE.out.2.2; show k * 2 < n * 2; omega); obtain ⟨u1, hu1⟩ := H5.out.tbl.cell (j := k * 2 + 1) (by have := HNE.out.2.2; show k * 2 + 1 < n * 2; omega); have fz0 := H5.out.tbl.frozen (k * 2); have fz1 := H5.out.tbl.frozen (k * 2 + 1); clear h1 h2))
      have hmk := H5.out.tbl.put2 (x := (nv, tl)) (v := .int .i64 nv) (u := .string (tx tl)) rfl (by rw [HNE.out.2.1]; exact HNE.out.2.2) rfl
      rw [HNE.out.2.1] at hmk
      have H6 : Hid (Rt15 w g g2 n s q3 (T ++ [(nv, tl)]) ((w5.setCell ⟨g2, k * 2, none⟩ (.int .i64 nv)).setCell ⟨g2, k * 2 + 1, none⟩ (.string (tx tl)))) := Lib.hid ⟨grown_more15 (grown_more15 H5.out.grown H5.out.new _ _) H5.out.new _ _, (H5.out.rd.set (fun e => HNE.out.1 e.symm) _ _).set (fun e => HNE.out.1 e.symm) _ _, hmk, H5.out.new, H5.out.old⟩
      clear hmk hu0 hu1 fz0 fz1
      generalize (w5.setCell ⟨g2, k * 2, none⟩ (.int .i64 nv)).setCell ⟨g2, k * 2 + 1, none⟩ (.string (tx tl)) = W6 at *
      go_wp2
      go_roundw
      case rel => exact ⟨k + 1, by first | rfl | go_num, by omega, Lib.hid (by rw [HST.out.1, HST.out.2]; exact H6.out)⟩
      case measure => first | (simp [intOf]; omega) | simp [intOf]
    · obtain rfl : k = n := by omega
      go_wp2
      go_ret
      exact ⟨g2, k, rfl, HN.out, H.out⟩
end Go.Proofs.Yteccahggahpeeaa
