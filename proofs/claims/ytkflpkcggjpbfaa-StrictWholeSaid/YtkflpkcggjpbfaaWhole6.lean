/- The walk of StrictWhole: it returns true in every world and leaves what lay there. -/
import Derived.Test.YtkflpkcggjpbfaaReads6
import Derived.Test.YtkflpkcggjpbfaaSeg6
import Derived.Test.YtkflpkcggjpbfaaOctet
namespace Go.Proofs.Ytkflpkcggjpbfaa
open Go.RowKit
attribute [local go_sem ↓] Go.wp_at_zero Go.wp_at_succ

theorem op_put (n x : Int) (hn : n ≤ 9223372036854775807) (w : World) :
    Calls Try.prog 18 #[.int .i64 n, .int .i64 x] w fun e w' => e = .returned (.tuple #[.string (bt (putL n x)), .int .i64 (putE n x)]) ∧ Below w.heap.size w w' :=
  (oput_any n x hn w).mono fun _ _ ⟨t, he, ht, hb⟩ => ⟨by rw [he, bt_of ht.out], hb⟩
theorem op_lay (s : ByteArray) (hs : s.size ≤ 4611686018427387904) (w : World) :
    Calls Try.prog 19 #[.string s] w fun e w' => e = .returned (.tuple #[.string (bt (layL s.data.toList)), .int .i64 (layE s.data.toList)]) ∧ Below w.heap.size w w' :=
  (olay_any s hs w).mono fun _ _ ⟨t, he, ht, hb⟩ => ⟨by rw [he, bt_of ht.out], hb⟩
theorem op_row (a : Option Addr) (cap : Nat) (x : Int) (l : List Int) (hx : ∀ y ∈ l, y ≤ 9223372036854775807) (hl : l.length ≤ 4611686018427387904) (w : World) (hi : Ints w.heap.size w a l) :
    Calls Try.prog 20 #[.int .i64 x, .slice a l.length cap] w fun e w' => e = .returned (.tuple #[.string (bt (rowL x l)), .int .i64 (rowE x l)]) ∧ Below w.heap.size w w' :=
  (orow_any a cap x l hx hl w hi).mono fun _ _ ⟨t, he, ht, hb⟩ => ⟨by rw [he, bt_of ht.out], hb⟩
theorem bt_size (l : List UInt8) : (bt l).size = l.length := by unfold bt; rfl
theorem num_top (S : List UInt8) (r : Rs) (x m : Int) : numV S r x m ≤ 9223372036854775807 := by
  unfold numV
  split
  · split
    · exact (get_bound (num_zero (by assumption)).1).2.1
    · omega
  · omega
theorem take_small (S : List UInt8) (p m : Int) : (takeL S p m).length ≤ S.length := by
  unfold takeL
  split
  · rw [List.length_take, List.length_drop]; omega
  · simp
theorem text_small (S : List UInt8) (r : Rs) (m : Int) : (textL S r m).length ≤ S.length := by
  unfold textL
  split
  · exact take_small ..
  · simp
theorem ser_small (S : List UInt8) (r : Rs) : (serL S r).length ≤ S.length := by
  unfold serL
  split
  · split
    · exact take_small ..
    · simp
  · simp
theorem row_top (S : List UInt8) (r : Rs) (x m : Int) : ∀ y ∈ rowV S r x m, y ≤ 9223372036854775807 := by
  unfold rowV
  split
  · by_cases h : unrowE S r.p x m = 0
    · have hf := (unrow_fine h).2.2.2.2.2
      unfold unrowL; rw [if_pos h]
      intro y hy
      obtain ⟨i, hi, rfl⟩ := List.mem_map.1 hy
      exact (get_bound (hf i (List.mem_range.1 hi))).2.1
    · unfold unrowL; rw [if_neg h]; simp
  · simp
theorem whole_fault {S : List UInt8} {r : Rs} (h : r.e ≠ 0) (k x m : Int) : wholeR S r k x m = r := by
  have hn : ∀ x m, numV S r x m = 0 ∧ numR S r x m = r := fun x m => by unfold numV numR; rw [if_neg h, if_neg h]; exact ⟨rfl, rfl⟩
  unfold wholeR
  split; exact (hn x m).2
  split; unfold textR; rw [if_neg h]
  split; unfold serR; rw [if_neg h]
  split; unfold rowR; rw [if_neg h]
  split; unfold sersR sersAll; rw [(hn 1 m).1, (hn 1 m).2]; rfl
  split; unfold flagR; rw [if_neg h]
  rfl
theorem bt_add (a b : List UInt8) : bt a ++ bt b = bt (a ++ b) := bytes_eq (by simp [bt])
theorem sers_on_small {S : List UInt8} (n : Nat) : ∀ (r : Rs) (l : List (List UInt8)), (∀ x ∈ l, x.length ≤ S.length) → ∀ x ∈ (sersOn S n r l).2, x.length ≤ S.length := by
  induction n with
  | zero => intro r l h; exact h
  | succ n ih =>
    intro r l h
    by_cases he : r.e = 0
    · rw [sers_go he]
      refine ih _ _ fun x hx => ?_
      rcases List.mem_append.1 hx with h1 | h1
      · exact h x h1
      · rw [List.mem_singleton.1 h1]; exact ser_small S r
    · rw [sers_stop he]; exact h
theorem sers_small (S : List UInt8) (r : Rs) (m : Int) : ∀ x ∈ sersL S r m, x.length ≤ S.length := by
  unfold sersL
  split
  · exact sers_on_small _ _ _ (by simp)
  · simp
theorem texts_step {w w' : World} {a : Option Addr} {xs : List ByteArray} (h : Texts w.heap.size w a xs) (b : Below w.heap.size w w') : Texts w'.heap.size w' a xs := by
  rcases h with h | ⟨g, off, ha, hB, hc⟩
  · exact Or.inl h
  · exact Or.inr ⟨g, off, ha, by have := b.size; omega, fun j hj => (b.cell (p := ⟨g, off + j, none⟩) hB).trans (hc j hj)⟩
theorem texts_at {B : Nat} {w : World} {a : Option Addr} {xs : List ByteArray} {j : Nat} (h : Texts B w a xs) (hj : j < xs.length) : ∃ b off, a = some ⟨b, off, none⟩ ∧ w.cell? ⟨b, off + j, none⟩ = some (.string (textAt xs j)) := by
  rcases h with h | ⟨g, off, ha, _, hc⟩
  · rw [h] at hj; exact absurd hj (by simp)
  · exact ⟨g, off, ha, hc j hj⟩
theorem text_map (l : List (List UInt8)) (j : Nat) (h : j < l.length) : textAt (l.map bt) j = bt (l.getD j []) := by
  unfold textAt
  rw [List.getD_eq_getElem?_getD, List.getElem?_map, List.getElem?_eq_getElem h, List.getD_eq_getElem?_getD, List.getElem?_eq_getElem h]; rfl
theorem laid_take {A : List UInt8} (l : List (List UInt8)) (j : Nat) (h : j < l.length) : (A ++ (l.take j).flatMap layL) ++ layL (l.getD j []) = A ++ (l.take (j + 1)).flatMap layL := by
  rw [List.take_add_one, List.getElem?_eq_getElem h, List.getD_eq_getElem?_getD, List.getElem?_eq_getElem h, List.flatMap_append, List.append_assoc]
  simp
theorem whole_small {S : List UInt8} (hS : S.length ≤ 2000) (r : Rs) (k x m : Int) : (wholeT S r k x m).length ≤ 1000000 := by
  unfold wholeT
  split; have := put_sz (numV S r x m) x; omega
  split; have := lay_sz (textL S r m); have := text_small S r m; omega
  split; have := lay_sz (serL S r); have := ser_small S r; omega
  split; have := rowL_sz x (rowV S r x m) (row_len S r x m); omega
  split
  · rw [List.length_append]
    have h1 := put_sz ((sersL S r m).length : Int) 1
    have h2 := flat_sz 2002 layL (sersL S r m) fun y hy => by have := lay_sz y; have := sers_small S r m y hy; omega
    have h3 := sers_len S r m
    omega
  split
  · simp
  · simp
/-- What was laid is what was read. -/
def Laid (S : List UInt8) (r : Rs) (o : ByteArray) : Prop := r.e = 0 → o.data.toList = seg S 0 r.p
theorem laid_more {S : List UInt8} {r : Rs} {o : ByteArray} (hw : Within S r) (h : Laid S r o) (k x m : Int) : Laid S (wholeR S r k x m) (o ++ bt (wholeT S r k x m)) := by
  intro h2
  by_cases h0 : r.e = 0
  · obtain ⟨e1, e2⟩ := whole_text hw h0 h2
    have : (o ++ bt (wholeT S r k x m)).data.toList = o.data.toList ++ wholeT S r k x m := by simp [bt]
    rw [this, h h0, e1, seg_join (by omega) hw.1 e2]
  · rw [whole_fault h0] at h2; exact absurd h2 h0
theorem laid_end {s : ByteArray} {r : Rs} {o : ByteArray} (hw : Within s.data.toList r) (h : Laid s.data.toList r o) (h2 : (endR s.data.toList r).e = 0) : o = s := by
  unfold endR at h2
  split at h2
  · simp at h2
  · rename_i h3
    have hp : r.p = s.data.toList.length := by
      have := hw.2
      rcases (by omega : r.p < s.data.toList.length ∨ r.p = s.data.toList.length) with h4 | h4
      · exact absurd ⟨h2, h4⟩ h3
      · exact h4
    have := h h2
    rw [hp, seg_all] at this
    exact bytes_eq this

set_option maxRecDepth 100000 in
set_option maxHeartbeats 8000000 in
theorem strictWhole_walk (w : World) (s : ByteArray) (_hs : s.size ≤ maxLen) (a : Option Addr) (cap : Nat) (l : List Pce) (_hm : l.length ≤ maxLen) (ht : Pieces w.heap.size w a l) :
    Calls Try.prog 5 #[.string s, .slice a l.length cap] w fun e w' => e = .returned (.bool true) ∧ Below w.heap.size w w' := by
  have HA := Lib.hid awake6_any
  have hb := Below.refl w.heap.size w
  by_cases hs : 2000 < s.size
  · have d1 : decide ((2000 : Int) < (s.size : Int)) = true := decide_eq_true (by omega)
    have d2 : decide (2000 < s.size) = true := decide_eq_true hs
    clear hs
    go_enter Try.func5, Try.ntmps5
    go_wp2_with (go_at_call 6; refine (HA.out _).mono ?_; rintro e w1 ⟨rfl, b1⟩)
    go_ret
    exact ⟨rfl, b1⟩
  · have d1 : decide ((2000 : Int) < (s.size : Int)) = false := decide_eq_false (by omega)
    have d2 : decide (2000 < s.size) = false := decide_eq_false hs
    by_cases hl : 40 < l.length
    · have d3 : decide ((40 : Int) < (l.length : Int)) = true := decide_eq_true (by omega)
      have d4 : decide (40 < l.length) = true := decide_eq_true hl
      clear hs hl
      go_enter Try.func5, Try.ntmps5
      go_wp2_with (go_at_call 6; refine (HA.out _).mono ?_; rintro e w1 ⟨rfl, b1⟩)
      go_ret
      exact ⟨rfl, b1⟩
    · have d3 : decide ((40 : Int) < (l.length : Int)) = false := decide_eq_false (by omega)
      have d4 : decide (40 < l.length) = false := decide_eq_false hl
      have hs2 : s.size ≤ 4611686018427387904 := by omega
      have HZ : Hid (s.data.toList.length = s.size) := Lib.hid (by rw [Array.length_toList]; rfl)
      have HP := Lib.hid ht
      have HL : Hid (l.length ≤ 40) := Lib.hid (by omega)
      have HN := Lib.hid (snew_any s (by omega) w)
      have HS2 := Lib.hid hs2
      have HS3 : Hid (s.size ≤ 2000) := Lib.hid (by omega)
      clear hs hl hs2 ht
      go_enter Try.func5, Try.ntmps5
      go_wp2_with fail
      refine HN.out.mono ?_
      rintro e w1 ⟨g, rfl, hg, hr1, b1⟩
      have HB1 := Lib.hid b1
      have HR1 : Hid (Rd w1 g s ⟨0, 0⟩) := hr1
      have HG := Lib.hid hg
      clear b1 hr1 hg d1 d2 d3 d4 hb
      go_wp2_with fail
      obtain ⟨W0, hW0⟩ : ∃ W0, W0 = w1 := ⟨_, rfl⟩
      rw [← hW0] at HB1 HR1 ⊢
      clear hW0
      go_loopw [6, 7, 8, 9, 10, 11, 12] (fun o i _ _ _ _ _ wr => ∃ (k : Nat) (r : Rs) (t : ByteArray), i = .int .i64 k ∧ o = .string t ∧ k ≤ l.length ∧ Hid (Within s.data.toList r) ∧ Hid (Laid s.data.toList r t) ∧ Hid (t.size ≤ k * 1000000) ∧ Hid (Rd wr g s r) ∧ Hid (Below w.heap.size w wr)) (fun _ i _ _ _ _ _ _ => l.length - (intOf i).toNat)
      case atStart => exact ⟨0, ⟨0, 0⟩, ⟨#[]⟩, rfl, rfl, by omega, Lib.hid ⟨by simp, by simp⟩, Lib.hid (fun _ => by rw [seg_none]), Lib.hid (by decide), HR1, HB1⟩
      case round =>
        clear HB1 HR1
        obtain ⟨k, r, t, rfl, rfl, hk, hw, hlaid, htz, hR, hB⟩ := hrel
        by_cases hlt : k < l.length
        · have i1 : (k : Int) < (l.length : Int) := by omega
          have i2 : (0 : Int) ≤ (k : Int) := by omega
          have i3 : k < 40 := by have := HL.out; omega
          rcases HP.out with h0 | ⟨b, off, rfl, hbw, hc⟩
          · rw [h0] at hlt; exact absurd hlt (by simp)
          · have hck := hc k hlt
            obtain ⟨pk, hpk⟩ : ∃ q, q = (pieceAt l k).k := ⟨_, rfl⟩
            obtain ⟨px, hpx⟩ : ∃ q, q = (pieceAt l k).x := ⟨_, rfl⟩
            obtain ⟨pm, hpm⟩ : ∃ q, q = (pieceAt l k).m := ⟨_, rfl⟩
            rw [← hpk, ← hpx, ← hpm] at hck
            clear hc hpk hpx hpm HP
            have HPC : Hid (∀ v, Below w.heap.size w v → v.cell? ⟨b, off + k * 3, none⟩ = some (.int .i64 pk) ∧ v.cell? ⟨b, off + k * 3 + 1, none⟩ = some (.int .i64 px) ∧ v.cell? ⟨b, off + k * 3 + 2, none⟩ = some (.int .i64 pm)) := Lib.hid fun v hv => ⟨(hv.cell (p := ⟨b, off + k * 3, none⟩) hbw).trans hck.1, (hv.cell (p := ⟨b, off + k * 3 + 1, none⟩) hbw).trans hck.2.1, (hv.cell (p := ⟨b, off + k * 3 + 2, none⟩) hbw).trans hck.2.2⟩
            have HM := Lib.hid (laid_more hw.out hlaid.out pk px pm)
            have HWI := Lib.hid (whole_in (k := pk) (x := px) (m := pm) hw.out)
            clear hck hlaid
            obtain ⟨p0, p1, p2⟩ := HPC.out wr hB.out
            go_upto_block 2 with fail
            go_cut [8] (fun s8 wx => s8 = .string (bt (wholeT s.data.toList r pk px pm)) ∧ Hid (Rd wx g s (wholeR s.data.toList r pk px pm)) ∧ Hid (Below w.heap.size w wx))
            case first =>
              by_cases c0 : pk = 0
              · subst c0
                have HqR : Hid (wholeR s.data.toList r 0 px pm = numR s.data.toList r px pm) := Lib.hid rfl
                have HqT : Hid (wholeT s.data.toList r 0 px pm = putL (numV s.data.toList r px pm) px) := Lib.hid rfl
                obtain ⟨n, hn⟩ : ∃ n, n = numV s.data.toList r px pm := ⟨_, rfl⟩
                have HN1 := Lib.hid (snum_any s HS2.out r hw.out g px pm wr.drew (rd_step hR.out (drew_step wr)))
                have HO := Lib.hid (op_put (numV s.data.toList r px pm) px (num_top s.data.toList r px pm))
                rw [← hn] at HN1 HO HqT
                clear hn
                go_upto_region 13 with fail
                go_region_held3 (fun v => v.cell? ⟨b, off + k * 3 + 1, none⟩ = some (.int .i64 px) ∧ v.cell? ⟨b, off + k * 3 + 2, none⟩ = some (.int .i64 pm)) (first | go_keep)
                  (first
                    | (go_at_call 12; refine HN1.out.mono ?_; rintro e v1 ⟨rfl, hR1, hG1⟩; have HR8 := Lib.hid hR1; have HB8 := Lib.hid (grown_below hB.out.drew hG1 HG.out hB.out.size); obtain ⟨_, p1, p2⟩ := HPC.out v1 HB8.out; clear hR1 hG1)
                    | (go_at_call 18; refine (HO.out v1).mono ?_; rintro e v2 ⟨rfl, b2⟩; have HR9 := Lib.hid (rd_step HR8.out b2); have HB9 := Lib.hid (HB8.out.trans (b2.mono HB8.out.size)); obtain ⟨_, p1, p2⟩ := HPC.out v2 HB9.out; clear b2))
                go_wp2_with fail
                go_meet
                exact ⟨by rw [HqT.out], by rw [HqR.out]; exact HR9, HB9⟩
              by_cases c1 : pk = 1
              · subst c1
                have HqR : Hid (wholeR s.data.toList r 1 px pm = textR s.data.toList r pm) := Lib.hid rfl
                have HqT : Hid (wholeT s.data.toList r 1 px pm = layL (textL s.data.toList r pm)) := Lib.hid rfl
                have hsm : (bt (textL s.data.toList r pm)).size ≤ 4611686018427387904 := by have := text_small s.data.toList r pm; have := HS2.out; rw [bt_size]; rw [HZ.out] at *; omega
                have HO := Lib.hid (op_lay (bt (textL s.data.toList r pm)) hsm)
                rw [bt_list] at HO
                clear hsm
                obtain ⟨n, hn⟩ : ∃ n, n = textL s.data.toList r pm := ⟨_, rfl⟩
                have HN1 := Lib.hid (stext_any s HS2.out r hw.out g pm wr hR.out)
                rw [← hn] at HN1 HqT HO
                clear hn
                go_wp2_with fail
                refine HN1.out.mono ?_
                rintro e v1 ⟨rfl, hR1, hG1⟩
                have HR8 := Lib.hid hR1
                have HB8 := Lib.hid (grown_below hB.out hG1 HG.out hB.out.size)
                clear hR1 hG1
                go_wp2_with fail
                refine (HO.out v1).mono ?_
                rintro e v2 ⟨rfl, b2⟩
                have HR9 := Lib.hid (rd_step HR8.out b2)
                have HB9 := Lib.hid (HB8.out.trans (b2.mono HB8.out.size))
                clear b2
                go_wp2_with fail
                go_meet
                exact ⟨by rw [HqT.out], by rw [HqR.out]; exact HR9, HB9⟩
              by_cases c2 : pk = 2
              · subst c2
                have HqR : Hid (wholeR s.data.toList r 2 px pm = serR s.data.toList r) := Lib.hid rfl
                have HqT : Hid (wholeT s.data.toList r 2 px pm = layL (serL s.data.toList r)) := Lib.hid rfl
                have hsm : (bt (serL s.data.toList r)).size ≤ 4611686018427387904 := by have := ser_small s.data.toList r; have := HS2.out; rw [bt_size]; rw [HZ.out] at *; omega
                have HO := Lib.hid (op_lay (bt (serL s.data.toList r)) hsm)
                rw [bt_list] at HO
                clear hsm
                obtain ⟨n, hn⟩ : ∃ n, n = serL s.data.toList r := ⟨_, rfl⟩
                have HN1 := Lib.hid (sser_any s HS2.out r hw.out g wr hR.out)
                rw [← hn] at HN1 HqT HO
                clear hn
                go_wp2_with fail
                refine HN1.out.mono ?_
                rintro e v1 ⟨rfl, hR1, hG1⟩
                have HR8 := Lib.hid hR1
                have HB8 := Lib.hid (grown_below hB.out hG1 HG.out hB.out.size)
                clear hR1 hG1
                go_wp2_with fail
                refine (HO.out v1).mono ?_
                rintro e v2 ⟨rfl, b2⟩
                have HR9 := Lib.hid (rd_step HR8.out b2)
                have HB9 := Lib.hid (HB8.out.trans (b2.mono HB8.out.size))
                clear b2
                go_wp2_with fail
                go_meet
                exact ⟨by rw [HqT.out], by rw [HqR.out]; exact HR9, HB9⟩
              by_cases c3 : pk = 3
              · subst c3
                have HqR : Hid (wholeR s.data.toList r 3 px pm = rowR s.data.toList r px pm) := Lib.hid rfl
                have HqT : Hid (wholeT s.data.toList r 3 px pm = rowL px (rowV s.data.toList r px pm)) := Lib.hid rfl
                obtain ⟨n, hn⟩ : ∃ n, n = rowV s.data.toList r px pm := ⟨_, rfl⟩
                have HN1 := Lib.hid (srow_any s HS2.out r hw.out g px pm wr.drew (rd_step hR.out (drew_step wr)))
                have HO : Hid (∀ (a' : Option Addr) (c' : Nat) (v : World), Ints v.heap.size v a' (rowV s.data.toList r px pm) → Calls Try.prog 20 #[.int .i64 px, .slice a' (rowV s.data.toList r px pm).length c'] v fun e w' => e = .returned (.tuple #[.string (bt (rowL px (rowV s.data.toList r px pm))), .int .i64 (rowE px (rowV s.data.toList r px pm))]) ∧ Below v.heap.size v w') := Lib.hid fun a' c' v hv =>
                  op_row a' c' px (rowV s.data.toList r px pm) (row_top s.data.toList r px pm) (by have := row_len s.data.toList r px pm; omega) v hv
                rw [← hn] at HN1 HO HqT
                clear hn
                go_upto_region 19 with fail
                go_region_held3 (fun v => v.cell? ⟨b, off + k * 3 + 1, none⟩ = some (.int .i64 px) ∧ v.cell? ⟨b, off + k * 3 + 2, none⟩ = some (.int .i64 pm)) (first | go_keep)
                  (first
                    | (go_at_call 15; refine HN1.out.mono ?_; rintro e v1 ⟨a', c', rfl, hi, hR1, hG1⟩; have HR8 := Lib.hid hR1; have HI8 := Lib.hid hi.ints; have HB8 := Lib.hid (grown_below hB.out.drew hG1 HG.out hB.out.size); obtain ⟨_, p1, p2⟩ := HPC.out v1 HB8.out; clear hR1 hG1 hi)
                    | (go_at_call 20; refine (HO.out a' c' v1 HI8.out).mono ?_; rintro e v2 ⟨rfl, b2⟩; have HR9 := Lib.hid (rd_step HR8.out b2); have HB9 := Lib.hid (HB8.out.trans (b2.mono HB8.out.size)); obtain ⟨_, p1, p2⟩ := HPC.out v2 HB9.out; clear b2))
                go_wp2_with fail
                go_meet
                exact ⟨by rw [HqT.out], by rw [HqR.out]; exact HR9, HB9⟩
              by_cases c4 : pk = 4
              · subst c4
                have HqR : Hid (wholeR s.data.toList r 4 px pm = sersR s.data.toList r pm) := Lib.hid rfl
                have HqT : Hid (wholeT s.data.toList r 4 px pm = putL (sersL s.data.toList r pm).length 1 ++ (sersL s.data.toList r pm).flatMap layL) := Lib.hid rfl
                obtain ⟨L, hL⟩ : ∃ L, L = sersL s.data.toList r pm := ⟨_, rfl⟩
                have HN1 := Lib.hid (ssers_any s HS2.out r hw.out g pm wr hR.out)
                have HSM : Hid (∀ x ∈ L, x.length ≤ 2000) := Lib.hid (by rw [hL]; intro x hx; have := sers_small s.data.toList r pm x hx; have := HZ.out; have := HS3.out; omega)
                have HLL : Hid (L.length ≤ 255) := Lib.hid (by rw [hL]; exact sers_len s.data.toList r pm)
                rw [← hL] at HN1 HqT
                have HO := Lib.hid (op_put (L.length : Int) 1 (by have := HLL.out; omega))
                clear hL
                go_wp2_with fail
                refine HN1.out.mono ?_
                rintro e v1 ⟨a', c', rfl, hi, hR1, hG1⟩
                have HR8 := Lib.hid hR1
                have HI8 := Lib.hid hi.texts
                have HB8 := Lib.hid (grown_below hB.out hG1 HG.out hB.out.size)
                clear hR1 hG1 hi
                go_wp2_with fail
                refine (HO.out v1).mono ?_
                rintro e v2 ⟨rfl, b2⟩
                have HR9 := Lib.hid (rd_step HR8.out b2)
                have HB9 := Lib.hid (HB8.out.trans (b2.mono HB8.out.size))
                have HI9 := Lib.hid (texts_step HI8.out b2)
                clear b2 HR8 HB8 HI8
                obtain ⟨V2, hV2⟩ : ∃ V, V = v2 := ⟨_, rfl⟩
                rw [← hV2] at HR9 HB9 HI9 ⊢
                clear hV2
                go_wp2_with fail
                go_loopw [8, 10, 11, 12] (fun t8 i' _ _ wx => ∃ j : Nat, i' = .int .i64 j ∧ j ≤ L.length ∧ t8 = .string (bt (putL (L.length : Int) 1 ++ (L.take j).flatMap layL)) ∧ Hid (Rd wx g s (sersR s.data.toList r pm)) ∧ Hid (Below w.heap.size w wx) ∧ Hid (Texts wx.heap.size wx a' (L.map bt))) (fun _ i' _ _ _ => L.length - (intOf i').toNat)
                case atStart => exact ⟨0, rfl, by omega, by simp, HR9, HB9, HI9⟩
                case round =>
                  obtain ⟨V5, hV5⟩ : ∃ V, V = wr := ⟨_, rfl⟩
                  clear hV5 HR9 HB9 HI9
                  obtain ⟨j, rfl, hj, rfl, hR3, hB3, hI3⟩ := hrel
                  by_cases hjl : j < L.length
                  · have i4 : (j : Int) < (L.length : Int) := by omega
                    have i5 : (0 : Int) ≤ (j : Int) := by omega
                    have i6 : j < 255 := by have := HLL.out; omega
                    obtain ⟨b2, off2, ha, hcl⟩ := texts_at hI3.out (by simpa using hjl)
                    subst ha
                    obtain ⟨Lj, hLj⟩ : ∃ Lj, Lj = L.getD j [] := ⟨_, rfl⟩
                    have hta : textAt (L.map bt) j = bt Lj := by rw [hLj]; exact text_map L j hjl
                    rw [hta] at hcl
                    have HLy : Hid (∀ v, Calls Try.prog 21 #[.string (bt Lj)] v fun e w' => e = .returned (.tuple #[.string (bt (layL Lj)), .int .i64 (layE Lj)]) ∧ Below v.heap.size v w') := Lib.hid fun v => by
                      have hm : Lj.length ≤ 2000 := by rw [hLj]; exact HSM.out _ (by rw [List.getD_eq_getElem?_getD, List.getElem?_eq_getElem hjl]; exact List.getElem_mem hjl)
                      have := rlay_bt (bt Lj) (by rw [bt_size]; omega) v
                      rw [bt_list] at this
                      exact this
                    have HTk : Hid (bt (putL (L.length : Int) 1 ++ (L.take j).flatMap layL) ++ bt (layL Lj) = bt (putL (L.length : Int) 1 ++ (L.take (j + 1)).flatMap layL)) := Lib.hid (by rw [bt_add, hLj]; exact congrArg bt (laid_take L j hjl))
                    have hz2 : ¬ 9223372036854775807 < (bt (putL (L.length : Int) 1 ++ (L.take j).flatMap layL)).size + (bt (layL Lj)).size := by
                      have h1 := put_sz (L.length : Int) 1
                      have h2 := flat_sz 2002 layL (L.take j) fun y hy => by have := lay_sz y; have := HSM.out y (List.mem_of_mem_take hy); omega
                      have h3 := lay_sz Lj
                      have h4 : Lj.length ≤ 2000 := by rw [hLj]; exact HSM.out _ (by rw [List.getD_eq_getElem?_getD, List.getElem?_eq_getElem hjl]; exact List.getElem_mem hjl)
                      rw [bt_size, bt_size, List.length_append]
                      rw [List.length_take] at h2
                      have h5 : min j L.length ≤ 255 := by omega
                      have h6 := Nat.mul_le_mul_right 2002 h5
                      omega
                    clear hta hLj
                    go_wp2_with fail
                    refine (HLy.out _).mono ?_
                    rintro e v3 ⟨rfl, b3⟩
                    have HR10 := Lib.hid (rd_step hR3.out b3)
                    have HB10 := Lib.hid (hB3.out.trans (b3.mono hB3.out.size))
                    have HI10 := Lib.hid (texts_step hI3.out b3)
                    clear b3 hR3 hB3 hI3 hcl
                    go_wp2
                    go_roundw
                    case rel => exact ⟨j + 1, by go_num, by omega, by rw [HTk.out], HR10, HB10, HI10⟩
                    case measure => simp [intOf]; omega
                  · obtain rfl : j = L.length := by omega
                    rw [List.take_length]
                    go_wp2_with fail
                    go_meet
                    exact ⟨by rw [HqT.out], by rw [HqR.out]; exact hR3, hB3⟩
              by_cases c5 : pk = 5
              · subst c5
                have HqR : Hid (wholeR s.data.toList r 5 px pm = flagR s.data.toList r) := Lib.hid rfl
                have HqT : Hid (wholeT s.data.toList r 5 px pm = [if flagB s.data.toList r then (1 : UInt8) else 0]) := Lib.hid rfl
                obtain ⟨n, hn⟩ : ∃ n, n = flagB s.data.toList r := ⟨_, rfl⟩
                have HN1 := Lib.hid (sflag_any s HS2.out r hw.out g wr hR.out)
                rw [← hn] at HN1 HqT
                clear hn
                obtain ⟨L, hL⟩ : ∃ L : List UInt8, L = [if n then (1 : UInt8) else 0] := ⟨_, rfl⟩
                have HO : Hid (∀ v, Calls Try.prog 22 #[.bool n] v fun e w' => e = .returned (.string (bt L)) ∧ Below v.heap.size v w') := Lib.hid fun v => by rw [hL]; exact oflag_any n v
                rw [← hL] at HqT
                clear hL
                go_wp2_with fail
                refine HN1.out.mono ?_
                rintro e v1 ⟨rfl, hR1, hG1⟩
                have HR8 := Lib.hid hR1
                have HB8 := Lib.hid (grown_below hB.out hG1 HG.out hB.out.size)
                clear hR1 hG1
                go_wp2_with fail
                refine (HO.out v1).mono ?_
                rintro e v2 ⟨rfl, b2⟩
                have HR9 := Lib.hid (rd_step HR8.out b2)
                have HB9 := Lib.hid (HB8.out.trans (b2.mono HB8.out.size))
                clear b2
                go_wp2_with fail
                go_meet
                exact ⟨by rw [HqT.out], by rw [HqR.out]; exact HR9, HB9⟩
              have d0 : (pk == 0) = false := by simpa using c0
              have d1 : (pk == 1) = false := by simpa using c1
              have d2 : (pk == 2) = false := by simpa using c2
              have d3 : (pk == 3) = false := by simpa using c3
              have d4 : (pk == 4) = false := by simpa using c4
              have d5 : (pk == 5) = false := by simpa using c5
              have HqR : Hid (wholeR s.data.toList r pk px pm = r) := Lib.hid (by unfold wholeR; rw [if_neg c0, if_neg c1, if_neg c2, if_neg c3, if_neg c4, if_neg c5])
              have HqT : Hid (wholeT s.data.toList r pk px pm = []) := Lib.hid (by unfold wholeT; rw [if_neg c0, if_neg c1, if_neg c2, if_neg c3, if_neg c4, if_neg c5])
              clear c0 c1 c2 c3 c4 c5
              go_wp2_with fail
              go_meet
              exact ⟨by rw [HqT.out]; rfl, by rw [HqR.out]; exact hR, hB⟩
            case rest =>
              obtain ⟨rfl, hR2, hB2⟩ := hcut
              have hws := whole_small (S := s.data.toList) (by rw [HZ.out]; exact HS3.out) r pk px pm
              have hz1 : ¬ 9223372036854775807 < t.size + (bt (wholeT s.data.toList r pk px pm)).size := by have := htz.out; rw [bt_size]; omega
              have HTZ : Hid ((t ++ bt (wholeT s.data.toList r pk px pm)).size ≤ (k + 1) * 1000000) := Lib.hid (by rw [ByteArray.size_append, bt_size]; have := htz.out; omega)
              clear hws
              clear p0 p1 p2 hw hR hB
              go_wp2
              go_roundw
              case rel => exact ⟨k + 1, _, _, by go_num, rfl, by omega, HWI, HM, HTZ, hR2, hB2⟩
              case measure => simp [intOf]; omega
        · obtain rfl : k = l.length := by omega
          have HEN := Lib.hid (send_any s HS2.out r g wr hR.out)
          have HLE := Lib.hid (fun h2 => laid_end hw.out hlaid.out h2)
          obtain ⟨q, hq⟩ : ∃ q, q = endR s.data.toList r := ⟨_, rfl⟩
          rw [← hq] at HEN HLE
          clear hq hlaid
          go_wp2_with fail
          refine HEN.out.mono ?_
          rintro e v1 ⟨rfl, hR1, hG1⟩
          have HR8 := Lib.hid hR1
          have HB8 := Lib.hid (grown_below hB.out hG1 HG.out hB.out.size)
          clear hR1 hG1
          by_cases hq0 : q.e = 0
          · have hts := HLE.out hq0
            subst hts
            have hE : errV q = .nilIface := by unfold errV; rw [if_pos hq0]
            have HE := Lib.hid (serr_any t q g)
            rw [hE] at HE
            clear hq0 hE
            go_wp2_with fail
            refine (HE.out _ HR8.out).mono ?_
            rintro e v2 ⟨rfl, b2⟩
            have HB9 := Lib.hid (HB8.out.trans (b2.mono HB8.out.size))
            clear b2
            go_wp2_with fail
            refine (swhy_nil _).mono ?_
            rintro e v3 ⟨rfl, b3⟩
            have HB10 := Lib.hid (HB9.out.trans (b3.mono HB9.out.size))
            clear b3
            go_wp2_with fail
            refine (HA.out _).mono ?_
            rintro e v4 ⟨rfl, b4⟩
            have HB11 := Lib.hid (HB10.out.trans (b4.mono HB10.out.size))
            clear b4
            go_wp2
            go_ret
            exact ⟨rfl, HB11.out⟩
          · have hE : errV q = .iface 58 (.agg #[.int .i64 q.e, .int .i64 q.p]) := by unfold errV; rw [if_neg hq0]
            have d1 : (q.e != 0) = true := by simpa using hq0
            have HE := Lib.hid (serr_any s q g)
            rw [hE] at HE
            clear hq0 hE
            go_wp2_with fail
            refine (HE.out _ HR8.out).mono ?_
            rintro e v2 ⟨rfl, b2⟩
            have HB9 := Lib.hid (HB8.out.trans (b2.mono HB8.out.size))
            clear b2
            go_wp2_with fail
            refine (swhy_fault q.e q.p _).mono ?_
            rintro e v3 ⟨rfl, b3⟩
            have HB10 := Lib.hid (HB9.out.trans (b3.mono HB9.out.size))
            clear b3
            go_wp2_with fail
            refine (HA.out _).mono ?_
            rintro e v4 ⟨rfl, b4⟩
            have HB11 := Lib.hid (HB10.out.trans (b4.mono HB10.out.size))
            clear b4
            go_wp2
            go_ret
            exact ⟨rfl, HB11.out⟩
end Go.Proofs.Ytkflpkcggjpbfaa
