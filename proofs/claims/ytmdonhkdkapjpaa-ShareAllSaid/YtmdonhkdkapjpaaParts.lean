/- The program's divide: shares of a total by weights that count. -/
import Derived.Test.YtmdonhkdkapjpaaFirsts
namespace Go.Proofs.Ytmdonhkdkapjpaa
open Go.RowKit

theorem below_kept {w w' : World} (h : Below w.heap.size w w') (row : Option Nat) : w.grownBy w' row := ⟨h.os, h.tape, h.output, h.size, fun k hk _ => h.block k hk⟩
theorem row_below {B g n cap : Nat} {d : Nat → Int} {w w' : World} (h : RowOf B g n cap d w) (hb : Below w.heap.size w w') : RowOf B g n cap d w' :=
  h.kept (below_kept hb none) (Or.inr (by simp [Value.ownBlock]))
/-- The first k places of a row are dealt. -/
def sofar (f : Nat → Int) (k i : Nat) : Int := if i < k then f i else 0
theorem sofar_none (f : Nat → Int) (n : Nat) : intCells (List.replicate n 0) = intCells ((List.range n).map (sofar f 0)) := by
  unfold intCells
  refine congrArg _ (List.ext_getElem (by simp) fun i h1 h2 => ?_)
  simp [sofar]
theorem sofar_all (f : Nat → Int) (n : Nat) : (List.range n).map (sofar f n) = (List.range n).map f := by
  refine List.map_congr_left fun i hi => ?_
  unfold sofar; rw [if_pos (List.mem_range.1 hi)]
theorem sofar_more {B g n cap k : Nat} {f : Nat → Int} {w : World} (h : RowOf B g n cap (sofar f k) w) : RowOf B g n cap (sofar f (k + 1)) (w.setCell ⟨g, k, none⟩ (.int .i64 (f k))) := by
  have h1 := own_stored h k (f' := sofar f (k + 1)) (fun i _ hi => by unfold sofar; by_cases h2 : i < k <;> simp [h2] <;> omega)
  have h2 : sofar f (k + 1) k = f k := by unfold sofar; rw [if_pos (by omega)]
  rw [h2] at h1
  exact h1
theorem spart2 {T : Int} {ws : List Int} (h : Fine T ws) {i : Nat} (hi : i < ws.length) (w : World) :
    Calls Try.prog 17 #[.int .i64 T, .int .i64 (weighs ws i), .int .i64 (wholeN ws)] w (fun e w' => e = .returned (.tuple #[.int .i64 (quoAt T ws i), .int .i64 0]) ∧ Below w.heap.size w w') ∧
    Calls Try.prog 26 #[.int .i64 T, .int .i64 (weighs ws i), .int .i64 (wholeN ws)] w (fun e w' => e = .returned (.tuple #[.int .i64 (remAt T ws i), .int .i64 0]) ∧ Below w.heap.size w w') := by
  have h1 := whole_pos h
  have h2 := weighs_bd h hi
  have h3 := quo_at h hi
  have h4 := h.t1
  have h5 := h.t0
  have hm : mayE T (weighs ws i) (wholeN ws) = 0 := by unfold mayE; rw [if_neg (by omega), if_neg (by omega)]
  unfold quoAt at h3
  obtain ⟨e1, e2⟩ := floor_fine hm (by omega)
  have e3 : restV T (weighs ws i) (wholeN ws) = remAt T ws i := by unfold restV; rw [if_pos e1]; rfl
  constructor
  · refine (cfloor_any T (weighs ws i) (wholeN ws) w).mono ?_
    rintro e w' ⟨rfl, hb⟩
    exact ⟨by rw [e1, e2]; rfl, hb⟩
  · refine (crest_any T (weighs ws i) (wholeN ws) w).mono ?_
    rintro e w' ⟨rfl, hb⟩
    exact ⟨by rw [e1, e3], hb⟩

/-- What lies in memory in the midst of the first loop. -/
structure Dealt (B : Nat) (w0 w : World) (T : Int) (ws : List Int) (g1 g2 bx i j : Nat) : Prop where
  out : RowOf B g1 ws.length ws.length (sofar (quoAt T ws) i) w
  rest : RowOf B g2 ws.length ws.length (sofar (remAt T ws) j) w
  box : w.cell? ⟨bx, 0, none⟩ = some (.slice (some ⟨g2, 0, none⟩) ws.length ws.length)
  old : Below B w0 w
  lb : B ≤ bx ∧ bx < w.heap.size
  apart : g1 ≠ g2 ∧ g1 ≠ bx ∧ g2 ≠ bx
theorem Dealt.below {B : Nat} {w0 w w' : World} {T : Int} {ws : List Int} {g1 g2 bx i j : Nat} (h : Dealt B w0 w T ws g1 g2 bx i j) (hb : Below w.heap.size w w') : Dealt B w0 w' T ws g1 g2 bx i j :=
  ⟨row_below h.out hb, row_below h.rest hb, (hb.cell (p := ⟨bx, 0, none⟩) h.lb.2).trans h.box, h.old.trans (hb.mono (by have := h.old.size; have := (h.out.lt g1 rfl); omega)), ⟨h.lb.1, Nat.lt_of_lt_of_le h.lb.2 hb.size⟩, h.apart⟩
theorem cell_elsewhere {w : World} {a p : Addr} {u v : Value} (h : w.cell? p = some v) (hne : p.block ≠ a.block) : (w.setCell a u).cell? p = some v := (World.cell?_of_block (Below.heap_setCell w a u p.block hne)).trans h
theorem Dealt.putOut {B : Nat} {w0 w : World} {T : Int} {ws : List Int} {g1 g2 bx i j : Nat} (h : Dealt B w0 w T ws g1 g2 bx i j) : Dealt B w0 (w.setCell ⟨g1, i, none⟩ (.int .i64 (quoAt T ws i))) T ws g1 g2 bx (i + 1) j :=
  ⟨sofar_more h.out, ownsRow_setCell_other h.rest (a := ⟨g1, i, none⟩) (by simp [Value.ownBlock]; exact fun e => h.apart.1 e.symm) _, cell_elsewhere h.box (fun e => h.apart.2.1 e.symm), h.old.setCell (p := ⟨g1, i, none⟩) (h.out.lt g1 rfl).1 _, by
    refine ⟨h.lb.1, ?_⟩; have := h.lb.2; simpa [World.setCell] using this, h.apart⟩
theorem Dealt.putRest {B : Nat} {w0 w : World} {T : Int} {ws : List Int} {g1 g2 bx i j : Nat} (h : Dealt B w0 w T ws g1 g2 bx i j) : Dealt B w0 (w.setCell ⟨g2, j, none⟩ (.int .i64 (remAt T ws j))) T ws g1 g2 bx i (j + 1) :=
  ⟨ownsRow_setCell_other h.out (a := ⟨g2, j, none⟩) (by simp [Value.ownBlock]; exact fun e => h.apart.1 e) _, sofar_more h.rest, cell_elsewhere h.box (fun e => h.apart.2.2 e.symm), h.old.setCell (p := ⟨g2, j, none⟩) (h.rest.lt g2 rfl).1 _, by
    refine ⟨h.lb.1, ?_⟩; have := h.lb.2; simpa [World.setCell] using this, h.apart⟩
theorem Dealt.drew {B : Nat} {w0 w : World} {T : Int} {ws : List Int} {g1 g2 bx i j : Nat} (h : Dealt B w0 w T ws g1 g2 bx i j) : Dealt B w0 w.drew T ws g1 g2 bx i j := ⟨h.out, h.rest, h.box, h.old.drew, h.lb, h.apart⟩

set_option maxRecDepth 100000 in
set_option maxHeartbeats 4000000 in
theorem divide_some (b off cap : Nat) (T : Int) (ws : List Int) (w : World) (hF : Fine T ws) (hB : b < w.heap.size) (hc : ∀ j, j < ws.length → w.cell? ⟨b, off + j, none⟩ = some (.int .i64 (weighs ws j))) :
    Calls Try.prog 19 #[.int .i64 T, .slice (some ⟨b, off, none⟩) ws.length cap, .int .i64 (wholeN ws)] w fun e w' => ∃ a cap', e = .returned (.slice a (outL T ws).length cap') ∧ Ints w'.heap.size w' a (outL T ws) ∧ Below w.heap.size w w' := by
  obtain ⟨i0, hi, hz0, hz1, hz2⟩ := info_parts infoInt
  have hmf : ∀ (fn : Fn) (first cap : Array Value) (w : World), (Instr.makeFunc fn first cap).run Try.prog w = .ok (.func fn first cap) w := fun _ _ _ _ => rfl
  have HF := Lib.hid hF
  have HC := Lib.hid hc
  have hn2 := hF.len2
  have hn1 := hF.len
  have ht0 := hF.t0
  have ht1 := hF.t1
  clear hF hc
  go_enter Try.func19, Try.ntmps19
  go_wp2_with (at_make; refine wpList_make_full _ rfl _ _ 22 rfl w.heap.size 3 i0 (.int .i64 0) 1 Try.underlying22 hi hz0 hz1 .i64 .i64 _ _ ws.length rfl rfl rfl rfl (by rw [hz2]; omega) (by unfold maxLen; omega) (Nat.le_refl _) ?_)
  intro w1 hown1 hg1
  rw [made_zero, sofar_none (quoAt T ws)] at hown1
  have HR1 := Lib.hid hown1
  have HB1 : Hid (Below w.heap.size w w1) := (Below.refl _ w).grown hg1 (Nat.le_refl _) (by simp)
  clear hown1 hg1
  go_wp2_with (at_make; refine wpList_make_full _ rfl _ _ 22 rfl w.heap.size 3 i0 (.int .i64 0) 1 Try.underlying22 hi hz0 hz1 .i64 .i64 _ _ ws.length rfl rfl rfl rfl (by rw [hz2]; omega) (by unfold maxLen; omega) HB1.out.size ?_)
  intro w2 hown2 hg2
  rw [made_zero, sofar_none (remAt T ws)] at hown2
  have HR2 := Lib.hid hown2
  have HB2 : Hid (Below w.heap.size w w2) := HB1.out.grown hg2 HB1.out.size (by simp)
  have HR1' : Hid (RowOf w.heap.size w.heap.size ws.length ws.length (sofar (quoAt T ws) 0) w2) := HR1.out.kept hg2 (Or.inr (by simp [Value.ownBlock]))
  clear hown2 hg2
  go_upto_region 3 with fail
  obtain ⟨W, hW⟩ : ∃ W, W = w2.alloc (.cells #[.slice (some ⟨w1.heap.size, 0, none⟩) ws.length ws.length] 22) := ⟨_, rfl⟩
  have hD : Hid (Dealt w.heap.size w W T ws w.heap.size w1.heap.size w2.heap.size 0 0) := by
    have l1 := (HR1.out.lt w.heap.size rfl).2
    have l2 := (HR2.out.lt w1.heap.size rfl).2
    have l3 := HB2.out.size
    rw [hW]
    exact ⟨HR1'.out.alloc _, HR2.out.alloc _, by simp, HB2.out.alloc l3 _, ⟨l3, by simp⟩, by omega⟩
  have NE : Hid (w.heap.size ≠ w1.heap.size) := by have := (HR1.out.lt w.heap.size rfl).2; exact Lib.hid (by omega)
  rw [← hW]
  clear hW HR1' HR2 HR1 HB1 HB2 hz0 hz1 hz2 hi
  generalize w1.heap.size = g2 at *
  generalize w2.heap.size = bx at *
  go_wp2
  go_loopw [9, 23] (fun l' i' wr => ∃ (k : Nat) (left : Int), i' = .int .i64 k ∧ k ≤ ws.length ∧ l' = .int .i64 left ∧ 0 ≤ left ∧ left ≤ T ∧ Hid (left = T - sumTo (quoAt T ws) k) ∧ Hid (Dealt w.heap.size w wr T ws w.heap.size g2 bx k k)) (fun _ i _ => ws.length - (intOf i).toNat)
  case atStart => exact ⟨0, T, rfl, by omega, rfl, ht0, by omega, Lib.hid (by simp [sumTo]), hD⟩
  case round =>
    clear hD
    obtain ⟨k, left, rfl, hk, rfl, hl0, hl1, hl, hD⟩ := hrel
    by_cases hlt : k < ws.length
    · have hx := (hD.out.old.cell (p := ⟨b, off + k, none⟩) hB).trans (HC.out k hlt)
      have hcF := (spart2 HF.out hlt wr).1
      have HCF := Lib.hid hcF
      have HCR : Hid (∀ v, Calls Try.prog 26 #[.int .i64 T, .int .i64 (weighs ws k), .int .i64 (wholeN ws)] v (fun e w' => e = .returned (.tuple #[.int .i64 (remAt T ws k), .int .i64 0]) ∧ Below v.heap.size v w')) := Lib.hid fun v => (spart2 HF.out hlt v).2
      obtain ⟨hq1, hq2⟩ := left_upto HF.out hlt
      have hq0 := (quo_at HF.out hlt).1
      rw [← hl.out] at hq1 hq2
      have HL : Hid (left - quoAt T ws k = T - sumTo (quoAt T ws) (k + 1)) := Lib.hid hq2
      have i1 : (k : Int) < (ws.length : Int) := by omega
      clear hcF hq2
      go_wp2_with (go_at_call 17; refine HCF.out.mono ?_; rintro e w3 ⟨rfl, hb3⟩; have hD3 := Lib.hid (hD.out.below hb3); clear hb3; have cO := own_cell hD3.out.out k hlt; have fO := hD3.out.out.frozenAt k)
      have hV := hD3.out.putOut
      clear cO fO hx hD hD3 HCF
      generalize w3.setCell ⟨w.heap.size, k, none⟩ (.int .i64 (quoAt T ws k)) = V at *
      have HV := Lib.hid hV.drew
      have cX := hV.drew.box
      clear hV
      go_region_with (go_at_call 26; refine (HCR.out _).mono ?_; rintro e w4 ⟨rfl, hb4⟩; have hD4 := Lib.hid (HV.out.below hb4); clear hb4; have cX4 := hD4.out.box; have cR := own_cell hD4.out.rest k hlt; have fR := hD4.out.rest.frozenAt k)
      all_goals
        have hD5 := Lib.hid hD4.out.putRest
        clear cX cX4 cR fR HV hD4
        generalize w4.setCell ⟨g2, k, none⟩ (.int .i64 (remAt T ws k)) = V5 at *
        have cS := own_cell hD5.out.out k hlt
        rw [show sofar (quoAt T ws) (k + 1) k = quoAt T ws k by unfold sofar; rw [if_pos (by omega)]] at cS
        go_wp2
        go_roundw
        case rel => exact ⟨k + 1, left - quoAt T ws k, by go_num, by omega, rfl, hq1, by omega, HL, hD5⟩
        case measure => simp [intOf]; omega
    · obtain rfl : k = ws.length := by omega
      have HL : Hid (left = leftOf T ws) := Lib.hid hl.out
      have hlb := left_bd HF.out
      rw [← HL.out] at hlb
      obtain ⟨hlb0, hlb1⟩ := hlb
      have HK : Hid (Keys wr.heap.size wr bx g2 ws.length (remAt T ws)) := Lib.hid ⟨hD.out.box, fun j hj => by
          rw [own_cell hD.out.rest j hj]
          unfold sofar; rw [if_pos hj], hD.out.lb.2, (hD.out.rest.lt g2 rfl).2⟩
      have HFS := Lib.hid (firsts_any HK.out (by omega))
      obtain ⟨t0, rfl⟩ : ∃ t0 : Nat, left = t0 := ⟨left.toNat, by omega⟩
      go_wp2_with (go_at_call 27; refine HFS.out.mono ?_; rintro e w5 ⟨g, f, rfl, hso, hvl, hrow, hb5⟩)
      have HRK : Hid (∀ t, t < ws.length → rank (remAt T ws) ws.length (f t).toNat = t) := Lib.hid (so_rank hso hvl)
      have HVL := Lib.hid hvl
      have HIX := Lib.hid hrow
      have HSH : Hid (RowOf w.heap.size w.heap.size ws.length ws.length (outAt T ws 0) w5) := by
        have h1 := row_below hD.out.out hb5
        rw [RowOf, sofar_all, ← out_first] at h1
        exact Lib.hid h1
      have HBL : Hid (Below w.heap.size w w5) := Lib.hid (hD.out.old.trans (hb5.mono hD.out.old.size))
      have HNE : Hid (g ≠ w.heap.size) := by
        have h1 := (hrow.lt g rfl).1
        have h2 := (hD.out.out.lt w.heap.size rfl).2
        exact Lib.hid (by omega)
      have HB1 : Hid (w.heap.size ≤ wr.heap.size) := Lib.hid hD.out.old.size
      clear hso hvl hrow hb5 hD HK HFS hl
      go_loopw [62] (fun i' wr2 => ∃ t : Nat, i' = .int .i64 t ∧ t ≤ t0 ∧ Hid (RowOf w.heap.size w.heap.size ws.length ws.length (outAt T ws t) wr2) ∧ Hid (RowOf wr.heap.size g ws.length ws.length f wr2) ∧ Hid (Below w.heap.size w wr2)) (fun i _ => t0 - (intOf i).toNat)
      case atStart => exact ⟨0, rfl, by omega, HSH, HIX, HBL⟩
      case round =>
        clear HSH HIX HBL
        obtain ⟨t, rfl, ht, hsh, hix, hbl⟩ := hrel
        by_cases htt : t < t0
        · have htn : t < ws.length := by omega
          obtain ⟨hv0, hv1⟩ := HVL.out t htn
          obtain ⟨j, hj⟩ : ∃ j : Nat, f t = j := ⟨(f t).toNat, by omega⟩
          have hjn : j < ws.length := by omega
          have hrk := HRK.out t htn
          rw [hj, Int.toNat_natCast] at hrk
          have cI := own_cell hix.out t htn
          rw [hj] at cI
          obtain ⟨s1, _, s3, s4, _⟩ := out_step (T := T) hjn hrk
          have cS := own_cell hsh.out j hjn
          rw [s3] at cS
          have fS := hsh.out.frozenAt j
          have hq0 := quo_at HF.out hjn
          have hO := own_stored hsh.out j (f' := outAt T ws (t + 1)) s1
          rw [s4] at hO
          have hI := ownsRow_setCell_other hix.out (a := ⟨w.heap.size, j, none⟩) (by simp [Value.ownBlock]; exact HNE.out) (.int .i64 (quoAt T ws j + 1))
          have hB2 := hbl.out.setCell (p := ⟨w.heap.size, j, none⟩) (Nat.le_refl _) (.int .i64 (quoAt T ws j + 1))
          have HO := Lib.hid hO
          have HI := Lib.hid hI
          have HB2 := Lib.hid hB2
          have i1 : (j : Int) < (ws.length : Int) := by omega
          have i2 : (t : Int) < (t0 : Int) := by omega
          clear hO hI hB2 s1 s3 s4 hsh hix hbl hrk hj hv0 hv1
          go_wp2
          go_roundw
          case rel => exact ⟨t + 1, by go_num, by omega, HO, HI, HB2⟩
          case measure => simp [intOf]; omega
        · obtain rfl : t = t0 := by omega
          have htz : t = (leftOf T ws).toNat := by have := HL.out; omega
          have hsh' := hsh.out
          rw [RowOf, htz, out_last HF.out] at hsh'
          have hol := out_len HF.out
          have ho' : wr.ownsRow w.heap.size 3 1 (.slice (some ⟨w.heap.size, 0, none⟩) ws.length ws.length) (outL T ws).length (intCells (outL T ws)) := by rw [hol]; exact hsh'
          obtain ⟨a, cap', hv, hI⟩ := ints_own ho'
          have HV := Lib.hid hv
          have HI := Lib.hid hI
          clear hv hI htz
          go_wp2
          go_ret
          exact ⟨a, cap', by rw [← HV.out]; rfl, HI.out, hbl.out⟩
end Go.Proofs.Ytmdonhkdkapjpaa
