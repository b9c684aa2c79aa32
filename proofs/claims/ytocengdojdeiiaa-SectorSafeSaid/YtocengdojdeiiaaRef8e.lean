/- The document's own Boot, for every device and choice, in every world. -/
import Derived.Test.YtocengdojdeiiaaRef8d
import Derived.BigQuiet
namespace Go.Proofs.Ytocengdojdeiiaa
open Go.RowKit

/-- A slice of bools, whose cells lie below block B. -/
def Bools (B : Nat) (w : World) (a : Option Addr) (xs : List Bool) : Prop :=
  xs = [] ∨ ∃ b off, a = some ⟨b, off, none⟩ ∧ b < B ∧ ∀ j, j < xs.length → w.cell? ⟨b, off + j, none⟩ = some (.bool (xs.getD j false))
theorem Bools.below {B : Nat} {w w' : World} {a : Option Addr} {xs : List Bool} (h : Bools B w a xs) (hb : Below B w w') : Bools B w' a xs := by
  rcases h with h | ⟨b, off, ha, hB, hc⟩
  · exact Or.inl h
  · exact Or.inr ⟨b, off, ha, hB, fun j hj => (hb.cell (p := ⟨b, off + j, none⟩) hB).trans (hc j hj)⟩
/-- How things lie in a call that has a device of its own: all that lay in W0, but for the box, stays. -/
structure Own9 (w W0 : World) (b g cap : Nat) (d : Dv) (wr : World) : Prop where
  box : wr.heap[b]? = some (.cells #[.slice (some ⟨g, 0, none⟩) d.cells.length cap, .int .i64 d.ops, .int .i64 d.armed, .bool d.dead] 32 (0, 0))
  row : wr.ownsRow W0.heap.size 69 3 (.slice (some ⟨g, 0, none⟩) d.cells.length cap) d.cells.length (secCells d.cells)
  oth : ∀ (k : Nat) (o : Obj), W0.heap[k]? = some o → k ≠ b → wr.heap[k]? = some o
  lt : b < W0.heap.size
  old : Below w.heap.size w wr
  ge : w.heap.size ≤ b
theorem Own9.new {w W0 wr : World} {b g cap : Nat} {d : Dv} (h : Own9 w W0 b g cap d wr) : W0.heap.size ≤ g ∧ g < wr.heap.size := by
  obtain ⟨cs, hcs⟩ := own_obj h.row
  exact ⟨(h.row.lt g rfl).1, obj_lt hcs⟩
theorem Own9.set {w W0 wr : World} {b g cap : Nat} {d : Dv} (h : Own9 w W0 b g cap d wr) (l : List Sec) (hl : l.length = d.cells.length) (j : Nat) (u : Value) (he : (secCells d.cells).set j u = secCells l) : Own9 w W0 b g cap ⟨l, d.ops, d.armed, d.dead⟩ (wr.setCell ⟨g, j, none⟩ u) := by
  have hn := h.new
  have hlt := h.lt
  have hge := h.ge
  refine ⟨?_, ?_, fun k o hk hne => ?_, h.lt, h.old.setCell (p := ⟨g, j, none⟩) (by show w.heap.size ≤ g; omega) _, h.ge⟩
  · rw [heap_setCell_other _ _ _ _ (by simp; omega), hl]; exact h.box
  · have := (h.row.stored j u).1
    rw [he] at this
    simp only [hl]
    exact this
  · have := obj_lt hk
    rw [heap_setCell_other _ _ _ _ (by simp; omega)]; exact h.oth k o hk hne
theorem Own9.drew {w W0 wr : World} {b g cap : Nat} {d : Dv} (h : Own9 w W0 b g cap d wr) : Own9 w W0 b g cap d wr.drew := ⟨h.box, h.row.drew, h.oth, h.lt, drawn_below h.old 1, h.ge⟩
theorem Own9.drewN {w W0 wr : World} {b g cap : Nat} {d : Dv} (h : Own9 w W0 b g cap d wr) (n : Nat) : Own9 w W0 b g cap d (wr.drewN n) := ⟨h.box, ⟨h.row.1, h.row.2⟩, h.oth, h.lt, drawn_below h.old n, h.ge⟩
theorem Own9.at {w W0 wr : World} {b g cap : Nat} {d : Dv} (h : Own9 w W0 b g cap d wr) (k : Nat) (hk : k < d.cells.length) :
    wr.cell? ⟨g, k * 3, none⟩ = some (.string (d.cells[k]).now) ∧ wr.cell? ⟨g, k * 3 + 1, none⟩ = some (.string (d.cells[k]).safe) ∧ wr.cell? ⟨g, k * 3 + 2, none⟩ = some (.bool (d.cells[k]).loose) ∧ ∀ j, wr.frozen? ⟨g, j, none⟩ = false := by
  obtain ⟨s0, s1, s2⟩ := sec_at d.cells k hk
  rw [Nat.mul_comm] at s0 s1 s2
  exact ⟨by rw [h.row.cellAt _ (by omega), s0], by rw [h.row.cellAt _ (by omega), s1], by rw [h.row.cellAt _ (by omega), s2], h.row.frozenAt⟩
/-- A whole sector stored into anew. -/
theorem own9_sec {w W0 wr : World} {b g cap : Nat} {l : List Sec} {x y : Int} {z : Bool} (h : Own9 w W0 b g cap ⟨l, x, y, z⟩ wr) (k : Nat) (hk : k < l.length) (t : ByteArray) (v : Bool) :
    Own9 w W0 b g cap ⟨l.set k ⟨t, t, v⟩, x, y, z⟩ (((wr.setCell ⟨g, k * 3, none⟩ (.string t)).setCell ⟨g, k * 3 + 1, none⟩ (.string t)).setCell ⟨g, k * 3 + 2, none⟩ (.bool v)) := by
  have h1 := h.set (l.set k ⟨t, l[k].safe, l[k].loose⟩) (by simp) (k * 3) (.string t) (by rw [Nat.mul_comm]; exact (sec_set l k hk t t false).1)
  have h2 := h1.set (l.set k ⟨t, t, l[k].loose⟩) (by simp) (k * 3 + 1) (.string t) (by
    have := (sec_set (l.set k ⟨t, l[k].safe, l[k].loose⟩) k (by simpa using hk) t t false).2.1
    simp only [List.getElem_set_self, List.set_set] at this
    rw [Nat.mul_comm]; exact this)
  exact h2.set (l.set k ⟨t, t, v⟩) (by simp) (k * 3 + 2) (.bool v) (by
    have := (sec_set (l.set k ⟨t, t, l[k].loose⟩) k (by simpa using hk) t t v).2.2
    simp only [List.getElem_set_self, List.set_set] at this
    rw [Nat.mul_comm]; exact this)
theorem own9_made {w W0 w3 : World} {b g cap : Nat} {d : Dv} {x0 x1 x2 x3 : Value} (hA : W0.heap[b]? = some (.cells #[x0, x1, x2, x3] 32 (0, 0)))
    (hge : w.heap.size ≤ b) (hB : Below w.heap.size w W0) (b3 : Below W0.heap.size W0 w3)
    (hO : w3.ownsRow W0.heap.size 69 3 (.slice (some ⟨g, 0, none⟩) d.cells.length cap) d.cells.length (secCells d.cells)) :
    Own9 w W0 b g cap d ((((w3.setCell ⟨b, 0, none⟩ (.slice (some ⟨g, 0, none⟩) d.cells.length cap)).setCell ⟨b, 1, none⟩ (.int .i64 d.ops)).setCell ⟨b, 2, none⟩ (.int .i64 d.armed)).setCell ⟨b, 3, none⟩ (.bool d.dead)) := by
  have h1 := obj_lt hA
  have h2 := (hO.lt g rfl).1
  exact ⟨four_stored8 (old_obj b3 hA) _ _ _ _, own_stores hO (by omega) _ _ _ _, fun k o hk hne => four_other8 (old_obj b3 hk) hne _ _ _ _, h1, four_below8 (hB.trans (b3.mono hB.size)) hge _ _ _ _, hge⟩
theorem looseTo_le (l : List Sec) (k : Nat) : looseTo l k ≤ k := by
  unfold looseTo
  have h1 := List.countP_le_length (p := Sec.loose) (l := l.take k)
  rw [List.length_take] at h1
  omega

set_option maxRecDepth 100000 in
set_option maxHeartbeats 4000000 in
theorem rboot_any (B : Nat) (a : Value) (d : Dv) (hfit : d.Fit) (h0 : 0 < d.cells.length) (hL : d.cells.length ≤ 2000) (ka : Option Addr) (kc : Nat) (ks : List Bool) (torn cut : Int) (_hks : ks.length ≤ 4611686018427387904) (w : World) (hB : B ≤ w.heap.size) (hd : RDev B w a d) (hK : Bools w.heap.size w ka ks) :
    Calls Try.prog 33 #[.agg #[a, .int .i64 d.ops, .int .i64 d.armed, .bool d.dead], .agg #[.slice ka ks.length kc, .int .i64 torn, .int .i64 cut]] w fun e w' => ∃ a', e = .returned (.agg #[a', .int .i64 (d.boot ks torn cut).ops, .int .i64 (d.boot ks torn cut).armed, .bool (d.boot ks torn cut).dead]) ∧ RDev B w' a' (d.boot ks torn cut) ∧ Below w.heap.size w w' := by
  obtain ⟨g, cap, rfl⟩ := Joins.ownsRow_form hd.row h0
  have HD := Lib.hid hd
  have HK := Lib.hid hK
  have HFR : Hid (∀ w', RDev B w' (.slice (some ⟨g, 0, none⟩) d.cells.length cap) d → Calls Try.prog 46 #[.agg #[.slice (some ⟨g, 0, none⟩) d.cells.length cap, .int .i64 d.ops, .int .i64 d.armed, .bool d.dead]] w' fun e w'' => ∃ g2 cap2, e = .returned (.agg #[.slice (some ⟨g2, 0, none⟩) d.cells.length cap2, .int .i64 d.ops, .int .i64 d.armed, .bool d.dead]) ∧ w''.ownsRow w'.heap.size 69 3 (.slice (some ⟨g2, 0, none⟩) d.cells.length cap2) d.cells.length (secCells d.cells) ∧ Below w'.heap.size w' w'') := Lib.hid fun w' h => by
    refine (rfresh_any B _ d w' h h0 hL).mono ?_
    rintro e w'' ⟨a', rfl, hr, hb⟩
    obtain ⟨g2, cap2, rfl⟩ := Joins.ownsRow_form hr.row h0
    exact ⟨g2, cap2, rfl, hr.row, hb⟩
  have HFIT := Lib.hid hfit
  clear hd hK hfit
  go_enter Try.func33, Try.ntmps33
  go_upto_region 1 with fail
  obtain ⟨W0, hW0, hB0, hA0, hC0, hR0⟩ : ∃ W0, W0 = ((w.alloc (.cells #[.slice (some ⟨g, 0, none⟩) d.cells.length cap, .int .i64 d.ops, .int .i64 d.armed, .bool d.dead] 32)).alloc (.cells #[.slice ka ks.length kc, .int .i64 torn, .int .i64 cut] 39)).alloc (.cells #[.slice none 0 0, .int .i64 0, .int .i64 0, .bool false] 32) ∧ Below w.heap.size w W0 ∧ W0.heap[w.heap.size]? = some (.cells #[.slice (some ⟨g, 0, none⟩) d.cells.length cap, .int .i64 d.ops, .int .i64 d.armed, .bool d.dead] 32 (0, 0)) ∧ W0.heap[w.heap.size + 1]? = some (.cells #[.slice ka ks.length kc, .int .i64 torn, .int .i64 cut] 39 (0, 0)) ∧ W0.heap[w.heap.size + 2]? = some (.cells #[.slice none 0 0, .int .i64 0, .int .i64 0, .bool false] 32 (0, 0)) := by
    obtain ⟨h1, h2, h3, h4⟩ := below_three (Below.refl _ (((w.alloc (.cells #[.slice (some ⟨g, 0, none⟩) d.cells.length cap, .int .i64 d.ops, .int .i64 d.armed, .bool d.dead] 32)).alloc (.cells #[.slice ka ks.length kc, .int .i64 torn, .int .i64 cut] 39)).alloc (.cells #[.slice none 0 0, .int .i64 0, .int .i64 0, .bool false] 32)))
    exact ⟨_, rfl, h1, h2, h3, h4⟩
  rw [← hW0]
  clear hW0
  obtain ⟨c0, c1, c2, c3, f0, f1, f2, f3⟩ := four_cells8 hA0
  have HA0 := Lib.hid hA0
  have HB0 := Lib.hid hB0
  have HC0 := Lib.hid hC0
  have HR0 := Lib.hid hR0
  clear hA0 hB0 hC0 hR0
  go_upto_region 2 with (go_at_call 46; refine (HFR.out _ (HD.out.step HB0.out)).mono ?_; rintro e w3 ⟨g2, cap2, rfl, hO3, b3⟩; clear c0 c1 c2 c3 f0 f1 f2 f3; obtain ⟨c0, c1, c2, c3, f0, f1, f2, f3⟩ := four_cells8 (old_obj b3 HA0.out); have HO3 := Lib.hid hO3; have HBB := Lib.hid b3; clear hO3 b3)
  clear c0 c1 c2 c3 f0 f1 f2 f3
  obtain ⟨W4, hW4, HU0⟩ : ∃ W4, W4 = (((w3.setCell ⟨w.heap.size, 0, none⟩ (.slice (some ⟨g2, 0, none⟩) d.cells.length cap2)).setCell ⟨w.heap.size, 1, none⟩ (.int .i64 d.ops)).setCell ⟨w.heap.size, 2, none⟩ (.int .i64 d.armed)).setCell ⟨w.heap.size, 3, none⟩ (.bool d.dead) ∧ Hid (Own9 w W0 w.heap.size g2 cap2 ⟨booted d.cells ks torn cut 0, d.ops, d.armed, d.dead⟩ W4) :=
    ⟨_, rfl, Lib.hid (by rw [booted_none]; exact own9_made (d := ⟨d.cells, d.ops, d.armed, d.dead⟩) HA0.out (Nat.le_refl _) HB0.out HBB.out HO3.out)⟩
  rw [← hW4]
  clear hW4
  obtain ⟨m, hm⟩ : ∃ m, d.cells.length = m := ⟨_, rfl⟩
  have HFL : Hid (∀ k, (booted d.cells ks torn cut k).length = m) := Lib.hid fun k => by rw [booted_len, hm]
  have HM := Lib.hid hm
  rw [hm] at hL h0 ⊢
  clear hm
  go_wp2
  go_loopw [5, 6] (fun n' i' wr => ∃ k : Nat, i' = .int .i64 k ∧ n' = .int .i64 (looseTo d.cells k : Nat) ∧ k ≤ m ∧ Hid (Own9 w W0 w.heap.size g2 cap2 ⟨booted d.cells ks torn cut k, d.ops, d.armed, d.dead⟩ wr)) (fun _ i _ => m - (intOf i).toNat)
  case atStart => exact ⟨0, rfl, by simp [looseTo], by omega, HU0⟩
  case round =>
    obtain ⟨k, rfl, rfl, hk, hU⟩ := hrel
    have hbx := hU.out.box
    have hnw := hU.out.new
    have hw0 := obj_lt HR0.out
    simp only [HFL.out k] at hbx
    obtain ⟨c0, c1, c2, c3, f0, f1, f2, f3⟩ := four_cells8 hbx
    clear hbx
    by_cases hlt : k < m
    · have i1 : (k : Int) < (m : Int) := by omega
      have hkl : k < d.cells.length := by rw [HM.out]; exact hlt
      have hkb : k < (booted d.cells ks torn cut k).length := by rw [HFL.out]; exact hlt
      obtain ⟨s0, s1, s2, s3⟩ := hU.out.at k hkb
      simp only [booted_at d.cells ks torn cut k k hkl (Nat.le_refl _)] at s0 s1 s2
      have s30 := s3 (k * 3)
      have s31 := s3 (k * 3 + 1)
      have s32 := s3 (k * 3 + 2)
      have HLM := Lib.hid (loose_more d.cells k hkl)
      have hln := looseTo_le d.cells k
      clear s3
      cases hlo : (d.cells[k]'hkl).loose with
      | false =>
        have HBS := Lib.hid (booted_stay d.cells ks torn cut k hkl hlo)
        have HLM2 : Hid (looseTo d.cells (k + 1) = looseTo d.cells k) := Lib.hid (by rw [HLM.out, hlo, if_neg (by decide), Nat.add_zero])
        rw [hlo] at s2
        clear hlo
        go_wp2
        go_roundw
        case rel => exact ⟨k + 1, by go_num, by rw [HLM2.out], by omega, by rw [HBS.out]; exact hU⟩
        case measure => simp [intOf]; omega
      | true =>
        have HBM := Lib.hid (booted_more d.cells ks torn cut k hkl hlo)
        have HLM2 : Hid (looseTo d.cells (k + 1) = looseTo d.cells k + 1) := Lib.hid (by rw [HLM.out, hlo, if_pos rfl])
        rw [hlo] at s2
        have hch := hU.out.oth _ _ HC0.out (by omega)
        obtain ⟨q0, q1, q2, _, _, _⟩ := three_cells hch
        have HFK := Lib.hid (HFIT.out _ (List.getElem_mem hkl))
        have HLF : Hid (leftOf (d.cells[k]'hkl) (looseTo d.cells k) ks torn cut = if ((looseTo d.cells k : Nat) : Int) = torn then (d.cells[k]'hkl).now.extract 0 (cutAt cut) ++ (d.cells[k]'hkl).safe.extract (cutAt cut) (d.cells[k]'hkl).safe.size else if ks.getD (looseTo d.cells k) false = true then (d.cells[k]'hkl).now else (d.cells[k]'hkl).safe) := Lib.hid rfl
        have HKS : Hid (∀ j, j < ks.length → ∃ b off, ka = some ⟨b, off, none⟩ ∧ wr.cell? ⟨b, off + j, none⟩ = some (.bool (ks.getD j false))) := Lib.hid fun j hj => by
          rcases HK.out.below hU.out.old with h | ⟨b, off, ha, _, hc⟩
          · rw [h] at hj; exact absurd hj (by simp)
          · exact ⟨b, off, ha, hc j hj⟩
        generalize leftOf (d.cells[k]'hkl) (looseTo d.cells k) ks torn cut = LF at *
        generalize (d.cells[k]'hkl).now = NW at *
        generalize (d.cells[k]'hkl).safe = SF at *
        generalize looseTo d.cells k = K at *
        clear hlo hch HLM
        go_upto_region 8 with fail
        go_cut [42] (fun b wx => b = .bool (ks.getD K false) ∧ wx = wr)
        case first =>
          by_cases hK1 : K < ks.length
          · have j1 : (K : Int) < (ks.length : Int) := by omega
            obtain ⟨b0, off, rfl, hc⟩ := HKS.out K hK1
            clear hK1
            go_wp2
            go_meet
            exact ⟨rfl, rfl⟩
          · have j1 : ¬ (K : Int) < (ks.length : Int) := by omega
            have j2 : decide ((K : Int) < (ks.length : Int)) = false := decide_eq_false j1
            have HKF : Hid (ks.getD K false = false) := Lib.hid (by rw [List.getD_eq_getElem?_getD, List.getElem?_eq_none (by omega)]; rfl)
            clear hK1
            go_wp2
            go_meet
            exact ⟨by rw [HKF.out], rfl⟩
        case rest =>
          obtain ⟨rfl, rfl⟩ := hcut
          clear HKS
          obtain ⟨kb, hkb2⟩ : ∃ kb, ks.getD K false = kb := ⟨_, rfl⟩
          rw [hkb2] at HLF ⊢
          clear hkb2
          obtain ⟨KP, hKP⟩ : ∃ KP, (if kb = true then NW else SF) = KP := ⟨_, rfl⟩
          rw [hKP] at HLF
          have HKP := Lib.hid hKP
          clear hKP
          go_upto_if 42 with fail
          go_cut [7] (fun l wx => l = .string KP ∧ wx = wc)
          case first =>
            cases kb with
            | true =>
              have e1 : NW = KP := HKP.out
              clear HKP HLF
              subst e1
              go_wp2
              go_meet
              exact ⟨rfl, rfl⟩
            | false =>
              have e1 : SF = KP := HKP.out
              clear HKP HLF
              subst e1
              go_wp2
              go_meet
              exact ⟨rfl, rfl⟩
          case rest =>
            obtain ⟨rfl, rfl⟩ := hcut
            clear HKP
            go_upto_if 52 with fail
            go_cut [7] (fun l wx => l = .string LF ∧ ∃ nq, wx = wc.drewN nq)
            case first =>
              by_cases hT : (K : Int) = torn
              · have e1 : ((K : Int) == torn) = true := beq_iff_eq.2 hT
                rw [if_pos hT] at HLF
                have hsum : ∀ n : Nat, ¬ 9223372036854775807 < (NW.extract 0 n).size + (SF.extract n SF.size).size := fun n => by
                  rw [ByteArray.size_extract, ByteArray.size_extract, HFK.out.1, HFK.out.2]; omega
                by_cases hc0 : cut < 0
                · have e2 : decide (cut < 0) = true := decide_eq_true hc0
                  have hcu : cutAt cut = 0 := by unfold cutAt; rw [if_pos hc0]
                  rw [hcu] at HLF
                  have hs1 := cut_to NW 0 (by omega) (by rw [HFK.out.1]; omega)
                  have hs2 := cut_from SF 0 (by omega) (by omega)
                  have hs3 := hsum 0
                  rw [show (0 : Int).toNat = 0 from rfl] at hs1 hs2
                  generalize NW.extract 0 0 = X at *
                  generalize SF.extract 0 SF.size = Y at *
                  have hLF : LF = X ++ Y := HLF.out
                  clear HLF hsum hc0 hcu hT
                  subst hLF
                  go_upto_region 16 with fail
                  go_quiet (fail)
                  go_wp2
                  go_meet
                  exact ⟨rfl, nq, rfl⟩
                · have e2 : decide (cut < 0) = false := decide_eq_false hc0
                  by_cases hc6 : 64 < cut
                  · have e3 : decide (64 < cut) = true := decide_eq_true hc6
                    have hcu : cutAt cut = 64 := by unfold cutAt; rw [if_neg hc0, if_pos hc6]
                    rw [hcu] at HLF
                    have hs1 := cut_to NW 64 (by omega) (by rw [HFK.out.1]; omega)
                    have hs2 := cut_from SF 64 (by omega) (by rw [HFK.out.2]; omega)
                    have hs3 := hsum 64
                    rw [show (64 : Int).toNat = 64 from rfl] at hs1 hs2
                    generalize NW.extract 0 64 = X at *
                    generalize SF.extract 64 SF.size = Y at *
                    have hLF : LF = X ++ Y := HLF.out
                    clear HLF hsum hcu hT
                    subst hLF
                    go_upto_region 16 with fail
                    go_quiet (fail)
                    go_wp2
                    go_meet
                    exact ⟨rfl, nq, rfl⟩
                  · have e3 : decide (64 < cut) = false := decide_eq_false hc6
                    obtain ⟨C, rfl⟩ : ∃ C : Nat, cut = C := ⟨cut.toNat, by omega⟩
                    have hcu : cutAt (C : Int) = C := by unfold cutAt; rw [if_neg hc0, if_neg hc6, Int.toNat_natCast]
                    rw [hcu] at HLF
                    have hs1 := cut_to NW (C : Int) (by omega) (by rw [HFK.out.1]; omega)
                    have hs2 := cut_from SF (C : Int) (by omega) (by rw [HFK.out.2]; omega)
                    have hs3 := hsum C
                    have hw1 := HFK.out.1
                    have hw2 := HFK.out.2
                    have hC0 : (C : Int) ≤ 64 := by omega
                    rw [Int.toNat_natCast] at hs1 hs2
                    generalize NW.extract 0 C = X at *
                    generalize SF.extract C SF.size = Y at *
                    have hLF : LF = X ++ Y := HLF.out
                    clear HLF hsum hcu hT hc0 hc6
                    subst hLF
                    go_upto_region 16 with fail
                    go_quiet (fail)
                    go_wp2
                    go_meet
                    exact ⟨rfl, nq, rfl⟩
              · have e1 : ((K : Int) == torn) = false := beq_eq_false_iff_ne.2 hT
                have hLF : LF = KP := by have := HLF.out; rw [if_neg hT] at this; exact this
                clear HLF hT
                subst hLF
                go_wp2
                go_meet
                exact ⟨rfl, 0, rfl⟩
            case rest =>
              obtain ⟨rfl, nq, hwx⟩ := hcut
              clear HLF HFK
              have hU9 := hU.out.drewN nq
              rw [← hwx] at hU9
              have HS9 := Lib.hid (own9_sec hU9 k hkb LF false)
              clear hwx c0 c1 c2 c3 f0 f1 f2 f3 s0 s1 s2 s30 s31 s32 q0 q1 q2 hU hnw
              have hbx := hU9.box
              have hnw := hU9.new
              simp only [HFL.out k] at hbx
              obtain ⟨c0, c1, c2, c3, f0, f1, f2, f3⟩ := four_cells8 hbx
              obtain ⟨s0, s1, s2, s3⟩ := hU9.at k hkb
              have s30 := s3 (k * 3)
              have s31 := s3 (k * 3 + 1)
              have s32 := s3 (k * 3 + 2)
              clear s3 hbx hU9
              go_wp2
              go_roundw
              case rel => exact ⟨k + 1, by go_num, by rw [HLM2.out]; go_num, by omega, by rw [HBM.out]; exact HS9⟩
              case measure => simp [intOf]; omega
    · obtain rfl : k = m := by omega
      have hbr := hU.out.oth _ _ HR0.out (by omega)
      obtain ⟨k0, k1, k2, k3, m0, m1, m2, m3⟩ := four_cells8 hbr
      have HBR := Lib.hid hbr
      clear hbr
      go_wp2
      have hx : ((wr.setCell ⟨w.heap.size, 3, none⟩ (.bool false)).setCell ⟨w.heap.size, 2, none⟩ (.int .i64 0)).heap[w.heap.size + 1 + 1]? = some (.cells #[.slice none 0 0, .int .i64 0, .int .i64 0, .bool false] 32 (0, 0)) := by
        rw [heap_setCell_other _ _ _ _ (by simp; omega), heap_setCell_other _ _ _ _ (by simp; omega)]
        exact HBR.out
      have hdb : d.boot ks torn cut = ⟨booted d.cells ks torn cut k, d.ops, 0, false⟩ := by unfold Dv.boot; rw [HM.out]
      refine bodyPost_ret (results_cell_row rfl _ _ (w.heap.size + 1 + 1) 32 _ _ _ rfl (four_stored8 hx _ _ _ _) Try.underlying32 rfl (by kernel_rfl)) rfl ?_
      have hge := hU.out.ge
      have hrow := own_mono (own_stores (own_other (own_other hU.out.row (k := w.heap.size) (by omega) 3 (.bool false)) (k := w.heap.size) (by omega) 2 (.int .i64 0)) (k := w.heap.size + 1 + 1) (by omega) (.slice (some ⟨g2, 0, none⟩) k cap2) (.int .i64 d.ops) (.int .i64 0) (.bool false)) (show B ≤ W0.heap.size by omega)
      rw [hdb]
      refine ⟨_, rfl, ⟨?_⟩, four_below8 ((hU.out.old.setCell (p := ⟨w.heap.size, 3, none⟩) (Nat.le_refl _) _).setCell (p := ⟨w.heap.size, 2, none⟩) (Nat.le_refl _) _) (by omega) _ _ _ _⟩
      simp only [HFL.out k] at hrow ⊢
      exact hrow
end Go.Proofs.Ytocengdojdeiiaa
