/- The program's rows in order of their beginnings (slices.Clone, slices.SortFunc by a closure), and firstFree: in every world. -/
import Derived.Test.YtifihejogbcbgaaLib19
import Derived.Test.YtifihejogbcbgaaMPrgA19
import Derived.Test.YtifihejogbcbgaaShelf
namespace Go.Proofs.Ytifihejogbcbgaa
open Go.RowKit

instance row_default19 : Inhabited Row18 := ⟨⟨0, 0, 0, 0, 0⟩⟩
def cmp19 (x y : Row18) : Int := Lib.compareInt x.lo y.lo
theorem lt19 (x y : Row18) : ltOf cmp19 x y = decide (x.lo < y.lo) := by
  unfold ltOf cmp19 Lib.compareInt
  by_cases h1 : x.lo < y.lo
  · simp [h1]
  · by_cases h2 : y.lo < x.lo <;> simp [h1, h2]
theorem order19 : Go.Sort.SWO (ltOf cmp19) where
  irrefl x := by rw [lt19]; simp
  trans x y z h1 h2 := by rw [lt19] at *; simp at *; omega
  ntrans x y z h1 h2 := by rw [lt19] at *; simp at *; omega
set_option maxHeartbeats 1000000 in
/-- The closure that compares. -/
theorem pcmp19_any (x y : Row18) (W : World) : Calls Try.prog 43 #[rowVal x, rowVal y] W fun e w' => e = .returned (.int .i64 (cmp19 x y)) ∧ ∃ q os', w' = Go.Sort.grow (W.drewN q) os' := by
  have hcon : ∀ W', Calls Try.prog 44 #[.int .i64 x.lo, .int .i64 y.lo] W' fun e w' => e = .returned (.int .i64 (cmp19 x y)) ∧ w' = W' := fun W' => Try.cmp_Compare_int x.lo y.lo W'
  generalize cmp19 x y = r at hcon ⊢
  obtain ⟨xg, xv, xl, xh, xw⟩ := x
  obtain ⟨yg, yv, yl, yh, yw⟩ := y
  dsimp only at *
  go_enter Try.func43, Try.ntmps43
  go_wp2_with (go_at_call 44; refine (hcon _).mono ?_; rintro e w' ⟨rfl, rfl⟩)
  go_ret
  exact ⟨rfl, 0, _, by rw [Go.Sort.alloc_eq_grow, Go.Sort.alloc_eq_grow, Go.Sort.grow_grow]; rfl⟩
theorem cmps19 (blk off size : Nat) (w : World) : CmpLays Try.prog 43 #[] rowElt.enc 5 cmp19 blk off size w := fun _ _ _ _ x y => pcmp19_any x y _
theorem flat19 (l : List Row18) {t : Nat} (h : t < l.length * 5) : (rowElt.cells l)[t]? = some (Go.Sort.flatK rowElt.enc 5 l.toArray)[t]! := by
  have hq : t / 5 < l.length := by omega
  have e : t = t / 5 * 5 + t % 5 := by omega
  rw [Go.Sort.get_flatK _ _ _ _ (by simpa using h)]
  have h1 : l[t / 5]? = some (l.toArray[t / 5]!) := by simp [hq]
  have h2 : t % 5 < (rowElt.enc (l.toArray[t / 5]!)).length := by rw [rowElt.len]; show t % 5 < 5; omega
  have h3 := rowElt.cells_at h1 (i := t % 5) (List.getElem?_eq_getElem h2)
  have h4 : t / 5 * rowElt.k + t % 5 = t := e.symm
  rw [h4] at h3
  rw [h3, getElem!_pos (rowElt.enc (l.toArray[t / 5]!)) (t % 5) h2]
theorem holds19 {w : World} {B : Nat} {g : Nat} {cap : Nat} {l : List Row18} (h : w.ownsRow B 52 5 (.slice (some ⟨g, 0, none⟩) l.length cap) l.length (rowElt.cells l)) : Go.Sort.HoldsK rowElt.enc 5 w g 0 l.toArray := by
  intro t ht
  rw [Go.Sort.size_flatK] at ht
  have ht2 : t < l.length * 5 := by simpa using ht
  have h1 := h.1
  rcases h.2 with ⟨h2, _⟩ | ⟨g2, c2, cur, h2, _, h3, h4, _, h5, h6⟩
  · injection h2 with h2; cases h2
  · have e : g = g2 := by
      injection h2 with h2
      injection h2 with h2
      injection h2
    subst e
    refine ⟨?_, frozen_of_row w g _ _ _ h3⟩
    rw [Nat.zero_add]
    refine cell_of (j := t) h3 ?_
    have h7 := flat19 l ht2
    rw [← h6, List.getElem?_take, if_pos ht2] at h7
    rw [← Array.getElem?_toList, h7]
    rfl
theorem els19 {w : World} {A B g : Nat} {d : Array Row18} (hA : A ≤ g) (hB : g < B) (h : Go.Sort.HoldsK rowElt.enc 5 w g 0 d) : Els rowElt A B w (some ⟨g, 0, none⟩) d.toList := by
  refine Or.inr ⟨g, 0, rfl, hA, hB, fun j u hj => ?_⟩
  have hl : j < d.toList.length * 5 := by
    have := (List.getElem?_eq_some_iff.1 hj).1
    rw [rowElt.cells_len] at this
    exact this
  have h1 := h j (by rw [Go.Sort.size_flatK]; simpa using hl)
  have h2 := flat19 d.toList hl
  rw [hj] at h2
  have h3 : u = (Go.Sort.flatK rowElt.enc 5 d)[j]! := Option.some.inj h2
  rw [h3]
  exact h1.1
theorem below_sort19 (w : World) (g n : Nat) (hg : g < w.heap.size) (d : Array Row18) (os : Array Obj) : Below g w (sortWorldK rowElt.enc 5 w g 0 n d os) := by
  refine ⟨rfl, rfl, rfl, size_sortWorldK_c rowElt.enc 5 w g 0 n d os, fun k hk => ?_⟩
  unfold sortWorldK Go.Sort.putRowK Go.Sort.putRow Go.Sort.mapBlock Go.Sort.grow Go.Sort.ahead
  simp only [Array.getElem?_append, Array.size_modify, Array.getElem?_modify]
  rw [if_pos (by omega), if_neg (by omega)]
theorem list_perm19 {d d' : Array Row18} (h : Go.Sort.PermIn 0 d.size d d') : d'.toList.Perm d.toList := by
  obtain ⟨h1, _, h2⟩ := h
  have e : ∀ x : Array Row18, x.size = d.size → (x.extract 0 d.size).toList = x.toList := fun x hx => by
    rw [← hx, Array.extract_size]
  rw [e _ h1, e _ rfl] at h2
  exact h2
theorem info_parts19 : ∃ i0, Try.prog.info? 52 = some i0 ∧ i0.zero = some (.agg #[.int .i64 0, .int .i64 0, .int .i64 0, .int .i64 0, .int .i64 0]) ∧ i0.size = 5 ∧ i0.bytes = 40 := by
  have h := infoRowp19
  cases hq : Try.prog.info? 52 with
  | none => rw [hq] at h; cases h
  | some i0 =>
    rw [hq] at h
    have := Option.some.inj h
    injection this with h1 h2
    injection h2 with h2 h3
    exact ⟨i0, rfl, h1, h2, h3⟩
theorem psort19_any (g cap B : Nat) (l : List Row18) (w : World) (hB : B ≤ g) (hg : g < w.heap.size) (ho : w.ownsRow B 52 5 (.slice (some ⟨g, 0, none⟩) l.length cap) l.length (rowElt.cells l)) (hn : l.length ≤ 900000) :
    Calls Try.prog 42 #[.slice (some ⟨g, 0, none⟩) l.length cap, .func (.func 43) #[] #[]] w fun e w' => e = .returned (.tuple #[]) ∧ (∃ S : List Row18, S.length = l.length ∧ (∀ r, r ∈ S ↔ r ∈ l) ∧ Rise19 S ∧ Els rowElt B w'.heap.size w' (some ⟨g, 0, none⟩) S) ∧ Below B w w' := by
  have eg : ∀ args w, (callFunc 43 args).run Try.prog w = .ok (.enter 43 args) w := enters_of Try.func43 (by kernel_rfl) rfl
  have hH := holds19 ho
  have hs := AnyQ.slices_SortFunc Try.laySortR 5 Try.isAgg52 Try.sizeOf52 rowElt.enc rowElt.len rowElt.one cmp19 order19 43 #[] g 0 cap l.toArray w eg (cmps19 g 0 _ w) hH hg (by simp; omega)
  change Calls _ 42 _ _ _ at hs
  refine hs.mono ?_
  rintro e w' ⟨rfl, d', n, os, hp, hr, rfl⟩
  have hsz := hp.1
  have hperm := list_perm19 hp
  have hold := holdsK_sortWorldK_c rowElt.enc 5 w g 0 l.toArray d' n os hH hg hsz
  have hle := size_sortWorldK_c rowElt.enc 5 w g 0 n d' os
  refine ⟨rfl, ⟨d'.toList, by simpa using hsz, fun r => ?_, fun i j hij hj => ?_, els19 hB (by omega) hold⟩, (below_sort19 w g n hg d' os).mono hB⟩
  · rw [hperm.mem_iff]
  · have hj' : j < d'.size := by simpa using hj
    have h1 := hr i j (Nat.zero_le _) hij (by omega)
    rw [lt19] at h1
    have e : ∀ m, m < d'.size → rowAt18 d'.toList m = d'[m]! := fun m hm => by
      unfold rowAt18
      rw [List.getD_eq_getElem?_getD, Array.getElem?_toList, getElem!_pos d' m hm, Array.getElem?_eq_getElem hm]
      rfl
    rw [e i (by omega), e j hj']
    simpa using h1
theorem pclone19_any (b off cap : Nat) (l : List Row18) (w : World) (hx : RowsIn w.heap.size w (some ⟨b, off, none⟩) l) (hn : l.length ≤ 900000) :
    Calls Try.prog 41 #[.slice (some ⟨b, off, none⟩) l.length cap] w fun e w' => ∃ g c, e = .returned (.slice (some ⟨g, 0, none⟩) l.length c) ∧ w.heap.size ≤ g ∧ g < w'.heap.size ∧ w'.ownsRow w.heap.size 52 5 (.slice (some ⟨g, 0, none⟩) l.length c) l.length (rowElt.cells l) ∧ Below w.heap.size w w' := by
  obtain ⟨i0, hi, hz0, hz1, hz2⟩ := info_parts19
  have hcl := AnyE.slices_Clone Try.layCloneR i0 _ 5 40 hi hz0 hz1 hz2 rfl (by decide) (fun w => Try.sizeOf52 w) b off l.length cap (rowElt.cells l) w (rowElt.cells_len l) (by unfold maxLen; omega) (by omega) (fun j u hj => by
    rcases hx with h | ⟨b', off', ha, _, _, hc⟩
    · rw [h] at hj; simp at hj
    · obtain ⟨rfl, rfl, _⟩ := Addr.mk.inj (Option.some.inj ha)
      exact hc j u hj) (rowElt.one_cell l)
  change Calls _ 41 _ _ _ at hcl
  refine hcl.mono ?_
  rintro e w' ⟨v, rfl, ho, hne, hb⟩
  rcases ho.2 with ⟨h2, _⟩ | ⟨g, c, cur, rfl, h3, h4, h5⟩
  · exact absurd h2 hne
  · exact ⟨g, c, rfl, h3, obj_lt h4, ho, hb⟩
/-- What the closure keeps: for each cell its rows, in order of their beginnings. -/
def Free19 (w : World) (g : Nat) (l : List Row18) : Prop :=
  ∃ (S : List Row18) (ad : Nat → Option Addr) (cs : Nat → Nat), (∀ r, r ∈ S ↔ r ∈ l) ∧ Rise19 S ∧ S.length = l.length ∧ w.heap[g]? = some (.cells (sl8 ad cs fun c => rowsTo S c S.length) 61 (0, 0)) ∧ ∀ c, c < 8 → Els rowElt 0 w.heap.size w (ad c) (rowsTo S c S.length) ∧ (rowsTo S c S.length).length ≤ cs c
theorem Free19.step {w w' : World} {g : Nat} {l : List Row18} (h : Free19 w g l) (hb : Below w.heap.size w w') : Free19 w' g l := by
  obtain ⟨S, ad, cs, h1, h2, h3, h4, h5⟩ := h
  exact ⟨S, ad, cs, h1, h2, h3, old_obj hb h4, fun c hc => ⟨(h5 c hc).1.step hb, (h5 c hc).2⟩⟩
theorem pbycell19_lit (a : Option Addr) (cap : Nat) (l : List Row18) (w : World) (hx : RowsIn w.heap.size w a l) (hn : l.length ≤ 900000) :
    Calls Try.prog 28 #[.slice a l.length cap] w fun e w' => ∃ (a0 a1 a2 a3 a4 a5 a6 a7 : Option Addr) (n0 n1 n2 n3 n4 n5 n6 n7 : Nat) (k0 k1 k2 k3 k4 k5 k6 k7 : Nat), e = .returned (.agg #[.slice a0 n0 k0, .slice a1 n1 k1, .slice a2 n2 k2, .slice a3 n3 k3, .slice a4 n4 k4, .slice a5 n5 k5, .slice a6 n6 k6, .slice a7 n7 k7]) ∧ (∃ ad cs, (sl8 ad cs fun c => rowsTo l c l.length) = #[.slice a0 n0 k0, .slice a1 n1 k1, .slice a2 n2 k2, .slice a3 n3 k3, .slice a4 n4 k4, .slice a5 n5 k5, .slice a6 n6 k6, .slice a7 n7 k7] ∧ ∀ c, c < 8 → Els rowElt 0 w'.heap.size w' (ad c) (rowsTo l c l.length) ∧ (rowsTo l c l.length).length ≤ cs c) ∧ Below w.heap.size w w' := by
  refine (pbycell19_any a cap l w hx hn).mono ?_
  rintro e w' ⟨ad, cs, rfl, h, hb⟩
  exact ⟨_, _, _, _, _, _, _, _, _, _, _, _, _, _, _, _, _, _, _, _, _, _, _, _, rfl, ⟨ad, cs, rfl, h⟩, hb⟩
abbrev freeF (g : Nat) : Value := .func (.func 45) #[] #[.pointer (some ⟨g, 0, none⟩)]
set_option maxRecDepth 100000 in
set_option maxHeartbeats 4000000 in
theorem pfree19_any (b off cap : Nat) (l : List Row18) (w : World) (hx : RowsIn w.heap.size w (some ⟨b, off, none⟩) l) (hn : l.length ≤ 900000) :
    Calls Try.prog 23 #[.slice (some ⟨b, off, none⟩) l.length cap] w fun e w' => ∃ g, e = .returned (freeF g) ∧ Free19 w' g l ∧ Below w.heap.size w w' := by
  have HCL := Lib.hid (pclone19_any b off cap l w hx hn)
  clear hx
  go_enter Try.func23, Try.ntmps23
  go_upto_region 2 with (go_at_call 41; refine HCL.out.mono ?_; rintro e w2 ⟨g, c, rfl, h1, h2, h3, hb⟩; have HB2 := Lib.hid hb; have HS := Lib.hid (psort19_any g c w.heap.size l w2 h1 h2 h3 hn); clear h1 h2 h3 hb)
  go_upto_region 3 with (go_at_call 42; refine HS.out.mono ?_; rintro e w3 ⟨rfl, ⟨S, hs, hm, hr, he⟩, hb⟩; have HB3 := Lib.hid (HB2.out.trans hb); have HM := Lib.hid hm; have HR := Lib.hid hr; have HL := Lib.hid hs; have HY := Lib.hid (pbycell19_lit (some ⟨g, 0, none⟩) c S w3 (he.wide (Nat.zero_le _) (Nat.le_refl _)) (by omega)); rw [hs] at HY; clear hs hm hr he hb)
  go_wp2_with (go_at_call 28; refine HY.out.mono ?_; rintro e w4 ⟨a0, a1, a2, a3, a4, a5, a6, a7, n0, n1, n2, n3, n4, n5, n6, n7, k0, k1, k2, k3, k4, k5, k6, k7, rfl, ⟨ad, cs, hl, h⟩, hb⟩; have HB4 := Lib.hid (HB3.out.trans (hb.mono HB3.out.size)); have HLI := Lib.hid hl; have HE := Lib.hid h; clear hl h hb)
  go_ret
  refine ⟨w4.heap.size, rfl, ⟨S, ad, cs, HM.out, HR.out, HL.out, ?_, fun c hc => ?_⟩, HB4.out.alloc HB4.out.size _⟩
  · rw [HL.out, HLI.out]
    exact heap_alloc_new _ _
  · rw [HL.out]
    exact ⟨(HE.out c hc).1.step (lit16 w4 _), (HE.out c hc).2⟩
end Go.Proofs.Ytifihejogbcbgaa
namespace Go.Proofs.Ytifihejogbcbgaa
open Go.RowKit

set_option maxRecDepth 100000 in
set_option maxHeartbeats 4000000 in
theorem preach19_any (g : Nat) (l : List Row18) (c : Nat) (hc : c < 8) (f : Int) (h0 : 0 ≤ f) (h1 : f ≤ 1000000000001) (w : World) (hF : Free19 w g l) (hok : ∀ r, r ∈ l → RowOk r) (hn : l.length ≤ 900000) :
    Calls Try.prog 45 #[.int .i64 (c : Int), .int .i64 f, .pointer (some ⟨g, 0, none⟩)] w fun e w' => ∃ F, e = .returned (.int .i64 F) ∧ Reach19 l c f F ∧ Below w.heap.size w w' := by
  obtain ⟨S, ad, cs, hm, hr, hl, hg, he⟩ := hF
  have HR := Lib.hid (reach_says hok hm hr hc h0 h1)
  have c0 := cell_of hg (sl8_at ad cs (fun c => rowsTo S c S.length) hc)
  have HE := Lib.hid (he c hc).1
  have hRow : ∀ j, j < (rowsTo S c S.length).length → RowOk (rowAt18 (rowsTo S c S.length) j) := fun j hj => by
    have h2 := (rows_mem (Nat.le_refl _) _).1 (List.getElem_mem hj)
    obtain ⟨_, i, hi, h3⟩ := h2
    rw [rowAt18_elem hj] at h3
    rw [h3]
    exact hok _ ((hm _).1 (by rw [← rowAt18_elem hi]; exact List.getElem_mem hi))
  have HROW := Lib.hid hRow
  have hRL : (rowsTo S c S.length).length ≤ 900000 := by rw [rows_len]; have := cell_le S c S.length; omega
  clear hn
  have g1 : (c : Int) < 8 := by omega
  have g0 : (0 : Int) ≤ (c : Int) := by omega
  clear hm hr hl hg he hRow hok hc
  generalize rowsTo S c S.length = R at *
  generalize ad c = A at *
  generalize cs c = C at *
  have HT : Hid (∀ k, k ≤ R.length → 0 ≤ reachTo R f k ∧ reachTo R f k ≤ 1000000000001) := Lib.hid fun k hk => ⟨by have := reach_ge R f k; omega, reach_max h1 fun j hj => by have := HROW.out j (by omega); unfold RowOk at this; omega⟩
  go_enter Try.func45, Try.ntmps45
  go_wp2
  go_loopw [1, 12] (fun s1 s12 wr => ∃ k : Nat, s1 = .int .i64 (reachTo R f k) ∧ s12 = .int .i64 k ∧ k ≤ R.length ∧ Hid (Below w.heap.size w wr)) (fun _ s12 _ => R.length - (intOf s12).toNat)
  case atStart => exact ⟨0, rfl, rfl, Nat.zero_le _, Lib.hid (Below.refl _ _)⟩
  case round =>
    obtain ⟨k, rfl, rfl, hk, HB⟩ := hrel
    by_cases hlt : k < R.length
    · have i1 : decide ((k : Int) < (R.length : Int)) = true := decide_eq_true (by omega)
      have i1' : decide (k < R.length) = true := decide_eq_true hlt
      have i2 : (k : Int) < (R.length : Int) := by omega
      have i3 : (0 : Int) ≤ (k : Int) := by omega
      have hk1 : k + 1 ≤ R.length := hlt
      obtain ⟨b, off, rfl, hbb, x0, x1, x2, x3, x4⟩ := rows_at18 (rowsIn_step HE.out HB.out) hlt
      have hro := HROW.out k hlt
      unfold RowOk at hro
      obtain ⟨t0, t1⟩ := HT.out k hk
      have hstep : reachTo R f (k + 1) = if (rowAt18 R k).lo ≤ reachTo R f k then max (reachTo R f k) ((rowAt18 R k).hi + 1) else reachTo R f k := rfl
      have HB2 := Lib.hid (HB.out.trans ((lit16 wr (.cells #[.int .i64 (rowAt18 R k).g, .int .i64 (rowAt18 R k).v, .int .i64 (rowAt18 R k).lo, .int .i64 (rowAt18 R k).hi, .int .i64 (rowAt18 R k).way] 52)).mono HB.out.size))
      clear hlt
      generalize reachTo R f k = F at *
      generalize rowAt18 R k = r at *
      obtain ⟨rg, rv, rl, rh, rw⟩ := r
      dsimp only at *
      have e3 : IntKind.i64.wrap (rh + 1) = rh + 1 := IntWalk.i64_in _ (by omega)
      by_cases hle : rl ≤ F
      · have d1 : decide (rl ≤ F) = true := decide_eq_true hle
        have HV : Hid (reachTo R f (k + 1) = max F (rh + 1)) := Lib.hid (by rw [hstep, if_pos hle])
        clear hstep hro hle t0 t1
        go_wp2
        go_roundw
        case rel => exact ⟨k + 1, by rw [HV.out], by first | rfl | go_num, hk1, HB2⟩
        case measure => first | (simp [intOf]; omega) | simp [intOf]
      · have d1 : decide (rl ≤ F) = false := decide_eq_false hle
        have HV : Hid (reachTo R f (k + 1) = F) := Lib.hid (by rw [hstep, if_neg hle])
        clear hstep hro hle t0 t1
        go_wp2
        go_roundw
        case rel => exact ⟨k + 1, by rw [HV.out], by first | rfl | go_num, hk1, HB2⟩
        case measure => first | (simp [intOf]; omega) | simp [intOf]
    · obtain rfl : k = R.length := by omega
      have i1 : decide ((R.length : Int) < (R.length : Int)) = false := decide_eq_false (by omega)
      go_wp2
      go_ret
      exact ⟨_, rfl, HR.out, HB.out⟩
end Go.Proofs.Ytifihejogbcbgaa
namespace Go.Proofs.Ytifihejogbcbgaa
open Go.RowKit

set_option linter.unusedSimpArgs false in
set_option maxRecDepth 100000 in
set_option maxHeartbeats 4000000 in
theorem pisdead19_any (r : Row18) (hr : RowOk r) (g : Nat) (m : List Row18) (w : World) (hF : Free19 w g m) (hok : ∀ r, r ∈ m → RowOk r) (hn : m.length ≤ 900000) :
    Calls Try.prog 30 #[rowVal r, freeF g] w fun e w' => ∃ x : Bool, e = .returned (.bool x) ∧ (x = false → ∃ c, c < 8 ∧ Opens19 m r c) ∧ (x = true → ∀ c, c < 8 → ¬ Opens19 m r c) ∧ Below w.heap.size w w' := by
  have h1 := heap_alloc_new w (.cells #[.int .i64 r.g, .int .i64 r.v, .int .i64 r.lo, .int .i64 r.hi, .int .i64 r.way] 52)
  obtain ⟨W, hW⟩ : ∃ W, W = w.alloc (.cells #[.int .i64 r.g, .int .i64 r.v, .int .i64 r.lo, .int .i64 r.hi, .int .i64 r.way] 52) := ⟨_, rfl⟩
  have hb0 : Below w.heap.size w W := by rw [hW]; exact lit16 w _
  rw [← hW] at h1
  have HS : Hid (∀ V, Below W.heap.size W V → V.cell? ⟨w.heap.size, 0, none⟩ = some (.int .i64 r.g) ∧ V.cell? ⟨w.heap.size, 1, none⟩ = some (.int .i64 r.v) ∧ V.cell? ⟨w.heap.size, 2, none⟩ = some (.int .i64 r.lo) ∧ V.cell? ⟨w.heap.size, 3, none⟩ = some (.int .i64 r.hi) ∧ V.cell? ⟨w.heap.size, 4, none⟩ = some (.int .i64 r.way)) := Lib.hid fun V hV => by
    have k1 := old_obj hV h1
    exact ⟨cell_of (j := 0) k1 rfl, cell_of (j := 1) k1 rfl, cell_of (j := 2) k1 rfl, cell_of (j := 3) k1 rfl, cell_of (j := 4) k1 rfl⟩
  have HFR := Lib.hid (hF.step hb0)
  have HB0 := Lib.hid hb0
  have HOP : Hid (∀ c F, Reach19 m c r.lo F → inC19 r c = true → (decide (F ≤ r.hi) = true → Opens19 m r c) ∧ (decide (F ≤ r.hi) = false → ¬ Opens19 m r c)) := Lib.hid fun c F h h2 =>
    ⟨fun h3 => (opens_reach hr h).1 (of_decide_eq_true h3) h2, fun h3 => (opens_reach hr h).2 (by have := of_decide_eq_false h3; omega)⟩
  have HNO : Hid (∀ c, inC19 r c = false → ¬ Opens19 m r c) := Lib.hid fun c h h2 => by rw [h2.1] at h; cases h
  have HII : Hid (∀ c : Nat, c < 8 → ∀ V, Calls Try.prog 47 #[rowVal r, .int .i64 (c : Int)] V fun e w' => e = .returned (.bool (inC19 r c)) ∧ Below V.heap.size V w') := Lib.hid fun c hc V => pisin19_any r c hc V
  have HRR : Hid (∀ c : Nat, c < 8 → ∀ V, Below W.heap.size W V → Calls Try.prog 45 #[.int .i64 (c : Int), .int .i64 r.lo, .pointer (some ⟨g, 0, none⟩)] V fun e w' => ∃ F, e = .returned (.int .i64 F) ∧ Reach19 m c r.lo F ∧ Below V.heap.size V w') := Lib.hid fun c hc V hV =>
    preach19_any g m c hc r.lo (by unfold RowOk at hr; omega) (by unfold RowOk at hr; omega) V (HFR.out.step hV) hok hn
  clear hF hok hr h1 hb0 HFR
  have HW := Lib.hid hW
  obtain ⟨rg, rv, rl, rh, rw⟩ := r
  dsimp only at *
  go_enter Try.func30, Try.ntmps30
  go_upto_region 1 with fail
  rw [← hW]
  clear hW
  go_wp2
  go_loopw [6] (fun s6 wr => ∃ c : Nat, s6 = .int .i64 c ∧ c ≤ 8 ∧ Hid (Below W.heap.size W wr) ∧ Hid (∀ j, j < c → ¬ Opens19 m ⟨rg, rv, rl, rh, rw⟩ j)) (fun s6 _ => 8 - (intOf s6).toNat)
  case atStart => exact ⟨0, rfl, Nat.zero_le _, Lib.hid (Below.refl _ _), Lib.hid fun j hj => absurd hj (by omega)⟩
  case round =>
    obtain ⟨c, rfl, hc, HB, HA⟩ := hrel
    by_cases hcl : c < 8
    · have j1 : decide ((c : Int) < 8) = true := decide_eq_true (by omega)
      have hc1 : c + 1 ≤ 8 := hcl
      have HCL := Lib.hid hcl
      have HI := Lib.hid (HII.out c hcl)
      have HR := Lib.hid (HRR.out c hcl)
      have HNC := HNO.out c
      have HOC := HOP.out c
      have HAN : Hid (¬ Opens19 m ⟨rg, rv, rl, rh, rw⟩ c → ∀ j, j < c + 1 → ¬ Opens19 m ⟨rg, rv, rl, rh, rw⟩ j) := Lib.hid fun h j hj => by
        rcases (by omega : j < c ∨ j = c) with q | q
        · exact HA.out j q
        · rw [q]; exact h
      have BX := Lib.hid (Below.refl wr.heap.size wr).drew
      have SX := Lib.hid (HS.out _ (HB.out.trans (BX.out.mono HB.out.size)))
      clear hcl
      generalize inC19 ⟨rg, rv, rl, rh, rw⟩ c = x at *
      cases x with
      | true =>
        have HOC2 := Lib.hid fun F h => HOC F h rfl
        clear HNC HOC
        go_upto_region 4 with fail
        go_cut [21] (fun s21 wx => ∃ F, s21 = .bool (decide (F ≤ rh)) ∧ Hid (Reach19 m c rl F) ∧ Hid (Below wr.heap.size wr wx))
        case first =>
          go_region_held3 (fun v => v.cell? ⟨w.heap.size, 0, none⟩ = some (.int .i64 rg) ∧ v.cell? ⟨w.heap.size, 1, none⟩ = some (.int .i64 rv) ∧ v.cell? ⟨w.heap.size, 2, none⟩ = some (.int .i64 rl) ∧ v.cell? ⟨w.heap.size, 3, none⟩ = some (.int .i64 rh) ∧ v.cell? ⟨w.heap.size, 4, none⟩ = some (.int .i64 rw)) (first
            | exact SX.out
            | assumption
            | go_keep) (first
            | (go_at_call 47; refine (HI.out _).mono ?_; rintro e w5 ⟨rfl, hb⟩; have BY := Lib.hid (BX.out.trans (hb.mono BX.out.size)); clear BX SX hb; have BX := BY; clear BY; have SX := Lib.hid (HS.out _ (HB.out.trans (BX.out.mono HB.out.size))))
            | (go_at_call 45; refine (HR.out _ (HB.out.trans (BX.out.mono HB.out.size))).mono ?_; rintro e w6 ⟨F, rfl, hF, hb⟩; have HF := Lib.hid hF; have BY := Lib.hid (BX.out.trans (hb.mono BX.out.size)); clear BX SX hb hF; have BX := BY; clear BY; have SX := Lib.hid (HS.out _ (HB.out.trans (BX.out.mono HB.out.size)))))
          all_goals
            go_wp2
            go_meet
            exact ⟨F, rfl, HF, BX⟩
        case rest =>
          obtain ⟨F, rfl, HF, BX2⟩ := hcut
          have hoc := HOC2.out F HF.out
          have HB2 := Lib.hid (HB.out.trans (BX2.out.mono HB.out.size))
          cases hd : decide (F ≤ rh) with
          | true =>
            have HO := Lib.hid (hoc.1 hd)
            clear hoc
            go_wp2
            go_ret
            exact ⟨false, rfl, fun _ => ⟨c, HCL.out, HO.out⟩, fun h => (Bool.noConfusion h), HB0.out.trans (HB2.out.mono HB0.out.size)⟩
          | false =>
            have HAN2 := Lib.hid (HAN.out (hoc.2 hd))
            clear hoc
            go_wp2
            go_roundw
            case rel => exact ⟨c + 1, by first | rfl | go_num, hc1, HB2, HAN2⟩
            case measure => first | (simp [intOf]; omega) | simp [intOf]
      | false =>
        have HAN2 := Lib.hid (HAN.out (HNC rfl))
        clear HNC HOC
        go_upto_region 4 with fail
        go_cut [21] (fun s21 wx => s21 = .bool false ∧ Hid (Below wr.heap.size wr wx))
        case first =>
          -- BEGIN drawn
          refine wp_region_held_drew (S := (fun v => v.cell? ⟨w.heap.size, 0, none⟩ = some (.int .i64 rg) ∧ v.cell? ⟨w.heap.size, 1, none⟩ = some (.int .i64 rv) ∧ v.cell? ⟨w.heap.size, 2, none⟩ = some (.int .i64 rl) ∧ v.cell? ⟨w.heap.size, 3, none⟩ = some (.int .i64 rh) ∧ v.cell? ⟨w.heap.size, 4, none⟩ = some (.int .i64 rw))) (by kernel_rfl) SX.out (fun hHeld => ?_)
          refine wpAnyH_take (i := 0) (v := ?v0) rfl (by kernel_rfl) (by kernel_rfl) (by kernel_rfl) (fun _ _ _ h => h) (Or.inl ⟨by kernel_rfl, ?y0⟩) (by assumption) ?r0
          case y0 => (intro v hSv; (try dsimp only at hSv); go_simp; all_goals with_reducible rfl)
          try simp only [Act.put, List.setIfInBounds_toArray, List.set_cons_zero, List.set_cons_succ]
          refine wpAnyH_take (i := 1) (v := ?v1) rfl (by kernel_rfl) (by kernel_rfl) (by kernel_rfl) (fun _ _ _ h => h) (Or.inl ⟨by kernel_rfl, ?y1⟩) (by assumption) ?r1
          case y1 => (intro v hSv; (try dsimp only at hSv); go_simp; all_goals with_reducible rfl)
          try simp only [Act.put, List.setIfInBounds_toArray, List.set_cons_zero, List.set_cons_succ]
          refine wpAnyH_ready (rs := [2]) (by kernel_rfl) (by simp) ?_
          refine AllReadyH.cons rfl (fun K hK => ?_) AllReadyH.nil
          go_simp
          go_at_call 47
          refine (HI.out _).mono ?_
          rintro e w5 ⟨rfl, hb⟩
          have BXX := Lib.hid ((Below.refl _ wr).drew.trans hb)
          have hS7 := HS.out _ (HB.out.trans (BXX.out.mono HB.out.size))
          clear hb
          go_simp
          refine hK.out _ _ hS7 (fun hHeld => ?_)
          clear hK K
          try simp only [Act.put, List.setIfInBounds_toArray, List.set_cons_zero, List.set_cons_succ]
          refine wpAnyH_take (i := 3) (v := ?v3) rfl (by kernel_rfl) (by kernel_rfl) (by kernel_rfl) (fun _ _ _ h => h) (Or.inl ⟨by kernel_rfl, ?y3⟩) (by assumption) ?r3
          case y3 => (intro v hSv; (try dsimp only at hSv); go_simp; all_goals with_reducible rfl)
          try simp only [Act.put, List.setIfInBounds_toArray, List.set_cons_zero, List.set_cons_succ]
          refine wpAnyH_take (i := 4) (v := undef) rfl (by kernel_rfl) (by kernel_rfl) (by kernel_rfl) (fun _ _ _ h => h) (Or.inr ⟨by kernel_rfl, rfl⟩) (by assumption) ?r4
          go_simp
          try simp only [Act.put, List.setIfInBounds_toArray, List.set_cons_zero, List.set_cons_succ]
          refine wpAnyH_take (i := 5) (v := undef) rfl (by kernel_rfl) (by kernel_rfl) (by kernel_rfl) (fun _ _ _ h => h) (Or.inr ⟨by kernel_rfl, rfl⟩) (by assumption) ?r5
          go_simp
          try simp only [Act.put, List.setIfInBounds_toArray, List.set_cons_zero, List.set_cons_succ]
          refine wpAnyH_take (i := 6) (v := undef) rfl (by kernel_rfl) (by kernel_rfl) (by kernel_rfl) (fun _ _ _ h => h) (Or.inr ⟨by kernel_rfl, rfl⟩) (by assumption) ?r6
          go_simp
          try simp only [Act.put, List.setIfInBounds_toArray, List.set_cons_zero, List.set_cons_succ]
          refine wpAnyH_take (i := 7) (v := undef) rfl (by kernel_rfl) (by kernel_rfl) (by kernel_rfl) (fun _ _ _ h => h) (Or.inr ⟨by kernel_rfl, rfl⟩) (by assumption) ?r7
          go_simp
          try simp only [Act.put, List.setIfInBounds_toArray, List.set_cons_zero, List.set_cons_succ]
          refine wpAnyH_take (i := 8) (v := undef) rfl (by kernel_rfl) (by kernel_rfl) (by kernel_rfl) (fun _ _ _ h => h) (Or.inr ⟨by kernel_rfl, rfl⟩) (by assumption) ?r8
          go_simp
          try simp only [Act.put, List.setIfInBounds_toArray, List.set_cons_zero, List.set_cons_succ]
          refine wpAnyH_take (i := 9) (v := undef) rfl (by kernel_rfl) (by kernel_rfl) (by kernel_rfl) (fun _ _ _ h => h) (Or.inr ⟨by kernel_rfl, rfl⟩) (by assumption) ?r9
          go_simp
          try simp only [Act.put, List.setIfInBounds_toArray, List.set_cons_zero, List.set_cons_succ]
          refine wpAnyH_take (i := 10) (v := undef) rfl (by kernel_rfl) (by kernel_rfl) (by kernel_rfl) (fun _ _ _ h => h) (Or.inr ⟨by kernel_rfl, rfl⟩) (by assumption) ?r10
          go_simp
          try simp only [Act.put, List.setIfInBounds_toArray, List.set_cons_zero, List.set_cons_succ]
          refine wpAnyH_take (i := 11) (v := undef) rfl (by kernel_rfl) (by kernel_rfl) (by kernel_rfl) (fun _ _ _ h => h) (Or.inr ⟨by kernel_rfl, rfl⟩) (by assumption) ?r11
          go_simp
          try simp only [Act.put, List.setIfInBounds_toArray, List.set_cons_zero, List.set_cons_succ]
          refine wpAnyH_take (i := 12) (v := ?v12) rfl (by kernel_rfl) (by kernel_rfl) (by kernel_rfl) (fun _ _ _ h => h) (Or.inl ⟨by kernel_rfl, ?y12⟩) (by assumption) ?r12
          case y12 => (intro v hSv; (try dsimp only at hSv); go_simp; all_goals with_reducible rfl)
          try simp only [Act.put, List.setIfInBounds_toArray, List.set_cons_zero, List.set_cons_succ]
          go_simp
          refine wpAnyH_done (by kernel_rfl) ?_ _
          -- END drawn
          go_wp2
          go_meet
          exact ⟨rfl, BXX⟩
        case rest =>
          obtain ⟨rfl, BX2⟩ := hcut
          have HB2 := Lib.hid (HB.out.trans (BX2.out.mono HB.out.size))
          go_wp2
          go_roundw
          case rel => exact ⟨c + 1, by first | rfl | go_num, hc1, HB2, HAN2⟩
          case measure => first | (simp [intOf]; omega) | simp [intOf]
    · obtain rfl : c = 8 := by omega
      have j1 : decide (((8 : Nat) : Int) < 8) = false := rfl
      go_wp2
      go_ret
      exact ⟨true, rfl, fun h => (Bool.noConfusion h), fun _ => HA.out, HB0.out.trans (HB.out.mono HB0.out.size)⟩
end Go.Proofs.Ytifihejogbcbgaa
