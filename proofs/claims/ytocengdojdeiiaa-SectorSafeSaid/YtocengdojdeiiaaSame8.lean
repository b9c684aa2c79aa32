/- The laws' Few, for every row of acts, and Same, for a device and the document's that is like it. -/
import Derived.Test.YtocengdojdeiiaaRefDo8
import Derived.Test.YtocengdojdeiiaaSameInts
namespace Go.Proofs.Ytocengdojdeiiaa
open Go.RowKit Go.Maps

def AV.few (a : AV) : Bool := decide (a.num ≤ 100) && decide (a.keep.length ≤ 3000)
def fewB (l : List AV) : Bool := decide (l.length ≤ 60) && l.all AV.few
theorem Acts.at {B : Nat} {w : World} {a : Option Addr} {l : List AV} (h : Acts B w a l) {k : Nat} (hk : k < l.length) : ∃ b off, a = some ⟨b, off, none⟩ ∧ b < B ∧ (∀ i, i < 7 → w.cell? ⟨b, off + k * 7 + i, none⟩ = (actAt l k).cells[i]?) ∧ (actAt l k).Good B w := by
  rcases h with h | ⟨b, off, ha, hb, hc⟩
  · rw [h] at hk; simp at hk
  · exact ⟨b, off, ha, hb, (hc k hk).1, (hc k hk).2⟩
theorem few_take (l : List AV) (k : Nat) (h : k < l.length) : (l.take (k + 1)).all AV.few = ((l.take k).all AV.few && (actAt l k).few) := by
  rw [List.take_succ_eq_append_getElem h, List.all_append, List.all_cons, List.all_nil, Bool.and_true]
  unfold actAt
  rw [List.getD_eq_getElem?_getD, List.getElem?_eq_getElem h]; rfl
theorem few_at {l : List AV} (h : fewB l = true) : l.length ≤ 60 ∧ ∀ k, k < l.length → (actAt l k).num ≤ 100 ∧ (actAt l k).keep.length ≤ 3000 := by
  unfold fewB at h
  simp only [Bool.and_eq_true, decide_eq_true_eq, List.all_eq_true] at h
  refine ⟨h.1, fun k hk => ?_⟩
  have h2 := h.2 (actAt l k) (by unfold actAt; rw [List.getD_eq_getElem?_getD, List.getElem?_eq_getElem hk]; exact List.getElem_mem hk)
  unfold AV.few at h2
  simpa using h2

set_option maxHeartbeats 1000000 in
theorem few_any (a : Option Addr) (cap : Nat) (l : List AV) (w : World) (hA : Acts w.heap.size w a l) :
    Calls Try.prog 7 #[.slice a l.length cap] w fun e w' => e = .returned (.bool (fewB l)) ∧ w = w' := by
  by_cases h : 60 < l.length
  · have e1 : decide (60 < (l.length : Int)) = true := decide_eq_true (by omega)
    have hf : fewB l = false := by unfold fewB; rw [decide_eq_false (by omega)]; rfl
    rw [hf]
    clear hf hA
    go_enter Try.func7, Try.ntmps7
    go_wp2
    go_ret
    exact ⟨rfl, rfl⟩
  · have e1 : decide (60 < (l.length : Int)) = false := decide_eq_false (by omega)
    have HF : Hid (fewB l = l.all AV.few) := Lib.hid (by unfold fewB; rw [decide_eq_true (by omega)]; rfl)
    obtain ⟨n, hn⟩ : ∃ n, l.length = n := ⟨_, rfl⟩
    have HN := Lib.hid hn
    have hn60 : n ≤ 60 := by omega
    rw [hn] at e1 ⊢
    clear hn h
    have HA := Lib.hid hA
    clear hA
    go_enter Try.func7, Try.ntmps7
    go_wp2
    go_loop [3] (fun i' => ∃ i : Nat, i' = .int .i64 i ∧ i ≤ n ∧ Hid ((l.take i).all AV.few = true)) (fun i => n - (intOf i).toNat)
    case atStart => exact ⟨0, rfl, by omega, Lib.hid rfl⟩
    case round =>
      obtain ⟨i, rfl, hi, hall⟩ := hrel
      by_cases hlt : i < n
      · have i1 : (i : Int) < (n : Int) := by omega
        have hil : i < l.length := by have := HN.out; omega
        obtain ⟨b, off, rfl, hb, hc, hG⟩ := HA.out.at hil
        have c2 := hc 2 (by omega)
        have c4 := hc 4 (by omega)
        have HT := Lib.hid (few_take l i hil)
        have hbad : (actAt l i).few = false → fewB l = false := fun h => by
          have h2 := HT.out
          rw [h, Bool.and_false] at h2
          cases hh : fewB l with
          | false => rfl
          | true =>
            have h3 := (few_at hh).2 i hil
            unfold AV.few at h
            rw [decide_eq_true h3.1, decide_eq_true h3.2] at h
            cases h
        change _ = some (Value.int .i64 (actAt l i).num) at c2
        change _ = some (Value.slice (actAt l i).ka (actAt l i).keep.length (actAt l i).kc) at c4
        have hfd : (actAt l i).few = (decide ((actAt l i).num ≤ 100) && decide ((actAt l i).keep.length ≤ 3000)) := rfl
        generalize actAt l i = A at *
        have HBAD := Lib.hid hbad
        have HFD := Lib.hid hfd
        clear hbad hfd hc hG hil
        by_cases q1 : 100 < A.num
        · have d1 : decide (100 < A.num) = true := decide_eq_true q1
          have HR : Hid (fewB l = false) := Lib.hid (HBAD.out (by rw [HFD.out, decide_eq_false (by omega)]; rfl))
          clear q1
          go_wp2
          go_ret
          exact ⟨by rw [HR.out]; rfl, rfl⟩
        · have d1 : decide (100 < A.num) = false := decide_eq_false q1
          by_cases q2 : 3000 < A.keep.length
          · have d2 : decide (3000 < A.keep.length) = true := decide_eq_true q2
            have d3 : decide ((3000 : Int) < (A.keep.length : Int)) = true := decide_eq_true (by omega)
            have HR : Hid (fewB l = false) := Lib.hid (HBAD.out (by rw [HFD.out, decide_eq_false (show ¬ A.keep.length ≤ 3000 by omega), Bool.and_false]))
            clear q1 q2
            go_wp2
            go_ret
            exact ⟨by rw [HR.out]; rfl, rfl⟩
          · have d2 : decide (3000 < A.keep.length) = false := decide_eq_false q2
            have d3 : decide ((3000 : Int) < (A.keep.length : Int)) = false := decide_eq_false (by omega)
            have HR : Hid ((l.take (i + 1)).all AV.few = true) := Lib.hid (by rw [HT.out, hall.out, HFD.out, decide_eq_true (show A.num ≤ 100 by omega), decide_eq_true (show A.keep.length ≤ 3000 by omega)]; rfl)
            clear q1 q2
            go_wp2
            go_round
            case rel => exact ⟨i + 1, by go_num, by omega, HR⟩
            case measure => simp [intOf]; omega
      · obtain rfl : i = n := by omega
        have HR : Hid (fewB l = true) := Lib.hid (by have h2 := hall.out; rw [← HN.out, List.take_length] at h2; rw [HF.out, h2])
        go_wp2
        go_ret
        exact ⟨by rw [HR.out]; rfl, rfl⟩

set_option maxRecDepth 100000 in
set_option maxHeartbeats 2000000 in
theorem same8_any {B : Nat} {w : World} {b g cap m : Nat} {d : Dv} {a : Value} (h : PDev w b g cap m d) (hr : RDev B w a d) (hd : d.Ok) :
    Calls Try.prog 13 #[.pointer (some ⟨b, 0, none⟩), .agg #[a, .int .i64 d.ops, .int .i64 d.armed, .bool d.dead]] w fun e w' => e = .returned (.bool true) ∧ Below w.heap.size w w' := by
  obtain ⟨g0, cap0, rfl⟩ := Joins.ownsRow_form hr.row hd.some
  obtain ⟨A, hA⟩ : ∃ A : Obj, A = .cells #[.slice (some ⟨g0, 0, none⟩) d.cells.length cap0, .int .i64 d.ops, .int .i64 d.armed, .bool d.dead] 32 := ⟨_, rfl⟩
  have hB0 : Below w.heap.size w (w.alloc A) := (Below.refl _ w).alloc (Nat.le_refl _) _
  have hN0 := heap_alloc_new w A
  have hP := h.step hB0
  have hR := hr.step hB0
  clear h hr
  go_enter Try.func13, Try.ntmps13
  go_upto_region 1 with fail
  rw [← hA]
  generalize w.alloc A = W at *
  rw [hA] at hN0
  clear hA
  obtain ⟨c0, c1, c2, c3, _⟩ := four_cells8 hN0
  have HP := Lib.hid hP
  have HR := Lib.hid hR
  have HB := Lib.hid hB0
  have HN := Lib.hid hN0
  have HD := Lib.hid hd
  have hfew := hd.few
  have hrd := pread_any hP hd 0 d.cells.length (by omega)
  have hrr : ∀ W', Below W.heap.size W W' → Calls Try.prog 15 #[.agg #[.slice (some ⟨g0, 0, none⟩) d.cells.length cap0, .int .i64 d.ops, .int .i64 d.armed, .bool d.dead], .int .i64 0, .int .i64 d.cells.length] W' fun e w' => e = .returned (.tuple #[.string (d.readT 0 d.cells.length), .int .i64 (d.readE 0 d.cells.length)]) ∧ Below W'.heap.size W' w' := fun W' hb => rread_any B _ d 0 d.cells.length (by omega) (by omega) hd.fit hd.some hd.few W' (hR.step hb)
  have hlo : ∀ W', Below W.heap.size W W' → Calls Try.prog 23 #[.pointer (some ⟨b, 0, none⟩)] W' fun e w' => ∃ a c, e = .returned (.slice a d.loose.length c) ∧ IntsNew W'.heap.size w'.heap.size w' a d.loose ∧ Below W'.heap.size W' w' := fun W' hb => pLoose_any (hP.step hb) hd
  have hlr : ∀ W', Below W.heap.size W W' → Calls Try.prog 35 #[.agg #[.slice (some ⟨g0, 0, none⟩) d.cells.length cap0, .int .i64 d.ops, .int .i64 d.armed, .bool d.dead]] W' fun e w' => ∃ a c, e = .returned (.slice a d.loose.length c) ∧ IntsNew W'.heap.size w'.heap.size w' a d.loose ∧ Below W'.heap.size W' w' := fun W' hb => rloose_any B _ d hd.some hd.few W' (hR.step hb)
  have hll : d.loose.length ≤ 2000 := by
    rw [loose_eq]
    split
    · simp
    · have := looseI_len d.cells; omega
  have hon : ∀ W', Below W.heap.size W W' → Calls Try.prog 22 #[.pointer (some ⟨b, 0, none⟩)] W' fun e w' => e = .returned (.bool (!d.dead)) ∧ W' = w' := fun W' hb => pon_any (hP.step hb)
  have hops : ∀ W', Below W.heap.size W W' → Calls Try.prog 25 #[.pointer (some ⟨b, 0, none⟩)] W' fun e w' => e = .returned (.int .i64 d.ops) ∧ W' = w' := fun W' hb => pops_any (hP.step hb)
  have hsi : ∀ W', Below W.heap.size W W' → Calls Try.prog 24 #[.pointer (some ⟨b, 0, none⟩)] W' fun e w' => e = .returned (.int .i64 d.cells.length) ∧ W' = w' := fun W' hb => psize_any (hP.step hb)
  obtain ⟨L, hL⟩ : ∃ L, d.loose = L := ⟨_, rfl⟩
  obtain ⟨T, hT⟩ : ∃ T, d.readT 0 d.cells.length = T := ⟨_, rfl⟩
  obtain ⟨E, hE⟩ : ∃ E, d.readE 0 d.cells.length = E := ⟨_, rfl⟩
  rw [hL] at hlo hlr hll
  rw [hT, hE] at hrd
  simp only [hT, hE] at hrr
  clear hP hR hB0 hN0 hd hL hT hE
  go_upto_region 5 with (first
    | (go_at_call 14; refine hrd.mono ?_; rintro e w1 ⟨rfl, hb1⟩; have HB1 := Lib.hid hb1; obtain ⟨c0, c1, c2, c3, _⟩ := four_cells8 (old_obj HB1.out HN.out); clear hb1)
    | (go_at_call 15; refine (hrr _ HB1.out).mono ?_; rintro e w2 ⟨rfl, hb2⟩; have HB2 : Hid (Below W.heap.size W w2) := Lib.hid (HB1.out.trans (hb2.mono HB1.out.size)); obtain ⟨c0, c1, c2, c3, _⟩ := four_cells8 (old_obj HB2.out HN.out); clear hb2))
  have hxx : (!d.dead != d.dead) = true := by cases d.dead <;> rfl
  have hdr : Below W.heap.size W w2.drew := HB2.out.drew
  have HDR := Lib.hid hdr
  clear hdr hrd hrr
  generalize d.dead = dd at *
  go_region_held3 (fun w' => w'.cell? ⟨w.heap.size, 0, none⟩ = some (.slice (some ⟨g0, 0, none⟩) d.cells.length cap0) ∧ w'.cell? ⟨w.heap.size, 1, none⟩ = some (.int .i64 d.ops) ∧ w'.cell? ⟨w.heap.size, 2, none⟩ = some (.int .i64 d.armed) ∧ w'.cell? ⟨w.heap.size, 3, none⟩ = some (.bool dd)) (go_keep)
    (first
      | (go_at_call 22; refine (hon _ HDR.out).mono ?_; rintro e w3 ⟨rfl, rfl⟩)
      | (go_at_call 25; refine (hops _ HDR.out).mono ?_; rintro e w3 ⟨rfl, rfl⟩)
      | (go_at_call 24; refine (hsi _ HDR.out).mono ?_; rintro e w3 ⟨rfl, rfl⟩)
      | (go_at_call 23; first
          | (refine (hlo _ HBR.out).mono ?_; rintro e w4 ⟨la, lc, rfl, hi, hb4⟩; have HIL := Lib.hid hi.ints; have HIR2 := Lib.hid (HIR.out.step hb4); have HBL : Hid (Below W.heap.size W w4) := Lib.hid (HBR.out.trans (hb4.mono HBR.out.size)); obtain ⟨c0, c1, c2, c3, _⟩ := four_cells8 (old_obj HBL.out HN.out); clear hi hb4)
          | (refine (hlo _ HDR.out).mono ?_; rintro e w4 ⟨la, lc, rfl, hi, hb4⟩; have HIL := Lib.hid hi.ints; have HBL : Hid (Below W.heap.size W w4) := Lib.hid (HDR.out.trans (hb4.mono HDR.out.size)); obtain ⟨c0, c1, c2, c3, _⟩ := four_cells8 (old_obj HBL.out HN.out); clear hi hb4))
      | (go_at_call 35; first
          | (refine (hlr _ HBL.out).mono ?_; rintro e w5 ⟨ra, rc, rfl, hi, hb5⟩; have HIR := Lib.hid hi.ints; have HIL2 := Lib.hid (HIL.out.step hb5); have HBR : Hid (Below W.heap.size W w5) := Lib.hid (HBL.out.trans (hb5.mono HBL.out.size)); obtain ⟨c0, c1, c2, c3, _⟩ := four_cells8 (old_obj HBR.out HN.out); clear hi hb5)
          | (refine (hlr _ HDR.out).mono ?_; rintro e w5 ⟨ra, rc, rfl, hi, hb5⟩; have HIR := Lib.hid hi.ints; have HBR : Hid (Below W.heap.size W w5) := Lib.hid (HDR.out.trans (hb5.mono HDR.out.size)); obtain ⟨c0, c1, c2, c3, _⟩ := four_cells8 (old_obj HBR.out HN.out); clear hi hb5))
      | (go_at_call 26; first
          | (refine (same_any la ra lc rc L L _ (by omega) HIL2.out HIR.out).mono ?_; rintro e w6 ⟨rfl, hb6⟩; have HB6 : Hid (Below W.heap.size W w6) := Lib.hid (HBR.out.trans (hb6.mono HBR.out.size)); obtain ⟨c0, c1, c2, c3, _⟩ := four_cells8 (old_obj HB6.out HN.out); clear hb6)
          | (refine (same_any la ra lc rc L L _ (by omega) HIL.out HIR2.out).mono ?_; rintro e w6 ⟨rfl, hb6⟩; have HB6 : Hid (Below W.heap.size W w6) := Lib.hid (HBL.out.trans (hb6.mono HBL.out.size)); obtain ⟨c0, c1, c2, c3, _⟩ := four_cells8 (old_obj HB6.out HN.out); clear hb6)))
  all_goals go_wp2
  all_goals go_ret
  all_goals exact ⟨by simp, HB.out.trans (HB6.out.mono HB.out.size)⟩
end Go.Proofs.Ytocengdojdeiiaa
