/- The law's mixed: is what begins at a sector a frame that is neither what was there nor what is written? And an armed op with a choice, by value, that comes in. -/
import Derived.Test.YtdomcgbfpinpoaaGreatDoorChoice8
import Derived.Test.YtdomcgbfpinpoaaGreatDoorFrmE10
import Derived.Test.YtdomcgbfpinpoaaGreatDoorTrE11
namespace Go.Proofs.YtdomcgbfpinpoaaGreatDoor
open Go.RowKit Go.ChangeShapes Go.Deep

theorem bytes_same (s t : ByteArray) : (s.toList == t.toList) = decide (s = t) := by
  rw [ByteArray.toList_eq, ByteArray.toList_eq]
  by_cases h : s = t
  · rw [decide_eq_true h, h]; simp
  · rw [decide_eq_false h]
    rw [beq_eq_false_iff_ne]
    exact fun e => h (text_eq e)
set_option maxRecDepth 100000 in
set_option maxHeartbeats 2000000 in
theorem mixed_any (s u v : ByteArray) (hs : s.size = 12800) (hu : u.size = 12800) (hv : v.size = 12800) (p : Nat) (hp : p ≤ 200) (B : Bool) (hB : B = true ↔ Mixed s.data.toList u.data.toList v.data.toList p) (w : World) (hT : Tab w) :
    Calls Tryz.prog 16 #[.string s, .string u, .string v, .int .i64 p] w fun e w' => e = .returned (.bool B) ∧ Below w.heap.size w w' := by
  have hg := pget10_any s (by omega) p (by omega) (by omega) w hT
  by_cases hE : getE10 s.data.toList p = 0
  · -- a frame begins there
    have hE' : gotE (s.data.toList.drop (64 * p)) = 0 := by
      rw [get_in (by rw [text_size, hs]) (by rw [text_size, hs]; omega)] at hE
      exact hE
    obtain ⟨_, _, _, _, hk, _, _, _⟩ := got_parts hE'
    rw [List.length_drop, text_size, hs] at hk
    unfold Mixed at hB
    obtain ⟨k, hkk⟩ : ∃ k, nsec (n10 (s.data.toList.drop (64 * p))) = k := ⟨_, rfl⟩
    have hk1 := (nsec_up (n10 (s.data.toList.drop (64 * p)))).2.2
    have hTO : getTo s.data.toList p = ((p + k : Nat) : Int) := by
      unfold getTo
      rw [if_pos hE, Int.toNat_natCast, hkk]
      omega
    have hSQ : 0 ≤ getSq s.data.toList p := by
      unfold getSq
      rw [if_pos hE]
      omega
    rw [hkk] at hB hk hk1
    unfold res10 at hg
    rw [hE, hTO] at hg
    obtain ⟨y, hy⟩ : ∃ y, p + k = y := ⟨_, rfl⟩
    rw [hy] at hg
    have hsl := fun W => cut_mid s ((64 * p : Nat) : Int) ((64 * y : Nat) : Int) (by omega) (by omega) (by omega) W
    have hul := fun W => cut_mid u ((64 * p : Nat) : Int) ((64 * y : Nat) : Int) (by omega) (by omega) (by omega) W
    have hvl := fun W => cut_mid v ((64 * p : Nat) : Int) ((64 * y : Nat) : Int) (by omega) (by omega) (by omega) W
    simp only [Int.toNat_natCast] at hsl hul hvl
    have ls : (s.extract (64 * p) (64 * y)).data.toList = (s.data.toList.drop (64 * p)).take (64 * k) := by rw [cut_list]; congr 1; omega
    have lu : (u.extract (64 * p) (64 * y)).data.toList = (u.data.toList.drop (64 * p)).take (64 * k) := by rw [cut_list]; congr 1; omega
    have lv : (v.extract (64 * p) (64 * y)).data.toList = (v.data.toList.drop (64 * p)).take (64 * k) := by rw [cut_list]; congr 1; omega
    obtain ⟨S, hS⟩ : ∃ S, s.extract (64 * p) (64 * y) = S := ⟨_, rfl⟩
    obtain ⟨U, hU⟩ : ∃ U, u.extract (64 * p) (64 * y) = U := ⟨_, rfl⟩
    obtain ⟨V, hV⟩ : ∃ V, v.extract (64 * p) (64 * y) = V := ⟨_, rfl⟩
    simp only [hS] at hsl ls
    simp only [hU] at hul lu
    simp only [hV] at hvl lv
    rw [← ls, ← lu, ← lv] at hB
    have hB2 : B = (!decide (S = U) && !decide (S = V)) := by
      by_cases q1 : S = U
      · rw [decide_eq_true q1]
        cases hb : B with
        | false => rfl
        | true => exact absurd (congrArg (fun t : ByteArray => t.data.toList) q1) (hB.1 hb).2.1
      · rw [decide_eq_false q1]
        by_cases q2 : S = V
        · rw [decide_eq_true q2]
          cases hb : B with
          | false => rfl
          | true => exact absurd (congrArg (fun t : ByteArray => t.data.toList) q2) (hB.1 hb).2.2
        · rw [decide_eq_false q2]
          exact hB.2 ⟨hE, fun e => q1 (text_eq e), fun e => q2 (text_eq e)⟩
    have c1 := bytes_same S U
    have c2 := bytes_same S V
    have i1 : IntKind.i64.wrap (64 * (p : Int)) = ((64 * p : Nat) : Int) := by rw [show 64 * (p : Int) = ((64 * p : Nat) : Int) by omega]; exact IntWalk.i64_in _ (by omega)
    have i2 : IntKind.i64.wrap (64 * (y : Int)) = ((64 * y : Nat) : Int) := by rw [show 64 * (y : Int) = ((64 * y : Nat) : Int) by omega]; exact IntWalk.i64_in _ (by omega)
    have d1 : ((s.size : Int) != (u.size : Int)) = false := by rw [hs, hu]; rfl
    have d2 : ((s.size : Int) != (v.size : Int)) = false := by rw [hs, hv]; rfl
    have d3 : decide ((y : Int) < (p : Int)) = false := decide_eq_false (by omega)
    have d3n : decide (y < p) = false := decide_eq_false (by omega)
    have d3o : ¬ (y < p) := by omega
    have d4 : decide ((s.size : Int) < ((64 * y : Nat) : Int)) = false := decide_eq_false (by omega)
    have d4n : decide (s.size < 64 * y) = false := decide_eq_false (by omega)
    have d4o : ¬ (s.size < 64 * y) := by omega
    have d5 : decide (getSq s.data.toList p < 0) = false := decide_eq_false (by omega)
    rw [hB2]
    generalize getEp s.data.toList p = E at *
    generalize getSq s.data.toList p = Q at *
    generalize tx (getB s.data.toList p) = BO at *
    obtain ⟨xx, hxx⟩ : ∃ xx : Nat, 64 * p = xx := ⟨_, rfl⟩
    obtain ⟨yy, hyy⟩ : ∃ yy : Nat, 64 * y = yy := ⟨_, rfl⟩
    simp only [hxx, hyy] at hsl hul hvl i1 i2 d4 d4n d4o
    clear hE hE' hk hkk hk1 hTO hSQ hy ls lu lv hS hU hV hB hB2 hp hs hu hv hxx hyy hT
    by_cases q1 : S = U
    · rw [decide_eq_true q1] at c1 ⊢
      clear q1 hvl c2
      go_enter Tryz.func16, Tryz.ntmps16
      go_wp2_with (go_at_call 39; refine hg.mono ?_; rintro e w1 ⟨rfl, hb1⟩; have HB1 := Lib.hid (hb1.alloc hb1.size (.cells #[.int .i64 E, .int .i64 Q, .string BO] 39 (0, 0))); clear hb1)
      go_ret
      exact ⟨rfl, HB1.out⟩
    · rw [decide_eq_false q1] at c1 ⊢
      by_cases q2 : S = V
      · rw [decide_eq_true q2] at c2 ⊢
        clear q1 q2
        go_enter Tryz.func16, Tryz.ntmps16
        go_wp2_with (go_at_call 39; refine hg.mono ?_; rintro e w1 ⟨rfl, hb1⟩; have HB1 := Lib.hid (hb1.alloc hb1.size (.cells #[.int .i64 E, .int .i64 Q, .string BO] 39 (0, 0))); clear hb1)
        go_ret
        exact ⟨rfl, HB1.out⟩
      · rw [decide_eq_false q2] at c2 ⊢
        clear q1 q2
        go_enter Tryz.func16, Tryz.ntmps16
        go_wp2_with (go_at_call 39; refine hg.mono ?_; rintro e w1 ⟨rfl, hb1⟩; have HB1 := Lib.hid (hb1.alloc hb1.size (.cells #[.int .i64 E, .int .i64 Q, .string BO] 39 (0, 0))); clear hb1)
        go_ret
        exact ⟨rfl, HB1.out⟩
  · have hB2 : B = false := by
      cases hb : B with
      | false => rfl
      | true => exact absurd (hB.1 hb).1 hE
    rw [hB2]
    rw [res_bad rfl hE] at hg
    have e1 : (getE10 s.data.toList p != 0) = true := bne_iff_ne.2 hE
    generalize getE10 s.data.toList p = G at *
    clear hE hB hB2 hs hu hv hp hT
    go_enter Tryz.func16, Tryz.ntmps16
    go_wp2_with (go_at_call 39; refine hg.mono ?_; rintro e w1 ⟨rfl, hb1⟩; have HB1 := Lib.hid (hb1.alloc hb1.size (.cells #[.int .i64 0, .int .i64 0, .string ⟨#[]⟩] 39 (0, 0))); clear hb1)
    go_ret
    exact ⟨rfl, HB1.out⟩

theorem four_of_cells {cs : List Value} {a b c d : Value} (hl : cs.length = 4) (h0 : (cs.drop 0).take 1 = [a]) (h1 : (cs.drop 1).take 3 = [b, c, d]) : cs = [a, b, c, d] := by
  match cs, hl with
  | [_, _, _, _], _ => simp at h0 h1; simp [h0, h1]
theorem arms_cells {H : Type} {enc : TypeId × Value → H} {base : Nat} {held : Bool} {fuel : Nat} {cs : List Value} {W : World} {x : DataW H × List MemPlace} {e i ch : TypeId} {f0 f1 : Field}
    (he : Tryz.prog.underlying e = some (.struct #[f0, f1])) (hi : Tryz.prog.underlying i = some (.int .i64)) (hic : Tryz.prog.cellsOf i = 1) (hcc : Tryz.prog.cellsOf ch = 3) (hec : Tryz.prog.cellsOf e = 4) (hch : ch = 25)
    (t0 : f0.type = i) (t1 : f1.type = ch) (o0 : f0.offset = 0) (o1 : f1.offset = 1)
    (h : DataW.trod enc Tryz.prog W base (fun _ => true) held fuel e cs = some x) :
    ∃ (n : Int) (ka : Option Addr) (kc : Nat) (ks : List Bool) (tn ct : Int), cs = [.int .i64 n, .slice ka ks.length kc, .int .i64 tn, .int .i64 ct] ∧ Num64 n ∧ Bools W.heap.size W ka ks ∧ ks.length ≤ maxLen := by
  obtain ⟨zs, n', _, _, hlen, hzl, hz⟩ := DataW.trod_struct he h
  have z0 := hz 0 f0 rfl
  have z1 := hz 1 f1 rfl
  rw [t0, o0, hic] at z0
  rw [t1, o1, hcc, hch] at z1
  match zs, hzl with
  | [u0, u1], _ =>
    obtain ⟨m1, g1, _, w1⟩ := DataW.trod_int hi z0
    obtain ⟨ka, kc, ks, tn, ct, ha, hb, hl⟩ := choice_here z1
    rw [hec] at hlen
    exact ⟨m1, ka, kc, ks, tn, ct, four_of_cells hlen g1 ha, num_of_wf w1, hb, hl⟩
set_option maxRecDepth 100000 in
theorem arms_of {H : Type} {enc : TypeId × Value → H} {w : World} {base : Nat} {held : Bool} {r : Reach} {b0 : Nat} {v : Value} {d : DataW H} {p : List MemPlace}
    (hv : Value.okWide Tryz.prog w r b0 27 v) (h : DataW.Trod enc Tryz.prog w base (fun _ => true) held 27 v d p) :
    ∃ (n : Int) (ka : Option Addr) (kc : Nat) (ks : List Bool) (tn ct : Int), v = .agg #[.int .i64 n, .slice ka ks.length kc, .int .i64 tn, .int .i64 ct] ∧ Num64 n ∧ Bools w.heap.size w ka ks ∧ ks.length ≤ maxLen := by
  obtain ⟨cs, hcs⟩ := agg_of Tryz.underlying27 hv
  subst hcs
  obtain ⟨fuel, hf⟩ := h
  obtain ⟨n, ka, kc, ks, tn, ct, ha, hn, hb, hl⟩ := arms_cells Tryz.underlying27 Tryz.underlying3 (by kernel_rfl) (by kernel_rfl) (by kernel_rfl) rfl rfl rfl rfl rfl hf
  refine ⟨n, ka, kc, ks, tn, ct, ?_, hn, hb, hl⟩
  obtain ⟨l⟩ := cs
  simp only [Value.cells] at ha
  rw [← ha]
end Go.Proofs.YtdomcgbfpinpoaaGreatDoor
