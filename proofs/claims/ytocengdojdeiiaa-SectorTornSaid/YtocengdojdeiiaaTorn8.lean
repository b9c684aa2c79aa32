/- The law on a torn write: it comes out true for every two texts and choice. -/
import Derived.Test.YtocengdojdeiiaaTen8
import Derived.Test.YtocengdojdeiiaaChoice8
import Derived.Test.YtocengdojdeiiaaPlays8
import Derived.Deep.RegionHeld3
import Derived.BigQuiet
namespace Go.Proofs.Ytocengdojdeiiaa
open Go.RowKit Go.Maps

/-- How things lie: the device, the choice in its box, and what lay ahead. -/
structure TornI (w : World) (C : Obj) (b g cap m : Nat) (d : Dv) (wr : World) : Prop where
  dev : PDev wr b g cap m d
  ok : d.Ok
  ops : d.ops ≤ 1000
  box : wr.heap[w.heap.size]? = some C
  old : Below w.heap.size w wr
  hb : w.heap.size < b
  hg : w.heap.size < g
  hm : w.heap.size < m
theorem TornI.step {w : World} {C : Obj} {b g cap m : Nat} {d : Dv} {wr w' : World} (h : TornI w C b g cap m d wr) (hb : Below wr.heap.size wr w') : TornI w C b g cap m d w' :=
  ⟨h.dev.step hb, h.ok, h.ops, old_obj hb h.box, h.old.trans (hb.mono h.old.size), h.hb, h.hg, h.hm⟩
theorem TornI.but {w : World} {C : Obj} {b g cap m : Nat} {d d' : Dv} {wr w' : World} (h : TornI w C b g cap m d wr) (hp : PDev w' b g cap m d') (hb : But b g m wr w') (hok : d'.Ok) (ho : d'.ops ≤ 1000) : TornI w C b g cap m d' w' := by
  have h1 := h.hb
  have h2 := h.hg
  have h3 := h.hm
  refine ⟨hp, hok, ho, ?_, h.old.trans (hb.below (by omega) (by omega) (by omega) h.old.size), h1, h2, h3⟩
  rw [hb.block _ (obj_lt h.box) (by omega) (by omega) (by omega)]
  exact h.box
theorem TornI.write {w : World} {C : Obj} {b g cap m : Nat} {f : Nat → Sec} {o : Int} {wr : World} (h : TornI w C b g cap m (ten f o false) wr) (T : ByteArray) (hT : T.size = 640) (ho : o ≤ 500) :
    Calls Try.prog 21 #[.pointer (some ⟨b, 0, none⟩), .int .i64 0, .string T] wr fun e w' => e = .returned (.int .i64 0) ∧ TornI w C b g cap m (ten (fun k => ⟨secOf T k, (f k).safe, true⟩) (o + 10) false) w' := by
  obtain ⟨e1, e2⟩ := ten_write f o T hT
  refine (pwrite_any h.dev h.ok (by have := h.ops; omega) 0 T (by omega)).mono fun e w' ⟨he, hp, hb⟩ => ?_
  rw [e1] at he
  have hok := h.ok.write 0 T
  rw [e2] at hp hok
  exact ⟨he, h.but hp hb hok (by show o + 10 ≤ 1000; omega)⟩
theorem TornI.flush {w : World} {C : Obj} {b g cap m : Nat} {f : Nat → Sec} {o : Int} {wr : World} (h : TornI w C b g cap m (ten f o false) wr) (ho : o ≤ 500) :
    Calls Try.prog 16 #[.pointer (some ⟨b, 0, none⟩)] wr fun e w' => e = .returned (.int .i64 0) ∧ TornI w C b g cap m (ten (fun k => ⟨(f k).now, (f k).now, false⟩) (o + 1) false) w' := by
  obtain ⟨e1, e2⟩ := ten_flush f o
  refine (pflush_any h.dev h.ok (by have := h.ops; omega)).mono fun e w' ⟨he, hp, hb⟩ => ?_
  rw [e1] at he
  have hok := h.ok.flush
  rw [e2] at hp hok
  exact ⟨he, h.but hp hb hok (by show o + 1 ≤ 1000; omega)⟩
theorem TornI.off {w : World} {C : Obj} {b g cap m : Nat} {f : Nat → Sec} {o : Int} {wr : World} (h : TornI w C b g cap m (ten f o false) wr) :
    Calls Try.prog 18 #[.pointer (some ⟨b, 0, none⟩)] wr fun e w' => e = .returned (.int .i64 0) ∧ TornI w C b g cap m (ten f o true) w' := by
  refine (poff_any h.dev h.ok).mono fun e w' ⟨he, hp, hb⟩ => ?_
  have hok := h.ok.off
  rw [ten_off] at hp hok
  exact ⟨he, h.but hp hb hok h.ops⟩
theorem TornI.boot {w : World} {C : Obj} {b g cap m : Nat} {d d' : Dv} {wr : World} (h : TornI w C b g cap m d wr) (ka : Option Addr) (kc : Nat) (ks : List Bool) (tn ct : Int) (hK : Bools w.heap.size w ka ks) (hd : d.boot ks tn ct = d') (ho : d'.ops ≤ 1000) :
    Calls Try.prog 19 #[.pointer (some ⟨b, 0, none⟩), .agg #[.slice ka ks.length kc, .int .i64 tn, .int .i64 ct]] wr fun e w' => e = .returned (.int .i64 0) ∧ TornI w C b g cap m d' w' := by
  have h1 := h.hb
  have h2 := h.hg
  have h3 := h.hm
  refine (pboot_any h.dev h.ok ka kc ks tn ct ((hK.below h.old).up h.old.size) (far_of hK (by omega) (by omega) (by omega))).mono fun e w' ⟨he, hp, hb⟩ => ?_
  have hok := h.ok.boot ks tn ct
  rw [hd] at hp hok
  exact ⟨he, h.but hp hb hok ho⟩
theorem TornI.read {w : World} {C : Obj} {b g cap m : Nat} {f : Nat → Sec} {o : Int} {wr : World} (h : TornI w C b g cap m (ten f o false) wr) (R : ByteArray) (hR : cat ((List.range 10).map fun k => (f k).now) = R) :
    Calls Try.prog 14 #[.pointer (some ⟨b, 0, none⟩), .int .i64 0, .int .i64 10] wr fun e w' => e = .returned (.tuple #[.string R, .int .i64 0]) ∧ TornI w C b g cap m (ten f o false) w' := by
  obtain ⟨e1, e2⟩ := ten_read f o
  refine (pread_any h.dev h.ok 0 10 (by omega)).mono fun e w' ⟨he, hb⟩ => ?_
  rw [e1, e2, hR] at he
  exact ⟨he, h.step hb⟩
theorem TornI.loose {w : World} {C : Obj} {b g cap m : Nat} {f : Nat → Sec} {o : Int} {wr : World} (h : TornI w C b g cap m (ten f o false) wr) (hf : ∀ k, (f k).loose = false) :
    Calls Try.prog 23 #[.pointer (some ⟨b, 0, none⟩)] wr fun e w' => (∃ a c, e = .returned (.slice a 0 c)) ∧ TornI w C b g cap m (ten f o false) w' := by
  refine (pLoose_any h.dev h.ok).mono fun e w' ⟨a, c, he, _, hb⟩ => ?_
  rw [ten_loose f o false hf] at he
  exact ⟨⟨a, c, he⟩, h.step hb⟩
theorem pnew_ten (w : World) (W : World) (C : Obj) (hW : W.heap[w.heap.size]? = some C) (hB : Below w.heap.size w W) :
    Calls Try.prog 9 #[.int .i64 10] W fun e w' => ∃ b g cap m, e = .returned (.tuple #[.pointer (some ⟨b, 0, none⟩), .int .i64 0]) ∧ TornI w C b g cap m (ten (fun _ => sec0) 0 false) w' := by
  refine (pnew_any 10 (by omega) (by omega) W).mono fun e w' ⟨b, g, cap, m, he, hp, hb, hg, hm, hbw⟩ => ?_
  have hl := obj_lt hW
  have hok := dv_new_ok 10 (by omega) (by omega)
  rw [ten_new] at hok
  exact ⟨b, g, cap, m, he, hp, hok, by show (0 : Int) ≤ 1000; omega, old_obj hbw hW, hB.trans (hbw.mono hB.size), by omega, by omega, by omega⟩
theorem str_same {s t : ByteArray} : s.toList = t.toList ↔ s = t := by
  rw [ByteArray.toList_eq, ByteArray.toList_eq]
  exact ⟨fun h => text_eq h, fun h => by rw [h]⟩
theorem below_drewN8 {B : Nat} {w w1 : World} (hb : Below B w w1) (n : Nat) : Below B w (w1.drewN n) := ⟨hb.os, hb.tape, hb.output, hb.size, hb.block⟩
def fB (s t : ByteArray) (k : Nat) : Sec := ⟨secOf t k, secOf s k, true⟩
def fL (s t : ByteArray) (ks : List Bool) (tn ct : Int) (k : Nat) : Sec := ⟨leftOf (fB s t k) k ks tn ct, leftOf (fB s t k) k ks tn ct, false⟩

set_option maxRecDepth 100000 in
set_option maxHeartbeats 1000000 in
theorem sectorTorn_walk (w : World) (s : ByteArray) (_hs : s.size ≤ maxLen) (t : ByteArray) (_ht : t.size ≤ maxLen) (ka : Option Addr) (kc : Nat) (ks : List Bool) (tn ct : Int) (hK : Bools w.heap.size w ka ks) (_hl : ks.length ≤ maxLen) :
    Calls Try.prog 5 #[.string s, .string t, .agg #[.slice ka ks.length kc, .int .i64 tn, .int .i64 ct]] w fun e w' => e = .returned (.bool true) ∧ Below w.heap.size w w' := by
  obtain ⟨C, hC⟩ : ∃ C : Obj, C = .cells #[.slice ka ks.length kc, .int .i64 tn, .int .i64 ct] 39 := ⟨_, rfl⟩
  have hB0 : Below w.heap.size w (w.alloc C) := (Below.refl _ w).alloc (Nat.le_refl _) _
  have hN0 := heap_alloc_new w C
  go_enter Try.func5, Try.ntmps5
  go_upto_region 1 with fail
  rw [← hC]
  generalize w.alloc C = W at *
  rw [hC] at hN0
  obtain ⟨c0, c1, c2⟩ : W.cell? ⟨w.heap.size, 0, none⟩ = some (.slice ka ks.length kc) ∧ W.cell? ⟨w.heap.size, 1, none⟩ = some (.int .i64 tn) ∧ W.cell? ⟨w.heap.size, 2, none⟩ = some (.int .i64 ct) := ⟨cell_of (j := 0) hN0 rfl, cell_of (j := 1) hN0 rfl, cell_of (j := 2) hN0 rfl⟩
  have HB0 := Lib.hid hB0
  rw [← hC] at hN0
  have HN0 := Lib.hid hN0
  by_cases q1 : 640 < s.size
  · have e1 : decide (640 < (s.size : Int)) = true := decide_eq_true (by omega)
    clear q1
    go_wp2_with (go_at_call 8; refine (awake_any _).mono ?_; rintro e w2 ⟨rfl, hb2⟩)
    go_ret
    exact ⟨rfl, HB0.out.trans (hb2.mono HB0.out.size)⟩
  have e1 : decide (640 < (s.size : Int)) = false := decide_eq_false (by omega)
  by_cases q2 : 640 < t.size
  · have e2 : decide (640 < (t.size : Int)) = true := decide_eq_true (by omega)
    clear q2
    go_wp2_with (go_at_call 8; refine (awake_any _).mono ?_; rintro e w2 ⟨rfl, hb2⟩)
    go_ret
    exact ⟨rfl, HB0.out.trans (hb2.mono HB0.out.size)⟩
  have e2 : decide (640 < (t.size : Int)) = false := decide_eq_false (by omega)
  by_cases q3 : 3000 < ks.length
  · have e3 : decide (3000 < (ks.length : Int)) = true := decide_eq_true (by omega)
    clear q3
    go_wp2_with (go_at_call 8; refine (awake_any _).mono ?_; rintro e w2 ⟨rfl, hb2⟩)
    go_ret
    exact ⟨rfl, HB0.out.trans (hb2.mono HB0.out.size)⟩
  have e3 : decide (3000 < (ks.length : Int)) = false := decide_eq_false (by omega)
  clear q3
  have hfill := fun W => filled_any 10 0 (by omega) W
  have hfz : (fillT 10 0).size = 640 := fillT_size 10 0
  obtain ⟨Z, hZ⟩ : ∃ Z, fillT 10 0 = Z := ⟨_, rfl⟩
  rw [hZ] at hfz
  simp only [hZ] at hfill
  have hps := pad_size s Z (by omega) hfz
  have hpt := pad_size t Z (by omega) hfz
  have hsa : s.size ≤ 640 := by omega
  have hta : t.size ≤ 640 := by omega
  obtain ⟨m, hm⟩ : ∃ m : Nat, 640 - s.size = m := ⟨_, rfl⟩
  obtain ⟨n, hn⟩ : ∃ n : Nat, 640 - t.size = n := ⟨_, rfl⟩
  rw [hm] at hps
  rw [hn] at hpt
  have m0 : (0 : Int) ≤ (m : Int) := by omega
  have m1 : (m : Int) ≤ 640 := by omega
  have m3 : ¬ (9223372036854775807 < s.size + min m 640) := by omega
  have n0 : (0 : Int) ≤ (n : Int) := by omega
  have n1 : (n : Int) ≤ 640 := by omega
  have n3 : ¬ (9223372036854775807 < t.size + min n 640) := by omega
  have m2 : IntKind.i64.wrap (640 - (s.size : Int)) = (m : Int) := by rw [show (640 : Int) - (s.size : Int) = m by omega]; exact IntWalk.i64_in _ (by omega)
  have n2 : IntKind.i64.wrap (640 - (t.size : Int)) = (n : Int) := by rw [show (640 : Int) - (t.size : Int) = n by omega]; exact IntWalk.i64_in _ (by omega)
  clear hZ q1 q2 hm hn
  go_upto_region 3 with fail
  go_cut [0, 1] (fun s0 s1 wx => s0 = .string (s ++ Z.extract 0 m) ∧ s1 = .string (t ++ Z.extract 0 n) ∧ Hid (Below W.heap.size W wx))
  case first =>
    go_region_held3 (fun w' => True) (go_keep)
      (first
        | (have _t := HB1; go_at_call 20; refine (hfill _).mono ?_; rintro e w2 ⟨rfl, hb2⟩; have HB2 : Hid (Below W.heap.size W w2) := Lib.hid (HB1.out.trans (hb2.mono HB1.out.size)); clear hb2)
        | (go_at_call 20; refine (hfill _).mono ?_; rintro e w1 ⟨rfl, hb1⟩; have HB1 : Hid (Below W.heap.size W w1) := Lib.hid ((Below.refl _ W).drew.trans hb1); clear hb1))
    go_wp2_with fail
    go_meet
    exact ⟨rfl, rfl, HB2⟩
  case rest =>
    obtain ⟨rfl, rfl, hX⟩ := hcut
    generalize s ++ Z.extract 0 m = A at *
    generalize t ++ Z.extract 0 n = B at *
    have HX := Lib.hid (hX.out)
    have hnw := pnew_ten w _ C (old_obj hX.out HN0.out) (HB0.out.trans (hX.out.mono HB0.out.size))
    clear hX hfill hsa hta m0 m1 n0 n1 m2 n2 m3 n3 hfz hB0 hN0 c0 c1 c2 e1 e2 e3
    go_upto_region 7 with (first
      | (have _t := I4; fail)
      | (have _t := I3; go_at_call 21; refine (I3.out.write B hpt (by omega)).mono ?_; rintro e w4 ⟨rfl, h4⟩; have I4 := Lib.hid h4; clear h4)
      | (have _t := I2; go_at_call 16; refine (I2.out.flush (by omega)).mono ?_; rintro e w3 ⟨rfl, h3⟩; have I3 := Lib.hid h3; clear h3)
      | (have _t := I1; go_at_call 21; refine (I1.out.write A hps (by omega)).mono ?_; rintro e w2 ⟨rfl, h2⟩; have I2 := Lib.hid h2; clear h2)
      | (go_at_call 9; refine hnw.mono ?_; rintro e w1 ⟨b, g, cp, m, rfl, h1⟩; have I1 := Lib.hid h1; clear h1))
    have J4 : Hid (TornI w C b g cp m (ten (fB A B) 21 false) w4) := Lib.hid I4.out
    clear I1 I2 I3 I4 hnw
    go_upto_region 8 with (go_at_call 18; refine J4.out.off.mono ?_; rintro e w5 ⟨rfl, h5⟩; have J5 := Lib.hid h5; clear h5)
    have K5 : w5.cell? ⟨w.heap.size, 0, none⟩ = some (.slice ka ks.length kc) ∧ w5.cell? ⟨w.heap.size, 1, none⟩ = some (.int .i64 tn) ∧ w5.cell? ⟨w.heap.size, 2, none⟩ = some (.int .i64 ct) := by
      have := J5.out.box
      rw [hC] at this
      exact ⟨cell_of (j := 0) this rfl, cell_of (j := 1) this rfl, cell_of (j := 2) this rfl⟩
    obtain ⟨c0, c1, c2⟩ := K5
    have hbt := J5.out.boot ka kc ks tn ct hK (ten_boot_all (fB A B) 21 true ks tn ct fun _ => rfl) (by show (21 : Int) ≤ 1000; omega)
    obtain ⟨R, hR⟩ : ∃ R, cat ((List.range 10).map fun k => (fL A B ks tn ct k).now) = R := ⟨_, rfl⟩
    go_upto_region 11 with (first
      | (have _t := J6; go_at_call 14; refine (J6.out.read R hR).mono ?_; rintro e w7 ⟨rfl, h7⟩; have J7 := Lib.hid h7; clear h7)
      | (go_at_call 22; refine (pon_any J5.out.dev).mono ?_; rintro e w6 ⟨rfl, rfl⟩)
      | (go_at_call 19; refine hbt.mono ?_; rintro e w6 ⟨rfl, h6⟩; have J6 : Hid (TornI w C b g cp m (ten (fL A B ks tn ct) 21 false) w6) := Lib.hid h6; clear h6))
    clear hbt c0 c1 c2 J4 J5 J6
    have hlL : ∀ k, k < 10 → (fL A B ks tn ct k).now.size = 64 := fun k hk => left_size _ _ _ _ _ ⟨sec_size B k 10 hpt hk, sec_size A k 10 hps hk⟩
    have hRs : R.size = 640 := by
      rw [← hR, cat_size _ (fun x hx => by obtain ⟨k, hk, rfl⟩ := List.mem_map.1 hx; exact hlL k (List.mem_range.1 hk))]
      simp
    have hRk : ∀ k, k < 10 → secOf R k = (fL A B ks tn ct k).now := fun k hk => by
      rw [← hR, cat_sec _ (fun x hx => by obtain ⟨k, hk, rfl⟩ := List.mem_map.1 hx; exact hlL k (List.mem_range.1 hk)) k (by simpa using hk)]
      simp
    have hRi : ((R.size : Int) != 640) = false := by rw [hRs]; rfl
    have HRK := Lib.hid hRk
    clear hlL hRk
    go_upto_region 13 with fail
    go_wp2
    go_loopw [11, 12] (fun c' k' wr => ∃ (c k : Nat), c' = .int .i64 c ∧ k' = .int .i64 k ∧ k ≤ 10 ∧ c ≤ 1 ∧ (c = 1 → tn < k) ∧ Hid (TornI w C b g cp m (ten (fL A B ks tn ct) 21 false) wr)) (fun _ k _ => 10 - (intOf k).toNat)
    case atStart => exact ⟨0, 0, rfl, rfl, by omega, by omega, by omega, J7⟩
    case round =>
      clear J7
      obtain ⟨c, k, rfl, rfl, hk, hc, hct, J⟩ := hrel
      by_cases hlt : k < 10
      · have i1 : (k : Int) < 10 := by omega
        obtain ⟨lo, hlo⟩ : ∃ lo : Nat, 64 * k = lo := ⟨_, rfl⟩
        obtain ⟨hi, hhi⟩ : ∃ hi : Nat, lo + 64 = hi := ⟨_, rfl⟩
        obtain ⟨X, hX⟩ : ∃ X, R.extract lo hi = X := ⟨_, rfl⟩
        obtain ⟨P, hP⟩ : ∃ P, A.extract lo hi = P := ⟨_, rfl⟩
        obtain ⟨Q, hQ⟩ : ∃ Q, B.extract lo hi = Q := ⟨_, rfl⟩
        have hP1 : secOf A k = P := by rw [← hP, ← hhi, ← hlo]; rfl
        have hQ1 : secOf B k = Q := by rw [← hQ, ← hhi, ← hlo]; rfl
        have hX1 : X = leftOf ⟨Q, P, true⟩ k ks tn ct := by rw [← hX, ← hhi, ← hlo, ← hP1, ← hQ1]; exact HRK.out k hlt
        have hcase := left_ten A B ks k tn ct hps hlt
        rw [hP1, hQ1, ← hX1] at hcase
        have hPs : P.size = 64 := by rw [← hP1]; exact sec_size A k 10 hps hlt
        have hQs : Q.size = 64 := by rw [← hQ1]; exact sec_size B k 10 hpt hlt
        have i2 : IntKind.i64.wrap (64 * (k : Int)) = (lo : Int) := by rw [show (64 : Int) * k = lo by omega]; exact IntWalk.i64_in _ (by omega)
        have i3 : IntKind.i64.wrap ((lo : Int) + 64) = (hi : Int) := by rw [show (lo : Int) + 64 = hi by omega]; exact IntWalk.i64_in _ (by omega)
        have i4 : (0 : Int) ≤ (lo : Int) := by omega
        have i5 : (lo : Int) ≤ (hi : Int) := by omega
        have i6 : (hi : Int) ≤ 640 := by omega
        have HC := Lib.hid hcase
        have HL := Lib.hid (And.intro hc hct)
        have HPQ := Lib.hid (And.intro hPs hQs)
        clear hX1 hcase hP1 hQ1 hlo hhi hPs hQs hc hct
        go_upto_region 17 with fail
        go_quiet (fail)
        have HJ : Hid (TornI w C b g cp m (ten (fL A B ks tn ct) 21 false) (wr.drewN nq)) := Lib.hid (J.out.step (below_drewN8 (Below.refl _ wr) nq))
        generalize wr.drewN nq = wq at *
        clear J
        by_cases q1 : X = P
        · have d1 : (X.toList == P.toList) = true := beq_iff_eq.2 (str_same.2 q1)
          have HQ1 := Lib.hid q1
          clear q1
          go_wp2
          refine ⟨⟨c, k + 1, rfl, by go_num, by omega, HL.out.1, fun h => by have := HL.out.2 h; omega, HJ⟩, by simp [intOf]; omega⟩
        · have d1 : (X.toList == P.toList) = false := beq_eq_false_iff_ne.2 fun h => q1 (str_same.1 h)
          by_cases q2 : X = Q
          · have d2 : (X.toList == Q.toList) = true := beq_iff_eq.2 (str_same.2 q2)
            have HQ2 := Lib.hid q2
            clear q1 q2
            go_wp2
            refine ⟨⟨c, k + 1, rfl, by go_num, by omega, HL.out.1, fun h => by have := HL.out.2 h; omega, HJ⟩, by simp [intOf]; omega⟩
          · have d2 : (X.toList == Q.toList) = false := beq_eq_false_iff_ne.2 fun h => q2 (str_same.1 h)
            obtain ⟨hkt, hXe⟩ : (k : Int) = tn ∧ X = Q.extract 0 (cutAt ct) ++ P.extract (cutAt ct) 64 := by
              rcases HC.out with h | h | h
              · exact absurd h q1
              · exact absurd h q2
              · exact h
            have HC0 : c = 0 := by
              rcases (by have := HL.out.1; omega : c = 0 ∨ c = 1) with h | h
              · exact h
              · have := HL.out.2 h; omega
            subst hkt
            subst HC0
            have HXE := Lib.hid hXe
            have hbx := HJ.out.box
            rw [hC] at hbx
            obtain ⟨c0, c1, c2⟩ : wq.cell? ⟨w.heap.size, 0, none⟩ = some (.slice ka ks.length kc) ∧ wq.cell? ⟨w.heap.size, 1, none⟩ = some (.int .i64 k) ∧ wq.cell? ⟨w.heap.size, 2, none⟩ = some (.int .i64 ct) := ⟨cell_of (j := 0) hbx rfl, cell_of (j := 1) hbx rfl, cell_of (j := 2) hbx rfl⟩
            clear q1 q2 hXe hbx HC
            obtain ⟨cc, hcc⟩ : ∃ cc, cutAt ct = cc := ⟨_, rfl⟩
            have hmm : min (max ct 0) 64 = (cc : Int) := by rw [← hcc]; unfold cutAt; split; omega; split <;> omega
            have hc64 := cut_le ct
            rw [hcc] at HXE hc64
            have i7 : (0 : Int) ≤ (cc : Int) := by omega
            have i8 : (cc : Int) ≤ 64 := by omega
            obtain ⟨hPs, hQs⟩ := HPQ.out
            have i9 : ¬ (9223372036854775807 < min cc 64 + (64 - cc)) := by omega
            have d3 : (X.toList == (Q.extract 0 cc ++ P.extract cc 64).toList) = true := beq_iff_eq.2 (str_same.2 HXE.out)
            clear hcc hc64
            go_upto_region 21 with fail
            go_quiet (fail)
            go_wp2
            refine ⟨⟨1, k + 1, rfl, by go_num, by omega, by omega, fun _ => by omega, Lib.hid (HJ.out.step (below_drewN8 (Below.refl _ wq) _))⟩, by simp [intOf]; omega⟩
      · obtain rfl : k = 10 := by omega
        have hc1 : decide (1 < (c : Int)) = false := decide_eq_false (by omega)
        have hfl := J.out.flush (by omega)
        clear hc hct hlt hk
        go_upto_region 25 with (go_at_call 16; refine hfl.mono ?_; rintro e w8 ⟨rfl, h8⟩; have J8 : Hid (TornI w C b g cp m (ten (fL A B ks tn ct) 22 false) w8) := Lib.hid h8; clear h8)
        have hR2 := J8.out
        clear hfl hc1 J
        go_upto_region 26 with (go_at_call 18; refine J8.out.off.mono ?_; rintro e w9 ⟨rfl, h9⟩; have J9 := Lib.hid h9; clear h9)
        have hbx := J9.out.box
        rw [hC] at hbx
        obtain ⟨c0, c1, c2⟩ : w9.cell? ⟨w.heap.size, 0, none⟩ = some (.slice ka ks.length kc) ∧ w9.cell? ⟨w.heap.size, 1, none⟩ = some (.int .i64 tn) ∧ w9.cell? ⟨w.heap.size, 2, none⟩ = some (.int .i64 ct) := ⟨cell_of (j := 0) hbx rfl, cell_of (j := 1) hbx rfl, cell_of (j := 2) hbx rfl⟩
        have hbt := J9.out.boot ka kc ks tn ct hK (ten_boot_none (fL A B ks tn ct) 22 true ks tn ct fun _ => rfl) (by show (22 : Int) ≤ 1000; omega)
        clear hbx hR2
        go_upto_region 28 with (first
          | (have _t := J10; go_at_call 14; refine (J10.out.read R hR).mono ?_; rintro e w11 ⟨rfl, h11⟩; have J11 := Lib.hid h11; clear h11)
          | (go_at_call 19; refine hbt.mono ?_; rintro e w10 ⟨rfl, h10⟩; have J10 := Lib.hid h10; clear h10))
        have d1 : (R.toList == R.toList) = true := by simp
        go_wp2_with (first
          | (go_at_call 23; refine (J11.out.loose fun _ => rfl).mono ?_; rintro e w12 ⟨⟨la, lc, rfl⟩, h12⟩; have J12 := Lib.hid h12; clear h12)
          | (go_at_call 8; refine (awake_any _).mono ?_; rintro e w13 ⟨rfl, hb13⟩))
        go_ret
        exact ⟨rfl, J12.out.old.trans (hb13.mono J12.out.old.size)⟩
end Go.Proofs.Ytocengdojdeiiaa
