/- The laws' fixed probes: they come out true, in every world. -/
import Derived.Test.YtocengdojdeiiaaSame8
namespace Go.Proofs.Ytocengdojdeiiaa
open Go.RowKit Go.Maps

def awA : Dv := (Dv.new 4).write 1 (fillT 2 120)
def awB : Dv := awA.boot [true] 1 3
theorem aw1 : (Dv.new 4).writeE 1 (fillT 2 120) = 0 := by kernel_rfl
theorem aw2 : awA.loose = [1, 2] := by kernel_rfl
theorem aw3 : awB.readT 1 2 = fillT 1 120 ++ ⟨#[120, 120, 120]⟩ ++ (fillT 1 0).extract 3 64 := by kernel_rfl
theorem aw4 : awB.readE 1 2 = 0 := by kernel_rfl
theorem aw5 : awB.cells.length = 4 := by kernel_rfl
theorem aw6 : awB.ops = 2 := by kernel_rfl
theorem aw7 : awB.writeE 3 (fillT 2 120) = 21 := by kernel_rfl
theorem aw8 : awB.writeE 0 ⟨#[120]⟩ = 2 := by kernel_rfl
theorem aw9 : awB.dead = false := by kernel_rfl
theorem awC : awB.writable 3 (fillT 2 120) = false := by kernel_rfl

structure AwI (w : World) (b g cap m : Nat) (W : World) : Prop where
  dev : PDev W b g cap m awB
  old : Below w.heap.size w W
theorem AwI.step {w : World} {b g cap m : Nat} {W W' : World} (h : AwI w b g cap m W) (hb : Below W.heap.size W W') : AwI w b g cap m W' := ⟨h.dev.step hb, h.old.trans (hb.mono h.old.size)⟩
theorem bool_lit (w : World) (t : TypeId) : Bools (w.alloc (.cells #[.bool true] t)).heap.size (w.alloc (.cells #[.bool true] t)) (some ⟨w.heap.size, 0, none⟩) [true] := by
  refine Or.inr ⟨w.heap.size, 0, rfl, by simp, fun j hj => ?_⟩
  have : j = 0 := by simpa using hj
  subst this
  exact cell_of (j := 0) (heap_alloc_new w _) rfl
set_option maxRecDepth 100000 in
set_option maxHeartbeats 1000000 in
theorem awake_any (w : World) : Calls Try.prog 8 #[] w fun e w' => e = .returned (.bool true) ∧ Below w.heap.size w w' := by
  obtain ⟨X2, hX2⟩ : ∃ X, fillT 2 120 = X := ⟨_, rfl⟩
  obtain ⟨X1, hX1⟩ : ∃ X, fillT 1 120 = X := ⟨_, rfl⟩
  obtain ⟨Z, hZ⟩ : ∃ Z, fillT 1 0 = Z := ⟨_, rfl⟩
  have sX2 : X2.size = 128 := by rw [← hX2]; exact fillT_size 2 120
  have sX1 : X1.size = 64 := by rw [← hX1]; exact fillT_size 1 120
  have sZ : Z.size = 64 := by rw [← hZ]; exact fillT_size 1 0
  have hf2 := fun W => filled_any 2 120 (by omega) W
  have hf1 := fun W => filled_any 1 120 (by omega) W
  have hf0 := fun W => filled_any 1 0 (by omega) W
  rw [hX2] at hf2
  rw [hX1] at hf1
  rw [hZ] at hf0
  obtain ⟨Z3, hZ3⟩ : ∃ Z3, Z.extract 3 64 = Z3 := ⟨_, rfl⟩
  have sZ3 : Z3.size = 61 := by rw [← hZ3, ByteArray.size_extract, sZ]; rfl
  have hcut : ∀ W, (Instr.slice 9 (.string Z) (some (.int .i64 3)) none none).run Try.prog W = .ok (.string Z3) W := fun W => by
    have := cut_from Z 3 (by omega) (by rw [sZ]; omega) W
    rw [this, ← hZ3, sZ]; rfl
  obtain ⟨T, hT⟩ : ∃ T, awB.readT 1 2 = T := ⟨_, rfl⟩
  have hcat : X1 ++ ⟨#[120, 120, 120]⟩ ++ Z3 = T := by rw [← hT, aw3, hX1, hZ, hZ3]
  obtain ⟨hw0, hwD⟩ : (Dv.new 4).writeE 1 X2 = 0 ∧ (Dv.new 4).write 1 X2 = awA := ⟨by rw [← hX2]; exact aw1, by rw [← hX2]; rfl⟩
  have hw3 : awB.writeE 3 X2 = 21 := by rw [← hX2]; exact aw7
  have hw3D : awB.write 3 X2 = awB := by unfold Dv.write; rw [← hX2, awC, if_neg (by decide)]
  have okA : awA.Ok := (dv_new_ok 4 (by omega) (by omega)).write _ _
  have okB : awB.Ok := okA.boot _ _ _
  have ok0 := dv_new_ok 4 (by omega) (by omega)
  have hnew := pnew_any 4 (by omega) (by omega) w
  have hnb := fun W => pnew_bad 0 (by omega) W
  have K0 := Lib.hid hw0
  have KD := Lib.hid hwD
  have K3 := Lib.hid hw3
  have K3D := Lib.hid hw3D
  have KT := Lib.hid hT
  have O0 := Lib.hid ok0
  have OA := Lib.hid okA
  have OB := Lib.hid okB
  have sZa : ¬ 9223372036854775807 < (X1 ++ ⟨#[120, 120, 120]⟩).size + Z3.size := by rw [ByteArray.size_append, sX1, sZ3]; decide
  have sXa : ¬ 9223372036854775807 < X1.size + 3 := by rw [sX1]; decide
  have SX2 := Lib.hid sX2
  clear hX2 hX1 hZ hZ3 hT hw0 hwD hw3 hw3D ok0 okA okB sX2 sX1 sZ sZ3
  go_enter Try.func8, Try.ntmps8
  go_upto_region 5 with (first
    | (go_at_call 9; refine hnew.mono ?_; rintro e w1 ⟨b, g, cap, m, rfl, hp, hb, hg, hm, hb1⟩; have HP1 : Hid (PDev w1 b g cap m (Dv.new 4)) := Lib.hid hp; have HB1 := Lib.hid hb1; clear hp hb1)
    | (go_at_call 20; refine (hf2 _).mono ?_; rintro e w2 ⟨rfl, hb2⟩; have HB2 := Lib.hid hb2; clear hb2)
    | (go_at_call 21; refine (pwrite_any (HP1.out.step HB2.out) O0.out (by decide) 1 X2 (by rw [SX2.out]; omega)).mono ?_; rw [K0.out, KD.out]; rintro e w3 ⟨rfl, hp3, hb3⟩; have HP3 := Lib.hid hp3; have HB3 := Lib.hid hb3; clear hp3 hb3))
  have hA2 := aw2
  have HL2 := Lib.hid hA2
  clear hA2 hnew
  go_upto_region 6 with (go_at_call 23; refine (pLoose_any HP3.out OA.out).mono ?_; rw [HL2.out]; rintro e w4 ⟨la, lc, rfl, hi, hb4⟩; have HI4 := Lib.hid hi; have HB4 := Lib.hid hb4; clear hi hb4)
  have hs1 := HB1.out.size
  have hs2 := HB2.out.size
  have hs3 := HB3.out.size
  have hs4 := HB4.out.size
  have hl1 := HP1.out.lt
  have hbl := bool_lit w4 4
  have hba : Below w4.heap.size w4 (w4.alloc (.cells #[.bool true] 4)) := (Below.refl _ w4).alloc (Nat.le_refl _) _
  have hsa : (w4.alloc (.cells #[.bool true] 4)).heap.size = w4.heap.size + 1 := by simp
  have hbt := pboot_any ((HP3.out.step HB4.out).step hba) OA.out (some ⟨w4.heap.size, 0, none⟩) 1 [true] 1 3 hbl (Or.inr fun x off e => by
    injection e with e; injection e with e; subst e
    exact ⟨by omega, by omega, by omega⟩)
  have HBA := Lib.hid hba
  have HSA := Lib.hid hsa
  change Calls _ _ #[_, .agg #[.slice _ 1 1, _, _]] _ _ at hbt
  clear hbl hba hsa hs1 hs2 hs3 hs4 hl1
  go_upto_region 7 with (go_at_call 19; refine hbt.mono ?_; rintro e w5 ⟨rfl, hp5, hb5⟩; have HP5 : Hid (PDev w5 b g cap m awB) := Lib.hid hp5; have HB5 := Lib.hid hb5; clear hp5 hb5)
  have hs1 := HB1.out.size
  have hs2 := HB2.out.size
  have hs3 := HB3.out.size
  have hs4 := HB4.out.size
  have hs5 := HB5.out.size
  have hsa := HSA.out
  have hl1 := HP1.out.lt
  have HI5 : Hid (Ints w5.heap.size w5 la [1, 2]) := Lib.hid (((HI4.out.below HBA.out).but (by omega) HB5.out (by omega) (by omega) (by omega)).ints.up (by omega))
  have HW5 : Hid (Below w.heap.size w w5) := Lib.hid ((((HB1.out.trans (HB2.out.mono hs1)).trans (HB3.out.below hb hg hm (by omega))).trans (HB4.out.mono (by omega))).trans ((HBA.out.mono (by omega)).trans (HB5.out.below hb hg hm (by omega))))
  have hrd := pread_any HP5.out OB.out 1 2 (by omega)
  rw [KT.out, aw4] at hrd
  have HW3 : ∀ W, PDev W b g cap m awB → Calls Try.prog 21 #[.pointer (some ⟨b, 0, none⟩), .int .i64 3, .string X2] W fun e w' => e = .returned (.int .i64 21) ∧ PDev w' b g cap m awB ∧ But b g m W w' := fun W hp => by
    have := pwrite_any hp OB.out (by rw [aw6]; decide) 3 X2 (by rw [SX2.out]; omega)
    rw [K3.out, K3D.out] at this
    exact this
  have HW0 : ∀ W, PDev W b g cap m awB → Calls Try.prog 21 #[.pointer (some ⟨b, 0, none⟩), .int .i64 0, .string ⟨#[120]⟩] W fun e w' => e = .returned (.int .i64 2) ∧ PDev w' b g cap m awB ∧ But b g m W w' := fun W hp => by
    have := pwrite_any hp OB.out (by rw [aw6]; decide) 0 ⟨#[120]⟩ (by decide)
    rw [aw8, show awB.write 0 ⟨#[120]⟩ = awB by kernel_rfl] at this
    exact this
  have HSI : ∀ W, PDev W b g cap m awB → Calls Try.prog 24 #[.pointer (some ⟨b, 0, none⟩)] W fun e w' => e = .returned (.int .i64 4) ∧ W = w' := fun W hp => by
    have := psize_any hp
    rw [aw5] at this
    exact this
  have HOP : ∀ W, PDev W b g cap m awB → Calls Try.prog 25 #[.pointer (some ⟨b, 0, none⟩)] W fun e w' => e = .returned (.int .i64 2) ∧ W = w' := fun W hp => by
    have := pops_any hp
    rw [aw6] at this
    exact this
  have HON : ∀ W, PDev W b g cap m awB → Calls Try.prog 22 #[.pointer (some ⟨b, 0, none⟩)] W fun e w' => e = .returned (.bool true) ∧ W = w' := fun W hp => by
    have := pon_any hp
    rw [aw9] at this
    exact this
  have HBD := Lib.hid (And.intro hb (And.intro hg hm))
  have HSW := Lib.hid hf2
  have HP6 := Lib.hid HW5.out.size
  have Q3 := Lib.hid HW3
  have Q0 := Lib.hid HW0
  have QS := Lib.hid HSI
  have QO := Lib.hid HOP
  have QN := Lib.hid HON
  clear hbt hs1 hs2 hs3 hs4 hs5 hsa hl1 HW3 HW0 HSI HOP HON hf2 hb hg hm
  go_upto_region 9 with (first
    | (go_at_call 14; refine hrd.mono ?_; rintro e w6 ⟨rfl, hb6⟩; have HB6 := Lib.hid hb6; have I6 : Hid (AwI w b g cap m w6) := Lib.hid (AwI.step ⟨HP5.out, HW5.out⟩ hb6); clear hb6)
    | (go_at_call 9; refine (hnb _).mono ?_; rintro e w7 ⟨rfl, rfl⟩))
  have hI6 := HI5.out.step HB6.out
  have hI7 := hI6.lit (.cells #[.int .i64 1, .int .i64 2] 3)
  have hL7 := lit_two w6 1 2 3
  have hsm := same_any la (some ⟨w6.heap.size, 0, none⟩) lc 2 [1, 2] [1, 2] _ (by decide) hI7 hL7
  rw [show decide (([1, 2] : List Int) = [1, 2]) = true from rfl] at hsm
  change Calls _ _ #[.slice _ 2 _, .slice _ 2 _] _ _ at hsm
  have I7a : Hid (AwI w b g cap m (w6.alloc (.cells #[.int .i64 1, .int .i64 2] 3))) := Lib.hid (I6.out.step ((Below.refl _ w6).alloc (Nat.le_refl _) _))
  clear hI6 hI7 hL7 hrd
  go_wp2_with (first
    | (go_at_call 26; refine hsm.mono ?_; rintro e w7 ⟨rfl, hb7⟩; have I7 : Hid (AwI w b g cap m w7) := Lib.hid (I7a.out.step hb7); clear hb7)
    | (go_at_call 24; refine (QS.out _ I9.out.dev).mono ?_; rintro e w8 ⟨rfl, rfl⟩)
    | (go_at_call 25; refine (QO.out _ I9.out.dev).mono ?_; rintro e w8 ⟨rfl, rfl⟩)
    | (go_at_call 22; refine (QN.out _ I12.out.dev).mono ?_; rintro e w8 ⟨rfl, rfl⟩)
    | (go_at_call 21; first
        | (refine (Q0.out _ I11.out.dev).mono ?_; rintro e w12 ⟨rfl, hp12, hb12⟩; have I12 : Hid (AwI w b g cap m w12) := Lib.hid ⟨hp12, I11.out.old.trans (hb12.below HBD.out.1 HBD.out.2.1 HBD.out.2.2 I11.out.old.size)⟩; clear hp12 hb12)
        | (refine (Q3.out _ I10.out.dev).mono ?_; rintro e w11 ⟨rfl, hp11, hb11⟩; have I11 : Hid (AwI w b g cap m w11) := Lib.hid ⟨hp11, I10.out.old.trans (hb11.below HBD.out.1 HBD.out.2.1 HBD.out.2.2 I10.out.old.size)⟩; clear hp11 hb11))
    | (go_at_call 20; first
        | (have _t := I9; refine (HSW.out _).mono ?_; rintro e w10 ⟨rfl, hb10⟩; have I10 := Lib.hid (I9.out.step hb10); clear hb10)
        | (have _t := I8; refine (hf0 _).mono ?_; rintro e w9 ⟨rfl, hb9⟩; have I9 := Lib.hid (I8.out.step hb9); clear hb9)
        | (have _t := I7; refine (hf1 _).mono ?_; rintro e w8 ⟨rfl, hb8⟩; have I8 := Lib.hid (I7.out.step hb8); clear hb8)))
  go_ret
  exact ⟨rfl, I12.out.old⟩
end Go.Proofs.Ytocengdojdeiiaa
