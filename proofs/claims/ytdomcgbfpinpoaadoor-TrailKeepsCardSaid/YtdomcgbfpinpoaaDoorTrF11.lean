/- The law TrailKeeps: frames that were appended are loaded, just they, also behind a loss of power: it comes out true for every texts, epoch and choice. -/
import Derived.Test.YtdomcgbfpinpoaaDoorChoice8
import Derived.Test.YtdomcgbfpinpoaaDoorLaid10
import Derived.Test.YtdomcgbfpinpoaaDoorMWrite8
import Derived.Test.YtdomcgbfpinpoaaDoorTrD11
import Derived.Test.YtdomcgbfpinpoaaDoorTrE11
import Derived.Deep.RegionWith
import Derived.Deep.CutBlock
import Derived.Deep.DeepCutAuto
import Derived.BigQuiet
namespace Go.Proofs.YtdomcgbfpinpoaaDoor
open Go.RowKit Go.Maps

theorem far_of11 {B : Nat} {w : World} {a : Option Addr} {xs : List Bool} (h : Bools B w a xs) {b g m : Nat} (h1 : B ≤ b) (h2 : B ≤ g) (h3 : B ≤ m) : Far a xs b g m := by
  rcases h with q | ⟨x, off, q1, q2, _⟩
  · exact Or.inl q
  · refine Or.inr fun y o e => ?_
    rw [q1] at e
    injection e with e
    injection e with e _
    subst e
    exact ⟨by omega, by omega, by omega⟩
/-- The worlds of a law with a device of its own: all that lay ahead stays. -/
structure Base11 (w V0 : World) (b g m : Nat) : Prop where
  old : Below w.heap.size w V0
  hb : w.heap.size < b
  hg : w.heap.size < g
  hm : w.heap.size < m
theorem Base11.below {w V0 v : World} {b g m : Nat} (h : Base11 w V0 b g m) (hv : But b g m V0 v) : Below w.heap.size w v := h.old.trans (hv.below (by have := h.hb; omega) (by have := h.hg; omega) (by have := h.hm; omega) h.old.size)
set_option maxRecDepth 100000 in
set_option maxHeartbeats 4000000 in
theorem trailKeeps_main (w : World) (tab : Tab w) (a : Option Addr) (cap : Nat) (xs : List (List UInt8)) (hX : Txs 0 w.heap.size w a xs) (ep : Int) (ka : Option Addr) (kc : Nat) (ks : List Bool) (tn ct : Int) (hK : Bools w.heap.size w ka ks) (hsh : shortB xs = true) (he : 1 ≤ ep ∧ ep ≤ 999999999) (hk : ks.length ≤ 3000) :
    Calls Tryd.prog 3 #[.slice a xs.length cap, .int .i64 ep, .agg #[.slice ka ks.length kc, .int .i64 tn, .int .i64 ct]] w fun e w' => e = .returned (.bool true) ∧ Below w.heap.size w w' := by
  have hS := short_of hsh
  have hsm := fun v (hv : Txs 0 w.heap.size v a xs) => small_any a cap xs 0 w.heap.size v hv
  rw [hsh] at hsm
  have e1 : decide (ep < 1) = false := decide_eq_false (by omega)
  have e2 : decide (999999999 < ep) = false := decide_eq_false (by omega)
  have e3 : decide (3000 < (ks.length : Int)) = false := decide_eq_false (by omega)
  have iep : IntKind.i64.wrap (ep + 1) = ep + 1 := IntWalk.i64_in _ (by omega)
  obtain ⟨W, hW⟩ : ∃ W, W = w.alloc (.cells #[.slice ka ks.length kc, .int .i64 tn, .int .i64 ct] 25 (0, 0)) := ⟨_, rfl⟩
  have hB0 : Below w.heap.size w W := by rw [hW]; exact (Below.refl _ w).alloc (Nat.le_refl _) _
  have hN0 : W.heap[w.heap.size]? = some (.cells #[.slice ka ks.length kc, .int .i64 tn, .int .i64 ct] 25 (0, 0)) := by rw [hW]; exact heap_alloc_new w _
  obtain ⟨c0, c1, c2, _, _, _⟩ := three_cells hN0
  have hs0 : W.heap.size = w.heap.size + 1 := by rw [hW]; simp
  have hsmW := hsm W (hX.below hB0)
  obtain ⟨d0, hd0⟩ : ∃ d, Dv.new 200 = d := ⟨_, rfl⟩
  have ok0 : d0.Ok := by rw [← hd0]; exact dv_new_ok 200 (by omega) (by omega)
  have kp0 : Kept d0 ep [] := by rw [← hd0]; exact kept_new ep
  have op0 : d0.ops = 0 := by rw [← hd0]; rfl
  have hnew : Calls Tryd.prog 6 #[.int .i64 200] W fun e w' => ∃ b g cap m, e = .returned (.tuple #[.pointer (some ⟨b, 0, none⟩), .int .i64 0]) ∧ PDev w' b g cap m d0 ∧ W.heap.size ≤ b ∧ W.heap.size ≤ g ∧ W.heap.size ≤ m ∧ Below W.heap.size W w' := by
    rw [← hd0]; exact pnew_any 200 (by omega) (by omega) W
  have HX := Lib.hid hX
  have HK := Lib.hid hK
  have HS := Lib.hid hS
  have HE := Lib.hid he
  have HT := Lib.hid tab
  have HB0 := Lib.hid hB0
  have HN0 := Lib.hid hN0
  have HS0 := Lib.hid hs0
  have HD0 := Lib.hid (And.intro ok0 (And.intro kp0 op0))
  clear hd0 ok0 kp0 op0 hX hK hS he tab hB0 hN0 hs0 hsm hsh hk
  go_enter Tryd.func3, Tryd.ntmps3
  go_upto_region 1 with fail
  rw [← hW]
  clear hW
  go_upto_region 7 with (first
    | (go_at_call 4; refine hsmW.mono ?_; rintro e w1 ⟨rfl, rfl⟩)
    | (go_at_call 6; refine hnew.mono ?_; rintro e w2 ⟨b, g, cp, m, rfl, hp, hb, hg, hm, hb2⟩; have HP2 := Lib.hid hp; have HB2 := Lib.hid hb2; have HBGM := Lib.hid (And.intro hb (And.intro hg hm)); clear hp hb2 hb hg hm))
  obtain ⟨V0, hV0⟩ : ∃ V, V = w2.alloc (.cells #[.int .i64 3, .int .i64 190] 33 (0, 0)) := ⟨_, rfl⟩
  have bV : Below w2.heap.size w2 V0 := by rw [hV0]; exact (Below.refl _ w2).alloc (Nat.le_refl _) _
  have zV : V0.heap[w2.heap.size]? = some (.cells #[.int .i64 3, .int .i64 190] 33 (0, 0)) := by rw [hV0]; exact heap_alloc_new w2 _
  rw [← hV0]
  have hlt := HP2.out.lt
  have hbs := HB2.out.size
  have hs := HS0.out
  have hbgm := HBGM.out
  have HBase : Hid (Base11 w V0 b g m) := Lib.hid ⟨HB0.out.trans ((HB2.out.mono (by omega)).trans (bV.mono (by omega))), by omega, by omega, by omega⟩
  have HAR : Hid (∀ v, But b g m V0 v → v.cell? ⟨w2.heap.size, 0, none⟩ = some (.int .i64 3) ∧ v.cell? ⟨w2.heap.size, 1, none⟩ = some (.int .i64 190)) := Lib.hid fun v hv => two_cells11 (hv.obj zV (by omega) (by omega) (by omega))
  have zC := old_obj bV (old_obj HB2.out HN0.out)
  have HCH : Hid (∀ v, But b g m V0 v → v.cell? ⟨w.heap.size, 0, none⟩ = some (.slice ka ks.length kc) ∧ v.cell? ⟨w.heap.size, 1, none⟩ = some (.int .i64 tn) ∧ v.cell? ⟨w.heap.size, 2, none⟩ = some (.int .i64 ct)) := Lib.hid fun v hv => by
    obtain ⟨q0, q1, q2, _⟩ := three_cells (hv.obj zC (by omega) (by omega) (by omega))
    exact ⟨q0, q1, q2⟩
  have HTX : Hid (∀ v, But b g m V0 v → Txs 0 w.heap.size v a xs) := Lib.hid fun v hv => HX.out.below (HBase.out.below hv)
  have HTab : Hid (∀ v, But b g m V0 v → Tab v) := Lib.hid fun v hv => HT.out.below (HBase.out.below hv)
  have HBO : Hid (∀ v, But b g m V0 v → Bools w.heap.size v ka ks) := Lib.hid fun v hv => HK.out.below (HBase.out.below hv)
  have HFar : Hid (Far ka ks b g m) := Lib.hid (far_of11 HK.out (by omega) (by omega) (by omega))
  have HP0 := Lib.hid (HP2.out.step bV)
  have BU0 := Lib.hid (But.refl b g m V0)
  obtain ⟨kk, hkk⟩ : ∃ k, w2.heap.size = k := ⟨_, rfl⟩
  obtain ⟨n, hn⟩ : ∃ n, xs.length = n := ⟨_, rfl⟩
  have HNN := Lib.hid hn
  have hn20 : n ≤ 20 := by rw [← hn]; exact HS.out.1
  simp only [hkk] at HAR ⊢
  rw [hn]
  clear hV0 bV zV hlt hbs hs hbgm zC hkk hn c0 c1 c2 hnew hsmW HP2 HB2 HBGM HB0 HN0 HS0 HX HK HT e1 e2 e3
  go_wp2
  go_loopw [10, 11] (fun at' i' wr => ∃ (i s : Nat) (d : Dv), at' = .int .i64 s ∧ i' = .int .i64 i ∧ i ≤ n ∧ Hid (s = sumN (xs.take i)) ∧ Hid (PDev wr b g cp m d ∧ But b g m V0 wr) ∧ Hid (d.Ok ∧ Kept d ep (xs.take i) ∧ d.ops ≤ 449 * (i : Int))) (fun _ i _ => n - (intOf i).toNat)
  case atStart => exact ⟨0, 0, d0, rfl, rfl, by omega, Lib.hid rfl, Lib.hid ⟨HP0.out, BU0.out⟩, Lib.hid ⟨HD0.out.1, HD0.out.2.1, by have := HD0.out.2.2; omega⟩⟩
  case round =>
    clear HP0 BU0 HD0
    obtain ⟨i, s, d, rfl, rfl, hi, Hs, HD, HO⟩ := hrel
    by_cases hlt : i < n
    · have i1 : (i : Int) < (n : Int) := by omega
      have i3 : (0 : Int) ≤ (i : Int) := by omega
      have iw : IntKind.i64.wrap ((i : Int) + 1) = (i : Int) + 1 := IntWalk.i64_in _ (by omega)
      have hil : i < xs.length := by have := HNN.out; omega
      obtain ⟨t1, t2, t3, t4, t5⟩ := short_step HS.out hil
      have hw10 : wrong10 ep (((xs.take i).length : Int) + 1) (rowAt xs i).length = 0 := by
        have := HE.out
        unfold wrong10
        rw [t1, if_pos ⟨by omega, by omega, by omega⟩, if_neg (by omega)]
      obtain ⟨k1, k2, k3⟩ := kept_app HO.out.2.1 (rowAt xs i) hw10 (by omega)
      rw [t1] at k1 k2 k3
      rw [← take_more11 hil] at k3
      have hops := app_ops d 3 190 (sumN (xs.take i) : Nat) ep ((i : Int) + 1) (rowAt xs i)
      have hok := app_ok HO.out.1 3 190 (sumN (xs.take i) : Nat) ep ((i : Int) + 1) (rowAt xs i)
      have hss := Hs.out
      have hO3 := HO.out.2.2
      rw [← hss] at k1 k2 k3 hops hok t5 t2
      have hts : (tx (rowAt xs i)).size = (rowAt xs i).length := tx_size _
      obtain ⟨D2, hD2⟩ : ∃ D, d.app 3 190 (s : Nat) ep ((i : Int) + 1) (rowAt xs i) = D := ⟨_, rfl⟩
      rw [hD2] at k3 hops hok
      obtain ⟨s2, hs2⟩ : ∃ s2, s + nsec (rowAt xs i).length = s2 := ⟨_, rfl⟩
      have HS2 : Hid (s2 = sumN (xs.take (i + 1))) := Lib.hid (by rw [t5, hs2])
      have HO2 : Hid (D2.Ok ∧ Kept D2 ep (xs.take (i + 1)) ∧ D2.ops ≤ 449 * ((i + 1 : Nat) : Int)) := Lib.hid ⟨hok, k3, by omega⟩
      rw [hs2] at k2
      have hap : ∀ v, PDev v b g cp m d → Tab v → Calls Tryd.prog 7 #[.pointer (some ⟨b, 0, none⟩), .agg #[.int .i64 3, .int .i64 190], .int .i64 s, .agg #[.int .i64 ep, .int .i64 ((i : Int) + 1), .string (tx (rowAt xs i))]] v fun e w' => e = .returned (.tuple #[.int .i64 s2, .int .i64 0]) ∧ PDev w' b g cp m D2 ∧ But b g m v w' := fun v hv ht => by
        have := ptapp_any hv HO.out.1 (by omega) ht 3 190 s ep ((i : Int) + 1) (by omega) (by omega) (tx (rowAt xs i)) (by omega)
        rw [tx_list, k1, k2, hD2] at this
        exact this
      have hse := fun v => psects_any (tx (rowAt xs i)) (by omega) v
      rw [hts] at hse
      obtain ⟨n3, hn3⟩ : ∃ n3, nsec (rowAt xs i).length = n3 := ⟨_, rfl⟩
      rw [hn3] at hse hs2
      have iw2 : IntKind.i64.wrap ((s : Int) + (n3 : Int)) = (s2 : Int) := by rw [show (s : Int) + (n3 : Int) = (s2 : Int) by omega]; exact IntWalk.i64_in _ (by omega)
      obtain ⟨bl, off, rfl, _, _, hc⟩ := (HTX.out wr.drew HD.out.2.drew).resolve_left (fun q => by rw [q] at hil; simp at hil)
      have x0 := hc i hil
      obtain ⟨q0, q1⟩ := HAR.out wr.drew HD.out.2.drew
      have HPD := Lib.hid HD.out.1.drew
      have HBD := Lib.hid HD.out.2.drew
      have HXC : Hid (∀ v, But b g m V0 v → v.cell? ⟨bl, off + i, none⟩ = some (.string (tx (rowAt xs i)))) := Lib.hid fun v hv => by
        rcases HTX.out v hv with q | ⟨bl', off', q1, _, _, q2⟩
        · rw [q] at hil; simp at hil
        · injection q1 with q1; injection q1 with q3 q4; subst q3; subst q4; exact q2 i hil
      generalize tx (rowAt xs i) = T at *
      clear hil t1 t2 t3 t4 t5 hw10 k1 k2 k3 hops hok hss hO3 hts hD2 hs2 hn3 hc HTX HO
      go_upto_region 11 with fail
      go_cut [12, 13] (fun s12 s13 wx => s12 = .int .i64 s2 ∧ s13 = .int .i64 0 ∧ Hid (PDev wx b g cp m D2 ∧ But b g m V0 wx))
      case first =>
        go_region_with (go_at_call 7; refine (hap _ HPD.out (HTab.out _ HBD.out)).mono ?_; rintro e w3 ⟨rfl, hp3, hb3⟩; have HP3 := Lib.hid hp3; have BU3 := Lib.hid (HBD.out.trans hb3); clear hp3 hb3)
        all_goals
          go_wp2_with fail
          go_meet
          exact ⟨rfl, rfl, Lib.hid ⟨HP3.out, BU3.out⟩⟩
      case rest =>
      obtain ⟨rfl, rfl, HC3⟩ := hcut
      have BU3 := Lib.hid HC3.out.2
      have HP3 := Lib.hid HC3.out.1
      clear x0 q0 q1 hap HC3
      have x0 := HXC.out _ BU3.out
      go_wp2_with (go_at_call 8; refine (hse _).mono ?_; rintro e w4 ⟨rfl, rfl⟩)
      go_roundw
      case rel => exact ⟨i + 1, s2, D2, rfl, by go_num, by omega, HS2, Lib.hid ⟨HP3.out, BU3.out⟩, HO2⟩
      case measure => simp [intOf]; omega
    · obtain rfl : i = n := by omega
      have htk : xs.take i = xs := List.take_of_length_le (by have := HNN.out; omega)
      obtain ⟨o1, o2, o3⟩ := HO.out
      rw [htk] at o2
      have hss := Hs.out
      rw [htk] at hss
      have hsum := short_sum HS.out.2
      have hle := HNN.out
      have hpu := puts_short (ep := ep) ⟨HE.out.1, by have := HE.out.2; omega⟩ HS.out.2 0 (by omega)
      obtain ⟨l1, l2, l3⟩ := kept_load (kept_boot o2 ks tn ct) hpu (by omega)
      have l4 := l3 (ep + 1) (by omega)
      obtain ⟨dB, hdB⟩ : ∃ dB, d.off.boot ks tn ct = dB := ⟨_, rfl⟩
      have okB : dB.Ok := by rw [← hdB]; exact o1.off.boot ks tn ct
      rw [hdB] at l1 l2 l4
      have hof := poff_any HD.out.1 o1
      have hbo := fun v (hv : PDev v b g cp m d.off) (hw : But b g m V0 v) => pboot_any hv o1.off ka kc ks tn ct ((HBO.out v hw).up (HBase.out.below hw).size) HFar.out
      rw [hdB] at hbo
      have hld : ∀ v, PDev v b g cp m dB → Tab v → Calls Tryd.prog 11 #[.pointer (some ⟨b, 0, none⟩), .agg #[.int .i64 3, .int .i64 190], .int .i64 ep] v fun e w' => ∃ a c, e = .returned (.tuple #[.slice a xs.length c, .int .i64 s, .int .i64 0]) ∧ Txs v.heap.size w'.heap.size w' a xs ∧ Below v.heap.size v w' := fun v hv ht => by
        refine (ptload_any hv okB ht 3 190 ep (by omega)).mono fun e w' ⟨a, c, q1, _, q2, q3⟩ => ⟨a, c, ?_, ?_, q3⟩
        · rw [l1, l2, ← hss] at q1; exact q1
        · rw [l2] at q2; exact q2
      have hln : ∀ v, PDev v b g cp m dB → Tab v → Calls Tryd.prog 11 #[.pointer (some ⟨b, 0, none⟩), .agg #[.int .i64 3, .int .i64 190], .int .i64 (ep + 1)] v fun e w' => ∃ a c, e = .returned (.tuple #[.slice a 0 c, .int .i64 0, .int .i64 0]) ∧ Below v.heap.size v w' := fun v hv ht => by
        refine (ptload_any hv okB ht 3 190 (ep + 1) (by omega)).mono fun e w' ⟨a, c, q1, _, q2, q3⟩ => ⟨a, c, ?_, q3⟩
        rw [l1, l4] at q1; exact q1
      have hsame := fun (v : World) (a2 : Option Addr) (A2 B2 c2 : Nat) (hv : Txs A2 B2 v a2 xs) (hv2 : Txs 0 w.heap.size v a xs) => same_txs a2 a A2 0 B2 w.heap.size c2 cap xs (by omega) v hv hv2
      have haw := fun v (hv : Tab v) => awake11 v hv
      obtain ⟨q0, q1⟩ := HAR.out wr HD.out.2
      rw [HNN.out] at hld hsame
      clear htk o1 o2 o3 hss hsum hpu l1 l2 l3 l4 hdB okB HO Hs hle
      go_upto_region 16 with (go_at_call 9; refine hof.mono ?_; rintro e w3 ⟨rfl, hp3, hb3⟩; have HP3 := Lib.hid hp3; have BU3 := Lib.hid (HD.out.2.trans hb3); clear hp3 hb3)
      clear q0 q1 hof
      obtain ⟨c0, c1, c2⟩ := HCH.out _ BU3.out
      go_upto_region 17 with (go_at_call 10; refine (hbo _ HP3.out BU3.out).mono ?_; rintro e w4 ⟨rfl, hp4, hb4⟩; have HP4 := Lib.hid hp4; have BU4 := Lib.hid (BU3.out.trans hb4); clear hp4 hb4)
      clear c0 c1 c2 hbo
      obtain ⟨q0, q1⟩ := HAR.out _ BU4.out
      go_upto_region 18 with (go_at_call 11; refine (hld _ HP4.out (HTab.out _ BU4.out)).mono ?_; rintro e w5 ⟨a5, c5, rfl, hx5, hb5⟩; have HP5 := Lib.hid (HP4.out.step hb5); have BU5 := Lib.hid (BU4.out.step hb5); have HX5 := Lib.hid hx5; clear hx5 hb5)
      clear q0 q1 hld
      obtain ⟨q0, q1⟩ := HAR.out _ BU5.out
      go_upto_region 19 with (go_at_call 11; refine (hln _ HP5.out (HTab.out _ BU5.out)).mono ?_; rintro e w6 ⟨a6, c6, rfl, hb6⟩; have BU6 := Lib.hid (BU5.out.step hb6); have HX6 := Lib.hid (HX5.out.step hb6); clear hb6)
      clear q0 q1 hln
      go_wp2_with (first
        | (go_at_call 12; refine (hsame _ _ _ _ _ HX6.out (HTX.out _ BU6.out)).mono ?_; rintro e w7 ⟨rfl, hb7⟩; have BU7 := Lib.hid (BU6.out.step hb7); clear hb7)
        | (go_at_call 5; refine (haw _ (HTab.out _ BU7.out)).mono ?_; rintro e w8 ⟨rfl, hb8⟩; have BU8 := Lib.hid (BU7.out.step hb8); clear hb8))
      go_ret
      exact ⟨rfl, HBase.out.below BU8.out⟩
end Go.Proofs.YtdomcgbfpinpoaaDoor
