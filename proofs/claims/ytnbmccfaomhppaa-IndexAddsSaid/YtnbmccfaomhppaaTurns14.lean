/- The walk of IndexTurns from what is wanted of the program's index. -/
import Derived.Test.YtnbmccfaomhppaaAdds14
namespace Go.Proofs.Ytnbmccfaomhppaa
open Go.RowKit

theorem addsX_zero {s : List UInt8} {l : List Pr} {ns : List Int} (h : addsX s l ns = 0) : checkOf s = 0 ∧ addsE s l ns = 0 := by
  by_cases hc : checkOf s = 0
  · exact ⟨hc, by rw [← addsX_on hc]; exact h⟩
  · unfold addsX at h
    rw [if_pos hc] at h
    cases h
def prevI : Nat → Int
  | 0 => -1
  | j + 1 => (j : Int)
theorem prev_step (j : Nat) (h : j ≤ 1000) : IntKind.i64.wrap ((j : Int) - 1) = prevI j := by
  cases j with
  | zero => exact IntWalk.i64_in _ (by omega)
  | succ j =>
    rw [IntWalk.i64_in _ (by omega)]
    show ((j + 1 : Nat) : Int) - 1 = (j : Int)
    omega
theorem rev_take {ns : List Int} {j : Nat} (hj : j < ns.length) : ns.reverse.take (ns.length - j) = ns.reverse.take (ns.length - (j + 1)) ++ [numAt ns j] := by
  have e : ns.length - j = ns.length - (j + 1) + 1 := by omega
  rw [e, List.take_add_one, List.getElem?_reverse (by omega), show ns.length - 1 - (ns.length - (j + 1)) = j by omega, List.getElem?_eq_getElem hj]
  unfold numAt
  rw [List.getD_eq_getElem?_getD, List.getElem?_eq_getElem hj]
  rfl
/-- The law's own index, as it goes on. -/
structure YV (W : World) (g : Nat) (ya : Option Addr) (yc : Nat) (yb : Option Addr) (yd : Nat) (YK : List (List UInt8)) (YI : List (List Int)) (L : List Pr) : Prop where
  obj : W.heap[g]? = some (.cells #[.slice ya YK.length yc, .slice yb YI.length yd] IxT (0, 0))
  ix : IxV W ya yc yb yd YK YI
  small : Small14 YK YI
  ok : pairsO YK YI = true
  val : pairsV YK YI = L
theorem YV.step {W V : World} {g : Nat} {ya : Option Addr} {yc : Nat} {yb : Option Addr} {yd : Nat} {YK : List (List UInt8)} {YI : List (List Int)} {L : List Pr} (h : YV W g ya yc yb yd YK YI L) (hb : Below W.heap.size W V) : YV V g ya yc yb yd YK YI L :=
  ⟨old_obj hb h.obj, h.ix.step hb, h.small, h.ok, h.val⟩
theorem Prs.put {W : World} {a : Option Addr} {l : List Pr} {g : Nat} {a1 a2 : Option Addr} {n1 n2 c1 c2 : Nat} {t : TypeId} (h : Prs 0 W.heap.size W a l) (hg : W.heap[g]? = some (.cells #[.slice a1 n1 c1, .slice a2 n2 c2] t (0, 0))) (x y : Value) : Prs 0 ((W.setCell ⟨g, 0, none⟩ x).setCell ⟨g, 1, none⟩ y).heap.size ((W.setCell ⟨g, 0, none⟩ x).setCell ⟨g, 1, none⟩ y) a l := by
  have hs : ((W.setCell ⟨g, 0, none⟩ x).setCell ⟨g, 1, none⟩ y).heap.size = W.heap.size := by rw [World.size_setCell, World.size_setCell]
  have hno : ∀ u ∈ prCells l, ∀ a n c, u ≠ Value.slice a n c := by
    intro u hu a n c e
    subst e
    clear hs hg h
    induction l with
    | nil => cases hu
    | cons p l ih =>
      unfold prCells at hu
      rcases List.mem_cons.1 hu with e | hu
      · cases e
      · rcases List.mem_cons.1 hu with e | hu
        · cases e
        · exact ih hu
  rcases h with e | ⟨b, off, ea, h1, h2, hc⟩
  · exact Or.inl e
  · refine Or.inr ⟨b, off, ea, h1, by rw [hs]; exact h2, fun j u hj => ?_⟩
    have hu : u ∈ prCells l := List.mem_of_getElem? hj
    rw [cell_off x y (not_there hg (hc j u hj) (hno u hu))]
    exact hc j u hj
theorem Mid14.put {w W : World} {ka : Option Addr} {kc : Nat} {ia : Option Addr} {ic : Nat} {K : List (List UInt8)} {I : List (List Int)} {pa : Option Addr} {P : List Pr} {b : Option Addr} {ns : List Int} {g : Nat} {a1 a2 : Option Addr} {n1 n2 c1 c2 : Nat} {t : TypeId} (h : Mid14 w W ka kc ia ic K I pa P b ns) (hx : IxV w ka kc ia ic K I) (hi : Ints w.heap.size w b ns) (hgw : w.heap.size < g)
    (hg : W.heap[g]? = some (.cells #[.slice a1 n1 c1, .slice a2 n2 c2] t (0, 0))) (x y : Value) : Mid14 w ((W.setCell ⟨g, 0, none⟩ x).setCell ⟨g, 1, none⟩ y) ka kc ia ic K I pa P b ns := by
  have hb := two_below14 h.at14.box.1 (Nat.le_of_lt hgw) x y
  refine ⟨⟨⟨hb, ?_, ?_⟩, hx.step hb⟩, h.prs.put hg x y, hi.step hb⟩
  · rw [cell_off x y (by omega)]; exact h.at14.box.2.1
  · rw [cell_off x y (by omega)]; exact h.at14.box.2.2
set_option maxRecDepth 100000 in
set_option maxHeartbeats 16000000 in
theorem indexTurns_main (H : Index14) (HA : Wakes14) (w : World) (ka : Option Addr) (kc : Nat) (ia : Option Addr) (ic : Nat) (K : List (List UInt8)) (I : List (List Int)) (hx : IxV w ka kc ia ic K I) (s : List UInt8) (b : Option Addr) (bc : Nat) (ns : List Int) (hi : Ints w.heap.size w b ns) (hfew : fewX K I = true) (hs : ¬ 100 < (tx s).size) (hn : ns.length ≤ 20) (hok : pairsO K I = true) :
    Calls Try.prog 5 #[ixVal ka kc ia ic K I, .string (tx s), .slice b ns.length bc] w fun e w' => e = .returned (.bool true) ∧ Below w.heap.size w w' := by
  have HW := Lib.hid HA
  have A0 := At14.start hx
  have HF := Lib.hid (few14_any ka kc ia ic K I _ A0.ix)
  rw [hfew] at HF
  have HB := Lib.hid A0
  have HI := Lib.hid (hi.step A0.below)
  have HX0 := Lib.hid (And.intro hx hi)
  obtain ⟨_, c0, c1⟩ := A0.box
  clear hx A0 hi
  have e1 : decide (100 < ((tx s).size : Int)) = false := decide_eq_false (by omega)
  have e1' : decide (100 < (tx s).size) = false := decide_eq_false hs
  have e2 : decide (20 < (ns.length : Int)) = false := decide_eq_false (by omega)
  have e2' : decide (20 < ns.length) = false := decide_eq_false (by omega)
  have hsm := few_small hfew
  have hfine : fineK K I := (of_decide_eq_true hok).1
  have hsrt : Srt (pairsV K I) := by rw [(pairs_fine hfine).1]; exact (fine_ix hfine).srt
  have hpl : (pairsV K I).length ≤ 600000 := by
    rw [(pairs_fine hfine).1, len_pairsK hfine.2.1]; exact hsm.2.2
  have HP : Hid (∀ W, At14 w W ka kc ia ic K I → Calls Try.prog 9 #[.slice ka K.length kc, .slice ia I.length ic] W fun e w' => ∃ a' c', e = .returned (.tuple #[.slice a' (pairsV K I).length c', .bool (pairsO K I)]) ∧ (pairsV K I).length ≤ c' ∧ Prs 0 w'.heap.size w' a' (pairsV K I) ∧ Below W.heap.size W w') := Lib.hid fun W hW => rpairs_any ka kc K ia ic I 0 W hW.ix.keys hW.ix.ids (by have := hsm.1; omega) hsm.2.2
  have HC : Hid (∀ W, At14 w W ka kc ia ic K I → Calls Try.prog 10 #[ixVal ka kc ia ic K I] W fun e w' => e = .returned (.int .i64 (okE (pairsO K I) 0)) ∧ Below W.heap.size W w') := Lib.hid fun W hW => H.check ka kc ia ic K I W hW.ix hsm
  have HAdd : Hid (∀ (W : World) (b : Option Addr) (bc : Nat) (ns : List Int), At14 w W ka kc ia ic K I → Ints W.heap.size W b ns → ns.length ≤ 1000 → Calls Try.prog 18 #[ixVal ka kc ia ic K I, .string (tx s), .slice b ns.length bc] W fun e w' => IxOut W e w' (okE (pairsO K I) (addsX s (pairsV K I) ns)) (addsL s (pairsV K I) ns)) := Lib.hid fun W b bc ns hW hi hn => H.add ka kc ia ic K I s b bc ns W hW.ix hsm hi hn
  have HDrop : Hid (∀ (W : World) (ya : Option Addr) (yc : Nat) (yb : Option Addr) (yd : Nat) (YK : List (List UInt8)) (YI : List (List Int)) (n : Int), IxV W ya yc yb yd YK YI → Small14 YK YI → Calls Try.prog 19 #[ixVal ya yc yb yd YK YI, .string (tx s), .int .i64 n] W fun e w' => IxOut W e w' (okE (pairsO YK YI) (dropE (pairsV YK YI) (s, n))) (dropP (pairsV YK YI) (s, n))) := Lib.hid fun W ya yc yb yd YK YI n h1 h2 => H.drop ya yc yb yd YK YI s n W h1 h2
  have HSameX : Hid (∀ (W : World) (pa : Option Addr) (pc : Nat), At14 w W ka kc ia ic K I → Prs 0 W.heap.size W pa (pairsV K I) → Calls Try.prog 21 #[ixVal ka kc ia ic K I, .slice pa (pairsV K I).length pc] W fun e w' => e = .returned (.bool true) ∧ Below W.heap.size W w') := Lib.hid fun W pa pc hW hp => same14_true ka kc ia ic K I pa pc (pairsV K I) W hW.ix hp (by have := hsm.1; omega) hsm.2.2 hok rfl (by omega)
  have HL := Lib.hid hpl
  have HSrt := Lib.hid hsrt
  rw [hok] at HP HC HAdd
  have o1 : ∀ E, okE true E = E := fun _ => rfl
  simp only [o1] at HC HAdd
  clear hfew hs hsm hpl H hok hfine hsrt
  generalize pairsV K I = P at *
  go_enter Try.func5, Try.ntmps5
  go_upto_region 5 with (first
    | (go_at_call 7; refine HF.out.mono ?_; rintro e w1 ⟨rfl, hb⟩; have B1 := Lib.hid (HB.out.step hb); have I1 := Lib.hid (HI.out.step hb); obtain ⟨_, f0, f1⟩ := B1.out.box; clear hb)
    | (go_at_call 10; refine (HC.out _ B1.out).mono ?_; rintro e wc ⟨rfl, hb⟩; have BC := Lib.hid (B1.out.step hb); have IC := Lib.hid (I1.out.step hb); obtain ⟨_, k0, k1⟩ := BC.out.box; clear hb)
    | (go_at_call 9; refine (HP.out _ BC.out).mono ?_; rintro e w2 ⟨pa, pc, rfl, -, hp, hb⟩; have M2 : Hid (Mid14 w w2 ka kc ia ic K I pa P b ns) := Lib.hid ⟨BC.out.step hb, hp, IC.out.step hb⟩; obtain ⟨_, g0, g1⟩ := M2.out.at14.box; clear hb hp)
    | (go_at_call 18; refine (HAdd.out _ b bc ns M2.out.at14 M2.out.nums (by omega)).mono ?_; rintro e w3 ⟨ya, yc, yb, yd, YK, YI, rfl, hiy, hly, hsy, hy0, -, hb⟩; have VY := Lib.hid (var_late hb hiy hly); have SY := Lib.hid (And.intro hsy hy0); clear hb hiy hly hsy hy0))
  have HGY : Hid (w.heap.size < w3.heap.size) := Lib.hid (by
    have h1 := World.block_lt_of_cell? w2 _ M2.out.at14.box.2.1
    have h2 := VY.out.new
    simp at h1
    omega)
  generalize w3.alloc (.cells #[.slice ya YK.length yc, .slice yb YI.length yd] IxT) = V3 at *
  generalize w3.heap.size = gy at *
  have M3 := Lib.hid (M2.out.step VY.out.below)
  obtain ⟨_, h0, h1⟩ := M3.out.at14.box
  obtain ⟨X, hX⟩ : ∃ X, addsX s P ns = X := ⟨_, rfl⟩
  rw [hX]
  by_cases hX0 : ¬ X = 0
  · have d2 : (X != 0) = true := by rw [bne_iff_ne]; exact hX0
    clear hX0 hX
    go_wp2_with (first
      | (go_at_call 21; refine (HSameX.out _ _ _ M3.out.at14 M3.out.prs).mono ?_; rintro e w4 ⟨rfl, hb⟩; have M4 := Lib.hid (M3.out.step hb); clear hb)
      | (go_at_call 8; refine (HW.out _).mono ?_; rintro e w5 ⟨rfl, hb⟩; have B5 := Lib.hid (M4.out.at14.below.trans (hb.mono M4.out.at14.below.size)); clear hb))
    go_ret
    exact ⟨rfl, B5.out⟩
  have hX0 := Decidable.not_not.1 hX0
  subst hX0
  obtain ⟨hck, hadd⟩ := addsX_zero hX
  obtain ⟨hbk1, hbk2⟩ := adds_back HSrt.out hadd
  have HBK : Hid (addsX s P ns.reverse = 0 ∧ addsL s P ns.reverse = addsL s P ns) := Lib.hid ⟨by rw [addsX_on hck]; exact hbk1, hbk2⟩
  have HADD := Lib.hid hadd
  obtain ⟨q1, q2⟩ := SY.out.2 hX
  have Y3 : Hid (YV V3 gy ya yc yb yd YK YI (addsL s P ns)) := Lib.hid ⟨VY.out.obj, VY.out.ix, SY.out.1, q1, q2⟩
  have i0 : IntKind.i64.wrap ((ns.length : Int) - 1) = prevI ns.length := prev_step _ (by omega)
  clear hX hck hadd hbk1 hbk2 q1 q2 SY VY
  go_upto_region 9 with fail
  go_loopw [11, 12] (fun s11 s12 wr => ∃ (r : Nat) (a8 : Option Addr) (c8 : Nat) (ys : List Int), s11 = .slice a8 ys.length c8 ∧ s12 = .int .i64 (prevI r) ∧ r ≤ ns.length ∧ Hid (OutI V3 wr a8 c8 ys) ∧ Hid (ys = ns.reverse.take (ns.length - r))) (fun _ i _ => (intOf i + 1).toNat)
  case atStart => exact ⟨ns.length, none, 0, [], rfl, rfl, by omega, Lib.hid (OutI.start V3), Lib.hid (by simp)⟩
  case round =>
    obtain ⟨r, a8, c8, ys, rfl, rfl, hr, HO, HY⟩ := hrel
    have M4 := Lib.hid (M3.out.step HO.out.below)
    cases r with
    | succ j =>
      rw [show prevI (j + 1) = (j : Int) from rfl]
      have i1 : (j : Int) < (ns.length : Int) := by omega
      have i3 : (0 : Int) ≤ (j : Int) := by omega
      have i4 : decide ((0 : Int) ≤ (j : Int)) = true := decide_eq_true i3
      have i5 := prev_step j (by omega)
      obtain ⟨bb, off, eb, cN⟩ := ints_at14 M4.out.nums (by omega : j < ns.length)
      subst eb
      have hyl : ys.length ≤ 1000000 := by rw [HY.out, List.length_take, List.length_reverse]; omega
      have HN2 : Hid (ys ++ [numAt ns j] = ns.reverse.take (ns.length - j)) := Lib.hid (by rw [HY.out, ← rev_take (by omega)])
      generalize numAt ns j = n at *
      go_wp2_with (at_builtin; refine append_outI rfl _ _ rfl a8 c8 ys rfl HO.out n rfl hyl ?_)
      intro a7 c7 V7 ts hts' hO7
      have hts := hts'.out
      clear hts'
      have HO7 := Lib.hid hO7
      rw [← hts] at HN2
      clear hO7 hts
      go_wp2
      go_roundw
      case rel => exact ⟨j, a7, c7, ts, rfl, by first | rfl | rw [i5], by omega, HO7, HN2⟩
      case measure => cases j <;> simp [intOf, prevI] <;> omega
    | zero =>
      have hyr : ys = ns.reverse := by rw [HY.out, Nat.sub_zero, List.take_of_length_le (by rw [List.length_reverse]; omega)]
      have hyl : ys.length ≤ 1000 := by rw [hyr, List.length_reverse]; omega
      have hXb : addsX s P ys = 0 := by rw [hyr]; exact HBK.out.1
      have hLb : addsL s P ys = addsL s P ns := by rw [hyr]; exact HBK.out.2
      have haddb := HAdd.out wr a8 c8 ys M4.out.at14 HO.out.ints hyl
      rw [hXb, hLb] at haddb
      have Y4 := Lib.hid (Y3.out.step HO.out.below)
      obtain ⟨_, b0, b1⟩ := M4.out.at14.box
      clear hyr hyl hXb hLb HY
      go_upto_region 13 with (go_at_call 18; refine haddb.mono ?_; rintro e w6 ⟨za, zc, zb, zd, ZK, ZI, rfl, hiz, hlz, hsz, hz0, -, hb⟩; have VZ := Lib.hid (var_late hb hiz hlz); have SZ := Lib.hid (And.intro hsz (hz0 rfl)); clear hb hiz hlz hsz hz0)
      clear haddb
      generalize w6.alloc (.cells #[.slice za ZK.length zc, .slice zb ZI.length zd] IxT) = V6 at *
      generalize w6.heap.size = gz at *
      have M6 := Lib.hid (M4.out.step VZ.out.below)
      have Y6 := Lib.hid (Y4.out.step VZ.out.below)
      obtain ⟨y0, y1, _, _⟩ := two_cells14 Y6.out.obj
      obtain ⟨A, hA⟩ : ∃ A, addsL s P ns = A := ⟨_, rfl⟩
      have hAl : A.length ≤ 900000 := by rw [← hA, len_addsL]; have := HL.out; omega
      have hpy := rpairs_any ya yc YK yb yd YI 0 V6 Y6.out.ix.keys Y6.out.ix.ids (by have := Y6.out.small.1; omega) Y6.out.small.2.2
      rw [Y6.out.ok, Y6.out.val, hA] at hpy
      have HAL := Lib.hid hAl
      have HAe := Lib.hid hA
      clear hAl
      go_upto_region 14 with (go_at_call 9; refine hpy.mono ?_; rintro e w7 ⟨ma, mc, rfl, -, hm, hb⟩; have M7 := Lib.hid (M6.out.step hb); have Y7 := Lib.hid (Y6.out.step hb); have Z7 := Lib.hid (And.intro (old_obj hb VZ.out.obj) (VZ.out.ix.step hb)); have PM := Lib.hid hm; clear hb hm)
      clear hpy y0 y1
      obtain ⟨z0, z1, _, _⟩ := two_cells14 Z7.out.1
      have hsame := same14_true za zc zb zd ZK ZI ma mc A w7 Z7.out.2 PM.out (by have := SZ.out.1.1; omega) SZ.out.1.2.2 SZ.out.2.1 (SZ.out.2.2.trans hA) HAL.out
      clear hA
      go_upto_region 17 with (go_at_call 21; refine hsame.mono ?_; rintro e w8 ⟨rfl, hb⟩; have M8 := Lib.hid (M7.out.step hb); have Y8 := Lib.hid (Y7.out.step hb); clear hb)
      clear hsame z0 z1
      have Y8' : Hid (YV w8 gy ya yc yb yd YK YI (dropsL s (addsL s P ns) (ns.take 0))) := Lib.hid Y8.out
      go_loopw [17] (fun s17 wr => ∃ (k : Nat) (ya : Option Addr) (yc : Nat) (yb : Option Addr) (yd : Nat) (YK : List (List UInt8)) (YI : List (List Int)), s17 = .int .i64 k ∧ k ≤ ns.length ∧ Hid (Mid14 w wr ka kc ia ic K I pa P b ns) ∧ Hid (YV wr gy ya yc yb yd YK YI (dropsL s (addsL s P ns) (ns.take k)))) (fun i _ => ns.length + 1 - (intOf i).toNat)
      case atStart => exact ⟨0, ya, yc, yb, yd, YK, YI, rfl, by omega, M8, Y8'⟩
      case round =>
        obtain ⟨k, ya, yc, yb, yd, YK, YI, rfl, hk, M, Y⟩ := hrel
        by_cases hlt : k < ns.length
        · have i1 : (k : Int) < (ns.length : Int) := by omega
          have i3 : (0 : Int) ≤ (k : Int) := by omega
          obtain ⟨bb, off, eb, cN⟩ := ints_at14 M.out.nums hlt
          subst eb
          have hin := drops_in HADD.out hlt
          have hnx := dropsL_take hlt (s := s) (addsL s P ns)
          obtain ⟨n, hn⟩ : ∃ n, numAt ns k = n := ⟨_, rfl⟩
          rw [hn] at cN hin hnx
          clear hn
          obtain ⟨D, hD⟩ : ∃ D, dropsL s (addsL s P ns) (ns.take k) = D := ⟨_, rfl⟩
          rw [hD] at hin hnx Y
          obtain ⟨v1, v2⟩ := dropV_in hin
          have HDr : Hid (∀ W, Below wr.heap.size wr W → Calls Try.prog 19 #[ixVal ya yc yb yd YK YI, .string (tx s), .int .i64 n] W fun e w' => IxOut W e w' 0 (dropP D (s, n))) := Lib.hid fun W hW => by
            have := HDrop.out W ya yc yb yd YK YI n (Y.out.ix.step hW) Y.out.small
            rw [Y.out.ok, Y.out.val, v2] at this
            exact this
          have HNX := Lib.hid hnx
          have HNum : Hid (∀ V, Below wr.heap.size wr V → V.cell? ⟨bb, off + k, none⟩ = some (.int .i64 n)) := Lib.hid fun V hV => (hV.cell (p := ⟨bb, off + k, none⟩) (World.block_lt_of_cell? wr _ cN)).trans cN
          obtain ⟨x0, x1, _, _⟩ := two_cells14 Y.out.obj
          have hb1 := World.block_lt_of_cell? wr _ x0
          have hb2 := World.block_lt_of_cell? wr _ cN
          have m1 : ¬ (gy = wr.heap.size) := by simp at hb1; omega
          have m2 : ¬ (wr.heap.size = gy) := fun e => m1 e.symm
          have m3 : ¬ (bb = wr.heap.size) := by simp at hb2; omega
          have m4 : ¬ (wr.heap.size = bb) := fun e => m3 e.symm
          have HG : Hid (gy < wr.heap.size) := Lib.hid (by simp at hb1; exact hb1)
          clear hb1 hb2 hin hnx v1 v2 hD
          go_upto_region 19 with fail
          go_cut [18, 19] (fun s16 s17 wx => s17 = .int .i64 0 ∧ ∃ (g : Nat) (za : Option Addr) (zc : Nat) (zb : Option Addr) (zd : Nat) (ZK : List (List UInt8)) (ZI : List (List Int)), s16 = .pointer (some ⟨g, 0, none⟩) ∧ Hid (Var14 wr wx g za zc zb zd ZK ZI) ∧ Hid (Small14 ZK ZI ∧ pairsO ZK ZI = true ∧ pairsV ZK ZI = dropP D (s, n)))
          case first =>
            go_region_held3 (fun v => v.cell? ⟨gy, 0, none⟩ = some (.slice ya YK.length yc) ∧ v.cell? ⟨gy, 1, none⟩ = some (.slice yb YI.length yd) ∧ v.cell? ⟨bb, off + k, none⟩ = some (.int .i64 n)) (first | go_keep)
              (first
                | (go_at_call 19; refine (HDr.out wr.drew (Below.refl _ wr).drew).mono ?_; rintro e w5 ⟨za, zc, zb, zd, ZK, ZI, rfl, hiz, hlz, hsz, hz0, -, hb⟩; have hv := (Y.out.step ((Below.refl _ wr).drew.trans hb)).obj; obtain ⟨u0, u1, _, _⟩ := two_cells14 hv; have u2 := HNum.out _ ((Below.refl _ wr).drew.trans hb); have VZ := Lib.hid (And.intro ((Below.refl _ wr).drew.trans hb) (And.intro hiz hlz)); have SZ := Lib.hid (And.intro hsz (hz0 rfl)); clear hv hb hiz hlz hsz hz0)
                | (go_at_call 19; refine (HDr.out (wr.alloc (.cells #[.slice none 0 0, .slice none 0 0] IxT)).drew ((Below.refl _ wr).alloc (Nat.le_refl _) _).drew).mono ?_; rintro e w5 ⟨za, zc, zb, zd, ZK, ZI, rfl, hiz, hlz, hsz, hz0, -, hb⟩; have hv := (Y.out.step (((Below.refl _ wr).alloc (Nat.le_refl _) (.cells #[.slice none 0 0, .slice none 0 0] IxT)).drew.trans (hb.mono (by simp)))).obj; obtain ⟨u0, u1, _, _⟩ := two_cells14 hv; have u2 := HNum.out _ (((Below.refl _ wr).alloc (Nat.le_refl _) (.cells #[.slice none 0 0, .slice none 0 0] IxT)).drew.trans (hb.mono (by simp))); have hzz := old_obj hb (show (wr.alloc (.cells #[.slice none 0 0, .slice none 0 0] IxT)).drew.heap[wr.heap.size]? = _ from heap_alloc_new _ _); obtain ⟨z0, z1, z2, z3⟩ := two_cells14 hzz; have VZ := Lib.hid (And.intro hb (And.intro hiz hlz)); have SZ := Lib.hid (And.intro hsz (hz0 rfl)); clear hv hb hiz hlz hsz hz0 hzz))
            · go_wp2_with fail
              go_meet
              exact ⟨rfl, w5.heap.size, za, zc, zb, zd, ZK, ZI, rfl, Lib.hid (var_late VZ.out.1 VZ.out.2.1 VZ.out.2.2), SZ⟩
            · go_wp2_with fail
              go_meet
              exact ⟨rfl, wr.heap.size, za, zc, zb, zd, ZK, ZI, rfl, Lib.hid (var_early (v := wr) VZ.out.1 VZ.out.2.1 VZ.out.2.2), SZ⟩
          case rest =>
            obtain ⟨rfl, g, za, zc, zb, zd, ZK, ZI, rfl, VZ, SZ⟩ := hcut
            have MZ := Lib.hid (M.out.step VZ.out.below)
            have YZ := Lib.hid (Y.out.step VZ.out.below)
            obtain ⟨z0, z1, _, _⟩ := two_cells14 VZ.out.obj
            obtain ⟨x2, x3, f2, f3⟩ := two_cells14 YZ.out.obj
            have MP := Lib.hid (MZ.out.put HX0.out.1 HX0.out.2 HGY.out YZ.out.obj (.slice za ZK.length zc) (.slice zb ZI.length zd))
            have YP : Hid (YV ((wc.setCell ⟨gy, 0, none⟩ (.slice za ZK.length zc)).setCell ⟨gy, 1, none⟩ (.slice zb ZI.length zd)) gy za zc zb zd ZK ZI (dropsL s (addsL s P ns) (ns.take (k + 1)))) := Lib.hid ⟨two_stored14 YZ.out.obj _ _, VZ.out.ix.put VZ.out.lists HG.out YZ.out.obj _ _, SZ.out.1, SZ.out.2.1, by rw [SZ.out.2.2, HNX.out]⟩
            go_wp2
            go_roundw
            case rel => exact ⟨k + 1, za, zc, zb, zd, ZK, ZI, by first | rfl | go_num, by omega, MP, YP⟩
            case measure => first | (simp [intOf]; omega) | simp [intOf]
        · obtain rfl : k = ns.length := by omega
          have hend : dropsL s (addsL s P ns) (ns.take ns.length) = P := by rw [List.take_length]; exact drops_adds HSrt.out HADD.out
          have HSameY : Hid (Calls Try.prog 21 #[ixVal ya yc yb yd YK YI, .slice pa P.length pc] wr fun e w' => e = .returned (.bool true) ∧ Below wr.heap.size wr w') := Lib.hid (same14_true ya yc yb yd YK YI pa pc P wr Y.out.ix M.out.prs (by have := Y.out.small.1; omega) Y.out.small.2.2 Y.out.ok (Y.out.val.trans hend) (by have := HL.out; omega))
          obtain ⟨x2, x3, _, _⟩ := two_cells14 Y.out.obj
          clear hend
          go_upto_region 23 with fail
          go_wp2_with (first
            | (go_at_call 21; refine HSameY.out.mono ?_; rintro e w9 ⟨rfl, hb⟩; have M9 := Lib.hid (M.out.step hb); obtain ⟨_, j0, j1⟩ := M9.out.at14.box; clear hb HSameY)
            | (go_at_call 21; refine (HSameX.out _ _ _ M9.out.at14 M9.out.prs).mono ?_; rintro e w10 ⟨rfl, hb⟩; have M10 := Lib.hid (M9.out.step hb); clear hb)
            | (go_at_call 8; refine (HW.out _).mono ?_; rintro e w11 ⟨rfl, hb⟩; have B11 := Lib.hid (M10.out.at14.below.trans (hb.mono M10.out.at14.below.size)); clear hb))
          go_ret
          exact ⟨rfl, B11.out⟩
set_option maxHeartbeats 4000000 in
theorem indexTurns_all (H : Index14) (HA : Wakes14) (w : World) (ka : Option Addr) (kc : Nat) (ia : Option Addr) (ic : Nat) (K : List (List UInt8)) (I : List (List Int)) (hx : IxV w ka kc ia ic K I) (s : List UInt8) (b : Option Addr) (bc : Nat) (ns : List Int) (hi : Ints w.heap.size w b ns) :
    Calls Try.prog 5 #[ixVal ka kc ia ic K I, .string (tx s), .slice b ns.length bc] w fun e w' => e = .returned (.bool true) ∧ Below w.heap.size w w' := by
  have HW := Lib.hid HA
  have A0 := At14.start hx
  have HF := Lib.hid (few14_any ka kc ia ic K I _ A0.ix)
  have HB := Lib.hid A0
  obtain ⟨_, c0, c1⟩ := A0.box
  clear A0
  by_cases hfew : ¬ fewX K I = true
  · rw [Bool.not_eq_true] at hfew
    rw [hfew] at HF
    clear hfew hx hi
    go_enter Try.func5, Try.ntmps5
    go_wp2_with (first
      | (go_at_call 7; refine HF.out.mono ?_; rintro e w1 ⟨rfl, hb⟩; have B1 := Lib.hid (HB.out.step hb); obtain ⟨_, f0, f1⟩ := B1.out.box; clear hb)
      | (go_at_call 8; refine (HW.out _).mono ?_; rintro e w2 ⟨rfl, hb⟩; have B2 := Lib.hid (B1.out.below.trans (hb.mono B1.out.below.size)); clear hb))
    go_ret
    exact ⟨rfl, B2.out⟩
  have hfew := Decidable.not_not.1 hfew
  rw [hfew] at HF
  by_cases hs : 100 < (tx s).size
  · have e1 : decide (100 < ((tx s).size : Int)) = true := decide_eq_true (by omega)
    have e1' : decide (100 < (tx s).size) = true := decide_eq_true hs
    clear hfew hs hx hi
    go_enter Try.func5, Try.ntmps5
    go_wp2_with (first
      | (go_at_call 7; refine HF.out.mono ?_; rintro e w1 ⟨rfl, hb⟩; have B1 := Lib.hid (HB.out.step hb); obtain ⟨_, f0, f1⟩ := B1.out.box; clear hb)
      | (go_at_call 8; refine (HW.out _).mono ?_; rintro e w2 ⟨rfl, hb⟩; have B2 := Lib.hid (B1.out.below.trans (hb.mono B1.out.below.size)); clear hb))
    go_ret
    exact ⟨rfl, B2.out⟩
  by_cases hn : 20 < ns.length
  · have e1 : decide (100 < ((tx s).size : Int)) = false := decide_eq_false (by omega)
    have e1' : decide (100 < (tx s).size) = false := decide_eq_false hs
    have e2 : decide (20 < (ns.length : Int)) = true := decide_eq_true (by omega)
    have e2' : decide (20 < ns.length) = true := decide_eq_true hn
    clear hfew hs hx hn hi
    go_enter Try.func5, Try.ntmps5
    go_wp2_with (first
      | (go_at_call 7; refine HF.out.mono ?_; rintro e w1 ⟨rfl, hb⟩; have B1 := Lib.hid (HB.out.step hb); obtain ⟨_, f0, f1⟩ := B1.out.box; clear hb)
      | (go_at_call 8; refine (HW.out _).mono ?_; rintro e w2 ⟨rfl, hb⟩; have B2 := Lib.hid (B1.out.below.trans (hb.mono B1.out.below.size)); clear hb))
    go_ret
    exact ⟨rfl, B2.out⟩
  by_cases hok : ¬ pairsO K I = true
  · have hsm := few_small hfew
    rw [Bool.not_eq_true] at hok
    have HC : Hid (∀ W, At14 w W ka kc ia ic K I → Calls Try.prog 10 #[ixVal ka kc ia ic K I] W fun e w' => e = .returned (.int .i64 40) ∧ Below W.heap.size W w') := Lib.hid fun W hW => by
      have := H.check ka kc ia ic K I W hW.ix hsm
      rw [hok] at this
      exact this
    have e1 : decide (100 < ((tx s).size : Int)) = false := decide_eq_false (by omega)
    have e1' : decide (100 < (tx s).size) = false := decide_eq_false hs
    have e2 : decide (20 < (ns.length : Int)) = false := decide_eq_false (by omega)
    have e2' : decide (20 < ns.length) = false := decide_eq_false hn
    clear hn
    clear hfew hs hx hok hsm hi
    go_enter Try.func5, Try.ntmps5
    go_wp2_with (first
      | (go_at_call 7; refine HF.out.mono ?_; rintro e w1 ⟨rfl, hb⟩; have B1 := Lib.hid (HB.out.step hb); obtain ⟨_, f0, f1⟩ := B1.out.box; clear hb)
      | (go_at_call 10; refine (HC.out _ B1.out).mono ?_; rintro e w2 ⟨rfl, hb⟩; have B2 := Lib.hid (B1.out.step hb); clear hb)
      | (go_at_call 8; refine (HW.out _).mono ?_; rintro e w3 ⟨rfl, hb⟩; have B3 := Lib.hid (B2.out.below.trans (hb.mono B2.out.below.size)); clear hb))
    go_ret
    exact ⟨rfl, B3.out⟩
  exact indexTurns_main H HA w ka kc ia ic K I hx s b bc ns hi hfew hs (by omega) (Decidable.not_not.1 hok)
end Go.Proofs.Ytnbmccfaomhppaa
