/- The walk of IndexAdds from what is wanted of the program's index. -/
import Derived.Test.YtnbmccfaomhppaaWant14
import Derived.Deep.CutBlock
import Derived.Deep.DeepCutAuto
namespace Go.Proofs.Ytnbmccfaomhppaa
open Go.RowKit

abbrev IxT : TypeId := 25
theorem two_cells14 {w : World} {g : Nat} {x y : Value} {t : TypeId} (h : w.heap[g]? = some (.cells #[x, y] t (0, 0))) :
    w.cell? ⟨g, 0, none⟩ = some x ∧ w.cell? ⟨g, 1, none⟩ = some y ∧ w.frozen? ⟨g, 0, none⟩ = false ∧ w.frozen? ⟨g, 1, none⟩ = false :=
  ⟨cell_of (j := 0) h rfl, cell_of (j := 1) h rfl, frozen_of_row w g 0 _ _ h, frozen_of_row w g 1 _ _ h⟩
theorem two_stored14 {w : World} {g : Nat} {x y : Value} {t : TypeId} (h : w.heap[g]? = some (.cells #[x, y] t (0, 0))) (x' y' : Value) :
    ((w.setCell ⟨g, 0, none⟩ x').setCell ⟨g, 1, none⟩ y').heap[g]? = some (.cells #[x', y'] t (0, 0)) := heap_setCell_same _ g 1 _ t y' (heap_setCell_same w g 0 _ t x' h)
theorem two_below14 {B : Nat} {w w' : World} (h : Below B w w') {g : Nat} (hg : B ≤ g) (x y : Value) : Below B w ((w'.setCell ⟨g, 0, none⟩ x).setCell ⟨g, 1, none⟩ y) :=
  (h.setCell (p := ⟨g, 0, none⟩) hg x).setCell (p := ⟨g, 1, none⟩) hg y
theorem cell_off {w : World} {g b o : Nat} (x y : Value) (h : b ≠ g) : ((w.setCell ⟨g, 0, none⟩ x).setCell ⟨g, 1, none⟩ y).cell? ⟨b, o, none⟩ = w.cell? ⟨b, o, none⟩ := by
  rw [World.cell?_setCell_other _ ⟨g, 1, none⟩ ⟨b, o, none⟩ y (fun e => h (by injection e with e1; exact e1.symm)), World.cell?_setCell_other _ ⟨g, 0, none⟩ ⟨b, o, none⟩ x (fun e => h (by injection e with e1; exact e1.symm))]
/-- A block of two slices holds no text and no number. -/
theorem not_there {w : World} {g : Nat} {a1 a2 : Option Addr} {n1 n2 c1 c2 : Nat} {t : TypeId} (hg : w.heap[g]? = some (.cells #[.slice a1 n1 c1, .slice a2 n2 c2] t (0, 0))) {b o : Nat} {u : Value} (hc : w.cell? ⟨b, o, none⟩ = some u) (hu : ∀ a n c, u ≠ .slice a n c) : b ≠ g := by
  rintro rfl
  unfold World.cell? at hc
  rw [hg] at hc
  match o with
  | 0 => simp at hc; exact hu _ _ _ hc.symm
  | 1 => simp at hc; exact hu _ _ _ hc.symm
  | o + 2 => simp at hc
theorem Lists.put {W : World} {ia : Option Addr} {I : List (List Int)} {A g : Nat} {a1 a2 : Option Addr} {n1 n2 c1 c2 : Nat} {t : TypeId} (hn : Lists A W.heap.size W ia I) (hA : g < A) (hg : W.heap[g]? = some (.cells #[.slice a1 n1 c1, .slice a2 n2 c2] t (0, 0))) (x y : Value) :
    Lists A ((W.setCell ⟨g, 0, none⟩ x).setCell ⟨g, 1, none⟩ y).heap.size ((W.setCell ⟨g, 0, none⟩ x).setCell ⟨g, 1, none⟩ y) ia I := by
  have hs : ((W.setCell ⟨g, 0, none⟩ x).setCell ⟨g, 1, none⟩ y).heap.size = W.heap.size := by rw [World.size_setCell, World.size_setCell]
  rcases hn with e | ⟨b, off, ea, h1, h2, hc⟩
  · exact Or.inl e
  · refine Or.inr ⟨b, off, ea, h1, by rw [hs]; exact h2, fun j hj => ?_⟩
    obtain ⟨aj, cj, q1, q2, q3⟩ := hc j hj
    refine ⟨aj, cj, by rw [cell_off x y (by omega)]; exact q1, q2, ?_⟩
    rcases q3 with e | ⟨b', off', ea', h3, hc'⟩
    · exact Or.inl e
    · refine Or.inr ⟨b', off', ea', by rw [hs]; exact h3, fun i hi => ?_⟩
      rw [cell_off x y (not_there hg (hc' i hi) (fun _ _ _ e => by cases e))]
      exact hc' i hi
/-- An index whose lists lie in newer blocks stays, where a variable of two slices is written. -/
theorem IxV.put {W : World} {ka : Option Addr} {kc : Nat} {ia : Option Addr} {ic : Nat} {K : List (List UInt8)} {I : List (List Int)} {A g : Nat} {a1 a2 : Option Addr} {n1 n2 c1 c2 : Nat} {t : TypeId} (h : IxV W ka kc ia ic K I) (hn : Lists A W.heap.size W ia I) (hA : g < A)
    (hg : W.heap[g]? = some (.cells #[.slice a1 n1 c1, .slice a2 n2 c2] t (0, 0))) (x y : Value) : IxV ((W.setCell ⟨g, 0, none⟩ x).setCell ⟨g, 1, none⟩ y) ka kc ia ic K I := by
  have hs : ((W.setCell ⟨g, 0, none⟩ x).setCell ⟨g, 1, none⟩ y).heap.size = W.heap.size := by rw [World.size_setCell, World.size_setCell]
  refine ⟨?_, (hn.put hA hg x y).wide (Nat.zero_le _) (Nat.le_refl _), h.kcap, h.icap⟩
  rcases h.keys with e | ⟨b, off, ea, h1, h2, hc⟩
  · exact Or.inl e
  · refine Or.inr ⟨b, off, ea, h1, by rw [hs]; exact h2, fun j hj => ?_⟩
    rw [cell_off x y (not_there hg (hc j hj) (fun _ _ _ e => by cases e))]
    exact hc j hj
/-- A variable that holds an index, made since a world. -/
structure Var14 (v wx : World) (g : Nat) (ka : Option Addr) (kc : Nat) (ia : Option Addr) (ic : Nat) (K : List (List UInt8)) (I : List (List Int)) : Prop where
  below : Below v.heap.size v wx
  new : v.heap.size ≤ g
  obj : wx.heap[g]? = some (.cells #[.slice ka K.length kc, .slice ia I.length ic] IxT (0, 0))
  ix : IxV wx ka kc ia ic K I
  lists : Lists v.heap.size wx.heap.size wx ia I
theorem var_late {v w1 : World} {ka : Option Addr} {kc : Nat} {ia : Option Addr} {ic : Nat} {K : List (List UInt8)} {I : List (List Int)} (b1 : Below v.heap.size v w1) (h : IxV w1 ka kc ia ic K I) (hn : Lists v.heap.size w1.heap.size w1 ia I) : Var14 v (w1.alloc (.cells #[.slice ka K.length kc, .slice ia I.length ic] IxT)) w1.heap.size ka kc ia ic K I :=
  ⟨b1.alloc b1.size _, b1.size, heap_alloc_new _ _, h.step ((Below.refl _ w1).alloc (Nat.le_refl _) _), hn.step ((Below.refl _ w1).alloc (Nat.le_refl _) _)⟩
theorem var_early {v w1 : World} {ka : Option Addr} {kc : Nat} {ia : Option Addr} {ic : Nat} {K : List (List UInt8)} {I : List (List Int)} {a1 a2 : Option Addr} {n1 n2 c1 c2 : Nat} (b1 : Below (v.alloc (.cells #[.slice a1 n1 c1, .slice a2 n2 c2] IxT)).drew.heap.size (v.alloc (.cells #[.slice a1 n1 c1, .slice a2 n2 c2] IxT)).drew w1) (h : IxV w1 ka kc ia ic K I)
    (hn : Lists (v.alloc (.cells #[.slice a1 n1 c1, .slice a2 n2 c2] IxT)).drew.heap.size w1.heap.size w1 ia I) : Var14 v ((w1.setCell ⟨v.heap.size, 0, none⟩ (.slice ka K.length kc)).setCell ⟨v.heap.size, 1, none⟩ (.slice ia I.length ic)) v.heap.size ka kc ia ic K I := by
  have h0 := ((Below.refl v.heap.size v).alloc (Nat.le_refl _) (.cells #[.slice a1 n1 c1, .slice a2 n2 c2] IxT)).drew
  have hb := h0.trans (b1.mono h0.size)
  have hz : w1.heap[v.heap.size]? = some (.cells #[.slice a1 n1 c1, .slice a2 n2 c2] IxT (0, 0)) := old_obj b1 (show (v.alloc (.cells #[.slice a1 n1 c1, .slice a2 n2 c2] IxT)).drew.heap[v.heap.size]? = _ from heap_alloc_new _ _)
  have hlt : v.heap.size < (v.alloc (.cells #[.slice a1 n1 c1, .slice a2 n2 c2] IxT)).drew.heap.size := by
    show v.heap.size < (v.alloc (.cells #[.slice a1 n1 c1, .slice a2 n2 c2] IxT)).heap.size
    simp
  exact ⟨two_below14 hb (Nat.le_refl _) _ _, Nat.le_refl _, two_stored14 hz _ _, h.put hn hlt hz _ _, (hn.put hlt hz _ _).wide (by omega) (Nat.le_refl _)⟩
/-- The walk's middle: the boxed index, the pairs, the numbers. -/
structure Mid14 (w W : World) (ka : Option Addr) (kc : Nat) (ia : Option Addr) (ic : Nat) (K : List (List UInt8)) (I : List (List Int)) (pa : Option Addr) (P : List Pr) (b : Option Addr) (ns : List Int) : Prop where
  at14 : At14 w W ka kc ia ic K I
  prs : Prs 0 W.heap.size W pa P
  nums : Ints W.heap.size W b ns
theorem Mid14.step {w W V : World} {ka : Option Addr} {kc : Nat} {ia : Option Addr} {ic : Nat} {K : List (List UInt8)} {I : List (List Int)} {pa : Option Addr} {P : List Pr} {b : Option Addr} {ns : List Int} (h : Mid14 w W ka kc ia ic K I pa P b ns) (hb : Below W.heap.size W V) : Mid14 w V ka kc ia ic K I pa P b ns :=
  ⟨h.at14.step hb, h.prs.step hb, h.nums.step hb⟩
theorem ints_at14 {B : Nat} {w : World} {a : Option Addr} {xs : List Int} (h : Ints B w a xs) {k : Nat} (hk : k < xs.length) : ∃ b off, a = some ⟨b, off, none⟩ ∧ w.cell? ⟨b, off + k, none⟩ = some (.int .i64 (numAt xs k)) := by
  rcases h with h | ⟨b, off, ha, _, hc⟩
  · subst h; simp at hk
  · exact ⟨b, off, ha, hc k hk⟩
theorem below_drew {w W : World} (h : Below w.heap.size w W) : Below w.heap.size w W.drew := h.drew
set_option maxRecDepth 100000 in
set_option maxHeartbeats 8000000 in
theorem indexAdds_main (H : Index14) (HA : Wakes14) (w : World) (ka : Option Addr) (kc : Nat) (ia : Option Addr) (ic : Nat) (K : List (List UInt8)) (I : List (List Int)) (hx : IxV w ka kc ia ic K I) (s : List UInt8) (b : Option Addr) (bc : Nat) (ns : List Int) (hi : Ints w.heap.size w b ns) (hfew : fewX K I = true) (hs : ¬ 100 < (tx s).size) (hn : ns.length ≤ 50) :
    Calls Try.prog 4 #[ixVal ka kc ia ic K I, .string (tx s), .slice b ns.length bc] w fun e w' => e = .returned (.bool true) ∧ Below w.heap.size w w' := by
  have HW := Lib.hid HA
  have A0 := At14.start hx
  have HF := Lib.hid (few14_any ka kc ia ic K I _ A0.ix)
  rw [hfew] at HF
  have HB := Lib.hid A0
  have HI := Lib.hid (hi.step A0.below)
  obtain ⟨_, c0, c1⟩ := A0.box
  clear hx A0 hi
  have e1 : decide (100 < ((tx s).size : Int)) = false := decide_eq_false (by omega)
  have e1' : decide (100 < (tx s).size) = false := decide_eq_false hs
  have e2 : decide (50 < (ns.length : Int)) = false := decide_eq_false (by omega)
  have e2' : decide (50 < ns.length) = false := decide_eq_false (by omega)
  have hsm := few_small hfew
  have HP : Hid (∀ W, At14 w W ka kc ia ic K I → Calls Try.prog 9 #[.slice ka K.length kc, .slice ia I.length ic] W fun e w' => ∃ a' c', e = .returned (.tuple #[.slice a' (pairsV K I).length c', .bool (pairsO K I)]) ∧ (pairsV K I).length ≤ c' ∧ Prs 0 w'.heap.size w' a' (pairsV K I) ∧ Below W.heap.size W w') := Lib.hid fun W hW => rpairs_any ka kc K ia ic I 0 W hW.ix.keys hW.ix.ids (by have := hsm.1; omega) hsm.2.2
  have HAdd : Hid (∀ W, At14 w W ka kc ia ic K I → Ints W.heap.size W b ns → Calls Try.prog 18 #[ixVal ka kc ia ic K I, .string (tx s), .slice b ns.length bc] W fun e w' => IxOut W e w' (okE (pairsO K I) (addsX s (pairsV K I) ns)) (addsL s (pairsV K I) ns)) := Lib.hid fun W hW hi => H.add ka kc ia ic K I s b bc ns W hW.ix hsm hi (by omega)
  have HDrop : Hid (∀ W n, At14 w W ka kc ia ic K I → Calls Try.prog 19 #[ixVal ka kc ia ic K I, .string (tx s), .int .i64 n] W fun e w' => IxOut W e w' (okE (pairsO K I) (dropE (pairsV K I) (s, n))) (dropP (pairsV K I) (s, n))) := Lib.hid fun W n hW => H.drop ka kc ia ic K I s n W hW.ix hsm
  have hpl : (pairsV K I).length ≤ 600000 := by
    by_cases h : fineK K I
    · rw [(pairs_fine h).1, len_pairsK h.2.1]; exact hsm.2.2
    · rw [(pairs_bad h).1]; simp
  have HL := Lib.hid hpl
  clear hfew hs hsm hpl H
  generalize pairsV K I = P at *
  cases hok : pairsO K I with
  | false =>
    rw [hok] at HP HAdd HDrop
    have o1 : ∀ E, okE false E = 40 := fun _ => rfl
    simp only [o1] at HAdd HDrop
    clear hok o1
    go_enter Try.func4, Try.ntmps4
    go_upto_region 5 with (first
      | (go_at_call 7; refine HF.out.mono ?_; rintro e w1 ⟨rfl, hb⟩; have B1 := Lib.hid (HB.out.step hb); have I1 := Lib.hid (HI.out.step hb); obtain ⟨_, f0, f1⟩ := B1.out.box; clear hb)
      | (go_at_call 9; refine (HP.out _ B1.out).mono ?_; rintro e w2 ⟨pa, pc, rfl, _, hp, hb⟩; have B2 := Lib.hid (B1.out.step hb); have I2 := Lib.hid (I1.out.step hb); obtain ⟨_, g0, g1⟩ := B2.out.box; clear hb hp)
      | (go_at_call 18; refine (HAdd.out _ B2.out I2.out).mono ?_; rintro e w3 ⟨ya, yc, yb, yd, YK, YI, rfl, -, -, -, -, -, hb⟩; have B3 := Lib.hid ((B2.out.step hb).step ((Below.refl _ w3).alloc (Nat.le_refl _) (.cells #[.slice ya YK.length yc, .slice yb YI.length yd] IxT))); clear hb))
    generalize w3.alloc (.cells #[.slice ya YK.length yc, .slice yb YI.length yd] IxT) = V3 at *
    obtain ⟨_, h0, h1⟩ := B3.out.box
    go_wp2_with (first
      | (go_at_call 19; refine (HDrop.out _ 1 B3.out).mono ?_; rintro e w4 ⟨za, zc, zb, zd, ZK, ZI, rfl, -, -, -, -, -, hb⟩; have B4 := Lib.hid (B3.out.below.trans ((hb.alloc hb.size (.cells #[.slice za ZK.length zc, .slice zb ZI.length zd] IxT)).mono B3.out.below.size)); clear hb)
      | (go_at_call 8; refine (HW.out _).mono ?_; rintro e w5 ⟨rfl, hb⟩; have B5 := Lib.hid (B4.out.trans (hb.mono B4.out.size)); clear hb))
    go_ret
    exact ⟨rfl, B5.out⟩
  | true =>
    rw [hok] at HP HAdd HDrop
    have o1 : ∀ E, okE true E = E := fun _ => rfl
    simp only [o1] at HAdd HDrop
    have RA : Hid (∀ (W : World) (a : Option Addr) (c : Nat), P.length ≤ c → Prs 0 W.heap.size W a P → Ints W.heap.size W b ns → Calls Try.prog 20 #[.slice a P.length c, .string (tx s), .slice b ns.length bc] W fun e w' => ∃ a' c', e = .returned (.tuple #[.slice a' (addsV s P ns).length c', .int .i64 (addsX s P ns)]) ∧ Prs 0 w'.heap.size w' a' (addsV s P ns) ∧ Below W.heap.size W w') := Lib.hid fun W a c hc h hi => radds14_any a c P s b bc ns 0 W hc h hi (by have := HL.out; omega) (by omega)
    have RD : Hid (∀ (W : World) (a : Option Addr) (c : Nat) (n : Int), Prs 0 W.heap.size W a P → Calls Try.prog 22 #[.slice a P.length c, .string (tx s), .int .i64 n] W fun e w' => ∃ a' c', e = .returned (.tuple #[.slice a' (dropV P (s, n)).length c', .int .i64 (dropE P (s, n))]) ∧ Prs 0 w'.heap.size w' a' (dropV P (s, n)) ∧ Below W.heap.size W w') := Lib.hid fun W a c n h => rdrop14_any a c P s n 0 W h (by have := HL.out; omega)
    clear hok o1
    go_enter Try.func4, Try.ntmps4
    go_upto_region 5 with (first
      | (go_at_call 7; refine HF.out.mono ?_; rintro e w1 ⟨rfl, hb⟩; have B1 := Lib.hid (HB.out.step hb); have I1 := Lib.hid (HI.out.step hb); obtain ⟨_, f0, f1⟩ := B1.out.box; clear hb)
      | (go_at_call 9; refine (HP.out _ B1.out).mono ?_; rintro e w2 ⟨pa, pc, rfl, hpc, hp, hb⟩; have HPC := Lib.hid hpc; have M2 : Hid (Mid14 w w2 ka kc ia ic K I pa P b ns) := Lib.hid ⟨B1.out.step hb, hp, I1.out.step hb⟩; obtain ⟨_, g0, g1⟩ := M2.out.at14.box; clear hb hp hpc)
      | (go_at_call 18; refine (HAdd.out _ M2.out.at14 M2.out.nums).mono ?_; rintro e w3 ⟨ya, yc, yb, yd, YK, YI, rfl, hiy, hly, hsy, hy0, hy1, hb⟩; have VY := Lib.hid (var_late hb hiy hly); have SY := Lib.hid (And.intro hsy (And.intro hy0 hy1)); clear hb hiy hly hsy hy0 hy1))
    generalize w3.alloc (.cells #[.slice ya YK.length yc, .slice yb YI.length yd] IxT) = V3 at *
    generalize w3.heap.size = gy at *
    have M3 := Lib.hid (M2.out.step VY.out.below)
    go_upto_region 9 with (go_at_call 20; refine (RA.out _ _ _ HPC.out M3.out.prs M3.out.nums).mono ?_; rintro e w4 ⟨ma, mc, rfl, hm, hb⟩; have M4 := Lib.hid (M3.out.step hb); have PM := Lib.hid hm; have Y4 := Lib.hid (And.intro (old_obj hb VY.out.obj) (VY.out.ix.step hb)); clear hb hm)
    obtain ⟨y0, y1, _, _⟩ := two_cells14 Y4.out.1
    obtain ⟨X, hX⟩ : ∃ X, addsX s P ns = X := ⟨_, rfl⟩
    rw [hX]
    go_cut [95] (fun v wx => v = .bool false ∧ Hid (Mid14 w wx ka kc ia ic K I pa P b ns))
    case first =>
      by_cases h0 : X = 0
      · have d1 : (X == 0) = true := by rw [h0]; rfl
        have d2 : (X != 0) = false := by rw [h0]; rfl
        have hV : addsV s P ns = addsL s P ns := by unfold addsV; rw [hX, if_pos h0]
        obtain ⟨q1, q2⟩ := SY.out.2.1 (hX.trans h0)
        have hq3 : (addsL s P ns).length ≤ 900000 := by rw [len_addsL]; have := HL.out; omega
        have hsame := same14_true ya yc yb yd YK YI ma mc (addsL s P ns) w4 Y4.out.2 (by rw [← hV]; exact PM.out) (by have := SY.out.1.1; omega) SY.out.1.2.2 q1 q2 hq3
        rw [← hV] at hsame
        clear h0 hV q1 q2 hq3
        go_wp2_with (go_at_call 21; refine hsame.mono ?_; rintro e w5 ⟨rfl, hb⟩; have M5 := Lib.hid (M4.out.step hb); clear hb)
        go_meet
        exact ⟨rfl, M5⟩
      · have d1 : (X == 0) = false := beq_eq_false_iff_ne.2 h0
        have d2 : (X != 0) = true := by rw [bne_iff_ne]; exact h0
        have hK : YK = [] := SY.out.2.2 (by rw [hX]; exact h0)
        subst hK
        clear h0
        go_wp2
        go_meet
        exact ⟨rfl, M4⟩
    case rest =>
      obtain ⟨rfl, M6⟩ := hcut
      have hdl : ∀ p, (dropP P p).length ≤ 900000 := fun p => by have := drop_len P p; have := HL.out; omega
      have HDL := Lib.hid hdl
      clear y0 y1 hdl SY Y4 PM HPC HAdd RA HP HF hX
      go_upto_region 12 with fail
      go_loopw [15] (fun s15 wr => ∃ (k : Nat), s15 = .int .i64 k ∧ k ≤ ns.length ∧ Hid (Mid14 w wr ka kc ia ic K I pa P b ns)) (fun i _ => ns.length + 1 - (intOf i).toNat)
      case atStart => exact ⟨0, rfl, by omega, M6⟩
      case round =>
        obtain ⟨k, rfl, hk, M⟩ := hrel
        by_cases hlt : k < ns.length
        · have i1 : (k : Int) < (ns.length : Int) := by omega
          have i3 : (0 : Int) ≤ (k : Int) := by omega
          obtain ⟨bb, off, eb, cN⟩ := ints_at14 M.out.nums hlt
          obtain ⟨_, x0, x1⟩ := M.out.at14.box
          subst eb
          obtain ⟨n, hn⟩ : ∃ n, numAt ns k = n := ⟨_, rfl⟩
          rw [hn] at cN
          clear hn
          have HNum : Hid (∀ V, Below wr.heap.size wr V → V.cell? ⟨bb, off + k, none⟩ = some (.int .i64 n)) := Lib.hid fun V hV => (hV.cell (p := ⟨bb, off + k, none⟩) (World.block_lt_of_cell? wr _ cN)).trans cN
          have hb1 := World.block_lt_of_cell? wr _ x0
          have hb2 := World.block_lt_of_cell? wr _ cN
          have m1 : ¬ (w.heap.size = wr.heap.size) := by simp at hb1; omega
          have m2 : ¬ (wr.heap.size = w.heap.size) := fun e => m1 e.symm
          have m3 : ¬ (bb = wr.heap.size) := by simp at hb2; omega
          have m4 : ¬ (wr.heap.size = bb) := fun e => m3 e.symm
          clear hb1 hb2
          go_upto_region 14 with fail
          go_cut [16, 17] (fun s16 s17 wx => s17 = .int .i64 (dropE P (s, n)) ∧ ∃ (g : Nat) (za : Option Addr) (zc : Nat) (zb : Option Addr) (zd : Nat) (ZK : List (List UInt8)) (ZI : List (List Int)), s16 = .pointer (some ⟨g, 0, none⟩) ∧ Hid (Var14 wr wx g za zc zb zd ZK ZI) ∧ Hid (Small14 ZK ZI ∧ (dropE P (s, n) = 0 → pairsO ZK ZI = true ∧ pairsV ZK ZI = dropP P (s, n))))
          case first =>
            go_region_held3 (fun v => v.cell? ⟨w.heap.size, 0, none⟩ = some (.slice ka K.length kc) ∧ v.cell? ⟨w.heap.size, 1, none⟩ = some (.slice ia I.length ic) ∧ v.cell? ⟨bb, off + k, none⟩ = some (.int .i64 n)) (first | go_keep)
              (first
                | (go_at_call 19; refine (HDrop.out wr.drew n (M.out.step (Below.refl _ wr).drew).at14).mono ?_; rintro e w5 ⟨za, zc, zb, zd, ZK, ZI, rfl, hiz, hlz, hsz, hz0, -, hb⟩; have hv := (M.out.step ((Below.refl _ wr).drew.trans hb)).at14.box; obtain ⟨_, u0, u1⟩ := hv; have u2 := HNum.out _ ((Below.refl _ wr).drew.trans hb); have VZ := Lib.hid (And.intro ((Below.refl _ wr).drew.trans hb) (And.intro hiz hlz)); have SZ := Lib.hid (And.intro hsz hz0); clear hb hiz hlz hsz hz0)
                | (go_at_call 19; refine (HDrop.out (wr.alloc (.cells #[.slice none 0 0, .slice none 0 0] IxT)).drew n (M.out.step ((Below.refl _ wr).alloc (Nat.le_refl _) _).drew).at14).mono ?_; rintro e w5 ⟨za, zc, zb, zd, ZK, ZI, rfl, hiz, hlz, hsz, hz0, -, hb⟩; have hv := (M.out.step (((Below.refl _ wr).alloc (Nat.le_refl _) (.cells #[.slice none 0 0, .slice none 0 0] IxT)).drew.trans (hb.mono (by simp)))).at14.box; obtain ⟨_, u0, u1⟩ := hv; have u2 := HNum.out _ (((Below.refl _ wr).alloc (Nat.le_refl _) (.cells #[.slice none 0 0, .slice none 0 0] IxT)).drew.trans (hb.mono (by simp))); have hzz := old_obj hb (show (wr.alloc (.cells #[.slice none 0 0, .slice none 0 0] IxT)).drew.heap[wr.heap.size]? = _ from heap_alloc_new _ _); obtain ⟨z0, z1, z2, z3⟩ := two_cells14 hzz; have VZ := Lib.hid (And.intro hb (And.intro hiz hlz)); have SZ := Lib.hid (And.intro hsz hz0); clear hb hiz hlz hsz hz0 hzz))
            · go_wp2_with fail
              go_meet
              exact ⟨rfl, w5.heap.size, za, zc, zb, zd, ZK, ZI, rfl, Lib.hid (var_late VZ.out.1 VZ.out.2.1 VZ.out.2.2), SZ⟩
            · go_wp2_with fail
              go_meet
              exact ⟨rfl, wr.heap.size, za, zc, zb, zd, ZK, ZI, rfl, Lib.hid (var_early (v := wr) VZ.out.1 VZ.out.2.1 VZ.out.2.2), SZ⟩
          case rest =>
            obtain ⟨rfl, g, za, zc, zb, zd, ZK, ZI, rfl, VZ, SZ⟩ := hcut
            have M7 := Lib.hid (M.out.step VZ.out.below)
            have cN7 := HNum.out _ VZ.out.below
            obtain ⟨z0, z1, _, _⟩ := two_cells14 VZ.out.obj
            go_upto_region 16 with (go_at_call 22; refine (RD.out _ _ _ n M7.out.prs).mono ?_; rintro e w6 ⟨na, nc, rfl, hnp, hb⟩; have M8 := Lib.hid (M7.out.step hb); have NP := Lib.hid hnp; have Z8 := Lib.hid (And.intro (old_obj hb VZ.out.obj) (VZ.out.ix.step hb)); clear hb hnp)
            obtain ⟨y0, y1, _, _⟩ := two_cells14 Z8.out.1
            by_cases hin : (s, n) ∈ P
            · obtain ⟨v1, v2⟩ := dropV_in hin
              obtain ⟨q1, q2⟩ := SZ.out.2 v2
              have hsame := same14_true za zc zb zd ZK ZI na nc (dropP P (s, n)) w6 Z8.out.2 (by rw [← v1]; exact NP.out) (by have := SZ.out.1.1; omega) SZ.out.1.2.2 q1 q2 (HDL.out _)
              rw [← v1] at hsame
              rw [v2]
              clear hin v1 q1 q2
              go_wp2_with (go_at_call 21; refine hsame.mono ?_; rintro e w7 ⟨rfl, hb⟩; have M9 := Lib.hid (M8.out.step hb); clear hb)
              go_roundw
              case rel => exact ⟨k + 1, by first | rfl | go_num, by omega, M9⟩
              case measure => first | (simp [intOf]; omega) | simp [intOf]
            · obtain ⟨v1, v2⟩ := dropV_out hin
              rw [v2]
              clear hin v1 v2
              go_wp2
              go_roundw
              case rel => exact ⟨k + 1, by first | rfl | go_num, by omega, M8⟩
              case measure => first | (simp [intOf]; omega) | simp [intOf]
        · obtain rfl : k = ns.length := by omega
          go_wp2_with (go_at_call 8; refine (HW.out _).mono ?_; rintro e w9 ⟨rfl, hb⟩; have B9 := Lib.hid (M.out.at14.below.trans (hb.mono M.out.at14.below.size)); clear hb)
          go_ret
          exact ⟨rfl, B9.out⟩
set_option maxHeartbeats 4000000 in
theorem indexAdds_all (H : Index14) (HA : Wakes14) (w : World) (ka : Option Addr) (kc : Nat) (ia : Option Addr) (ic : Nat) (K : List (List UInt8)) (I : List (List Int)) (hx : IxV w ka kc ia ic K I) (s : List UInt8) (b : Option Addr) (bc : Nat) (ns : List Int) (hi : Ints w.heap.size w b ns) :
    Calls Try.prog 4 #[ixVal ka kc ia ic K I, .string (tx s), .slice b ns.length bc] w fun e w' => e = .returned (.bool true) ∧ Below w.heap.size w w' := by
  have HW := Lib.hid HA
  have A0 := At14.start hx
  have HF := Lib.hid (few14_any ka kc ia ic K I _ A0.ix)
  have HB := Lib.hid A0
  obtain ⟨_, c0, c1⟩ := A0.box
  clear A0
  by_cases hfew : ¬ fewX K I = true
  · rw [Bool.not_eq_true] at hfew
    rw [hfew] at HF
    clear hfew hx hi
    go_enter Try.func4, Try.ntmps4
    go_wp2_with (first
      | (go_at_call 7; refine HF.out.mono ?_; rintro e w1 ⟨rfl, hb⟩; have B1 := Lib.hid (HB.out.step hb); clear hb)
      | (go_at_call 8; refine (HW.out _).mono ?_; rintro e w2 ⟨rfl, hb⟩; have B2 := Lib.hid (B1.out.below.trans (hb.mono B1.out.below.size)); clear hb))
    go_ret
    exact ⟨rfl, B2.out⟩
  have hfew := Decidable.not_not.1 hfew
  rw [hfew] at HF
  by_cases hs : 100 < (tx s).size
  · have e1 : decide (100 < ((tx s).size : Int)) = true := decide_eq_true (by omega)
    have e1' : decide (100 < (tx s).size) = true := decide_eq_true hs
    clear hfew hs hx hi
    go_enter Try.func4, Try.ntmps4
    go_wp2_with (first
      | (go_at_call 7; refine HF.out.mono ?_; rintro e w1 ⟨rfl, hb⟩; have B1 := Lib.hid (HB.out.step hb); clear hb)
      | (go_at_call 8; refine (HW.out _).mono ?_; rintro e w2 ⟨rfl, hb⟩; have B2 := Lib.hid (B1.out.below.trans (hb.mono B1.out.below.size)); clear hb))
    go_ret
    exact ⟨rfl, B2.out⟩
  by_cases hn : 50 < ns.length
  · have e1 : decide (100 < ((tx s).size : Int)) = false := decide_eq_false (by omega)
    have e1' : decide (100 < (tx s).size) = false := decide_eq_false hs
    have e2 : decide (50 < (ns.length : Int)) = true := decide_eq_true (by omega)
    have e2' : decide (50 < ns.length) = true := decide_eq_true hn
    clear hfew hs hx hi hn
    go_enter Try.func4, Try.ntmps4
    go_wp2_with (first
      | (go_at_call 7; refine HF.out.mono ?_; rintro e w1 ⟨rfl, hb⟩; have B1 := Lib.hid (HB.out.step hb); clear hb)
      | (go_at_call 8; refine (HW.out _).mono ?_; rintro e w2 ⟨rfl, hb⟩; have B2 := Lib.hid (B1.out.below.trans (hb.mono B1.out.below.size)); clear hb))
    go_ret
    exact ⟨rfl, B2.out⟩
  exact indexAdds_main H HA w ka kc ia ic K I hx s b bc ns hi hfew hs (by omega)
end Go.Proofs.Ytnbmccfaomhppaa
