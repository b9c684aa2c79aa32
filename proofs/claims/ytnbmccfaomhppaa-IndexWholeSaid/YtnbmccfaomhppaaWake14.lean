/- The law's probes of index come out true, from what is wanted of the program's index. -/
import Derived.Test.YtnbmccfaomhppaaTurns14
import Derived.Test.YtnbmccfaomhppaaWake13
namespace Go.Proofs.Ytnbmccfaomhppaa
open Go.RowKit

abbrev aL : List UInt8 := [65]
abbrev bL : List UInt8 := [66]
abbrev L1 : List Pr := [(aL, 1), (aL, 3)]
abbrev L2 : List Pr := [(aL, 1), (aL, 3), (bL, 3)]
theorem out_var {W w' : World} {ka : Option Addr} {kc : Nat} {ia : Option Addr} {ic : Nat} {K : List (List UInt8)} {I : List (List Int)} {L : List Pr} (h : IxV w' ka kc ia ic K I) (hs : Small14 K I) (h0 : pairsO K I = true ∧ pairsV K I = L) : YV (w'.alloc (.cells #[.slice ka K.length kc, .slice ia I.length ic] IxT)) w'.heap.size ka kc ia ic K I L :=
  ⟨heap_alloc_new _ _, h.step ((Below.refl _ w').alloc (Nat.le_refl _) _), hs, h0.1, h0.2⟩
theorem below_more {w V w' : World} {o o' : Obj} (h : Below w.heap.size w V) (hb : Below (V.alloc o).heap.size (V.alloc o) w') : Below w.heap.size w (w'.alloc o') := by
  have h1 := h.alloc h.size o
  have h2 := h1.trans (hb.mono h1.size)
  exact h2.alloc h2.size o'
theorem below_next {w V w' : World} {o' : Obj} (h : Below w.heap.size w V) (hb : Below V.heap.size V w') : Below w.heap.size w (w'.alloc o') := by
  have h2 := h.trans (hb.mono h.size)
  exact h2.alloc h2.size o'
set_option maxRecDepth 100000 in
set_option maxHeartbeats 16000000 in
theorem awake14 (H : Index14) : Wakes14 := by
  intro w
  have lit : ∀ (W : World) (cs : Array Value) (t : TypeId), Below W.heap.size W (W.alloc (.cells cs t)) := fun W cs t => (Below.refl _ W).alloc (Nat.le_refl _) _
  have G1 : Hid (∀ W : World, Calls Try.prog 18 #[.agg #[.slice none 0 0, .slice none 0 0], .string ⟨#[65]⟩, .slice (some ⟨W.heap.size, 0, none⟩) 2 2] (W.alloc (.cells #[.int .i64 3, .int .i64 1] 3)) fun e w' => IxOut (W.alloc (.cells #[.int .i64 3, .int .i64 1] 3)) e w' 0 L1) := Lib.hid fun W => by
    have := H.add none 0 none 0 [] [] aL (some ⟨W.heap.size, 0, none⟩) 2 [3, 1] (W.alloc (.cells #[.int .i64 3, .int .i64 1] 3)) ⟨Or.inl rfl, Or.inl rfl, Nat.le_refl _, Nat.le_refl _⟩ ⟨by decide, by decide, by decide⟩ (lit_two W 3 1 _) (by decide)
    rw [show okE (pairsO [] []) (addsX aL (pairsV [] []) [3, 1]) = 0 from by decide, show addsL aL (pairsV [] []) [3, 1] = L1 from by decide] at this
    exact this
  have G2 : Hid (∀ (V : World) (g : Nat) (a : Option Addr) (c : Nat) (b : Option Addr) (d : Nat) (K : List (List UInt8)) (I : List (List Int)), YV V g a c b d K I L1 → Calls Try.prog 18 #[ixVal a c b d K I, .string ⟨#[66]⟩, .slice (some ⟨V.heap.size, 0, none⟩) 1 1] (V.alloc (.cells #[.int .i64 3] 3)) fun e w' => IxOut (V.alloc (.cells #[.int .i64 3] 3)) e w' 0 L2) := Lib.hid fun V g a c b d K I h => by
    have h' := h.step (lit V #[.int .i64 3] 3)
    have := H.add a c b d K I bL (some ⟨V.heap.size, 0, none⟩) 1 [3] (V.alloc (.cells #[.int .i64 3] 3)) h'.ix h.small (lit_one V 3 _) (by decide)
    rw [h.ok, h.val, show okE true (addsX bL L1 [3]) = 0 from by decide, show addsL bL L1 [3] = L2 from by decide] at this
    exact this
  have G3 : Hid (∀ (V : World) (g : Nat) (a : Option Addr) (c : Nat) (b : Option Addr) (d : Nat) (K : List (List UInt8)) (I : List (List Int)), YV V g a c b d K I L1 → Calls Try.prog 18 #[ixVal a c b d K I, .string ⟨#[65]⟩, .slice (some ⟨V.heap.size, 0, none⟩) 1 1] (V.alloc (.cells #[.int .i64 3] 3)) fun e w' => IxOut (V.alloc (.cells #[.int .i64 3] 3)) e w' 32 (addsL aL L1 [3])) := Lib.hid fun V g a c b d K I h => by
    have h' := h.step (lit V #[.int .i64 3] 3)
    have := H.add a c b d K I aL (some ⟨V.heap.size, 0, none⟩) 1 [3] (V.alloc (.cells #[.int .i64 3] 3)) h'.ix h.small (lit_one V 3 _) (by decide)
    rw [h.ok, h.val, show okE true (addsX aL L1 [3]) = 32 from by decide] at this
    exact this
  have G4 : Hid (∀ (V : World) (g : Nat) (a : Option Addr) (c : Nat) (b : Option Addr) (d : Nat) (K : List (List UInt8)) (I : List (List Int)), YV V g a c b d K I L2 → Calls Try.prog 19 #[ixVal a c b d K I, .string ⟨#[66]⟩, .int .i64 3] V fun e w' => IxOut V e w' 0 L1) := Lib.hid fun V g a c b d K I h => by
    have := H.drop a c b d K I bL 3 V h.ix h.small
    rw [h.ok, h.val, show okE true (dropE L2 (bL, 3)) = 0 from by decide, show dropP L2 (bL, 3) = L1 from by decide] at this
    exact this
  have G5 : Hid (∀ (V : World) (g : Nat) (a : Option Addr) (c : Nat) (b : Option Addr) (d : Nat) (K : List (List UInt8)) (I : List (List Int)), YV V g a c b d K I L1 → Calls Try.prog 19 #[ixVal a c b d K I, .string ⟨#[66]⟩, .int .i64 3] V fun e w' => IxOut V e w' 31 (dropP L1 (bL, 3))) := Lib.hid fun V g a c b d K I h => by
    have := H.drop a c b d K I bL 3 V h.ix h.small
    rw [h.ok, h.val, show okE true (dropE L1 (bL, 3)) = 31 from by decide] at this
    exact this
  have G6 : Hid (∀ (V : World) (g : Nat) (a : Option Addr) (c : Nat) (b : Option Addr) (d : Nat) (K : List (List UInt8)) (I : List (List Int)), YV V g a c b d K I L1 → Calls Try.prog 11 #[ixVal a c b d K I, .string ⟨#[65]⟩] V fun e w' => ∃ a c, e = .returned (.slice a 2 c) ∧ Ints w'.heap.size w' a [1, 3] ∧ Below V.heap.size V w') := Lib.hid fun V g a c b d K I h => by
    have := H.of a c b d K I aL V h.ix h.small
    rw [h.ok, h.val, show okL true (ofP L1 aL) = [1, 3] from by decide] at this
    exact this
  have G7 : Hid (∀ (V : World) (g : Nat) (a : Option Addr) (c : Nat) (b : Option Addr) (d : Nat) (K : List (List UInt8)) (I : List (List Int)), YV V g a c b d K I L2 → Calls Try.prog 12 #[ixVal a c b d K I, .int .i64 3] V fun e w' => ∃ a c, e = .returned (.slice a 2 c) ∧ Txs 0 w'.heap.size w' a [aL, bL] ∧ Below V.heap.size V w') := Lib.hid fun V g a c b d K I h => by
    have := H.under a c b d K I 3 V h.ix h.small
    rw [h.ok, h.val, show okL true (underP L2 3) = [aL, bL] from by decide] at this
    exact this
  have G8 : Hid (∀ (V : World) (g : Nat) (a : Option Addr) (c : Nat) (b : Option Addr) (d : Nat) (K : List (List UInt8)) (I : List (List Int)) (L : List Pr), YV V g a c b d K I L → Calls Try.prog 13 #[ixVal a c b d K I] V fun e w' => e = .returned (.int .i64 (L.length : Nat)) ∧ Below V.heap.size V w') := Lib.hid fun V g a c b d K I L h => by
    have := H.count a c b d K I V h.ix h.small
    rw [h.ok, h.val] at this
    exact this
  have G9 : Hid (∀ V : World, Calls Try.prog 10 #[.agg #[.slice (some ⟨V.heap.size, 0, none⟩) 1 1, .slice none 0 0]] (V.alloc (.cells #[.string ⟨#[65]⟩] 9)) fun e w' => e = .returned (.int .i64 40) ∧ Below V.heap.size V w') := Lib.hid fun V => by
    have := H.check (some ⟨V.heap.size, 0, none⟩) 1 none 0 [aL] [] (V.alloc (.cells #[.string ⟨#[65]⟩] 9)) ⟨lit_txs V [aL], Or.inl rfl, Nat.le_refl _, Nat.le_refl _⟩ ⟨by decide, by decide, by decide⟩
    rw [show okE (pairsO [aL] []) 0 = 40 from by decide] at this
    refine this.mono ?_
    rintro e w' ⟨rfl, hb⟩
    exact ⟨rfl, (lit V _ _).trans (hb.mono (lit V _ _).size)⟩
  have G10 : Hid (∀ (W : World) (a : Option Addr) (c : Nat), Ints W.heap.size W a [1, 3] → Calls Try.prog 14 #[.slice a 2 c, .slice (some ⟨W.heap.size, 0, none⟩) 2 2] (W.alloc (.cells #[.int .i64 1, .int .i64 3] 3)) fun e w' => e = .returned (.bool true) ∧ Below W.heap.size W w') := Lib.hid fun W a c hT => by
    refine (same_any a (some ⟨W.heap.size, 0, none⟩) c 2 [1, 3] [1, 3] _ (by decide) (hT.lit _) (lit_two W 1 3 _)).mono ?_
    rintro e w' ⟨rfl, hb⟩
    exact ⟨rfl, (lit W _ _).trans (hb.mono (lit W _ _).size)⟩
  have G11 : Hid (∀ (W : World) (a : Option Addr) (c : Nat), Txs 0 W.heap.size W a [aL, bL] → Calls Try.prog 16 #[.slice a 2 c, .slice (some ⟨W.heap.size, 0, none⟩) 2 2] (W.alloc (.cells #[.string ⟨#[65]⟩, .string ⟨#[66]⟩] 9)) fun e w' => e = .returned (.bool true) ∧ Below W.heap.size W w') := Lib.hid fun W a c hT => by
    refine (same_txs a (some ⟨W.heap.size, 0, none⟩) 0 0 _ _ c 2 [aL, bL] (by decide) _ (hT.step (lit W (txCells [aL, bL]).toArray _)) (lit_txs W [aL, bL])).mono ?_
    rintro e w' ⟨rfl, hb⟩
    exact ⟨rfl, (lit W _ _).trans (hb.mono (lit W _ _).size)⟩
  clear lit H
  go_enter Try.func8, Try.ntmps8
  go_upto_region 2 with (go_at_call 18; refine (G1.out _).mono ?_; rintro e w1 ⟨xa, xc, xb, xd, XK, XI, rfl, hix, -, hsx, hx0, -, hb⟩; have X1 := Lib.hid (out_var (W := w1) hix hsx (hx0 rfl)); have B1 := Lib.hid (below_more (o' := .cells #[.slice xa XK.length xc, .slice xb XI.length xd] IxT) (Below.refl _ w) hb); clear hix hsx hx0 hb G1)
  generalize w1.alloc (.cells #[.slice xa XK.length xc, .slice xb XI.length xd] IxT) = V1 at *
  generalize w1.heap.size = g1 at *
  obtain ⟨c0, c1, _, _⟩ := two_cells14 X1.out.obj
  go_upto_region 3 with (go_at_call 18; refine (G2.out _ _ _ _ _ _ _ _ X1.out).mono ?_; rintro e w2 ⟨ya, yc, yb, yd, YK, YI, rfl, hiy, -, hsy, hy0, -, hb⟩; have Y2 := Lib.hid (out_var (W := w2) hiy hsy (hy0 rfl)); have X2 := Lib.hid (X1.out.step (below_more (o' := .cells #[.slice ya YK.length yc, .slice yb YI.length yd] IxT) (Below.refl _ V1) hb)); have B2 := Lib.hid (below_more (o' := .cells #[.slice ya YK.length yc, .slice yb YI.length yd] IxT) B1.out hb); clear hiy hsy hy0 hb G2 X1 B1)
  generalize w2.alloc (.cells #[.slice ya YK.length yc, .slice yb YI.length yd] IxT) = V2 at *
  generalize w2.heap.size = g2 at *
  obtain ⟨d0, d1, _, _⟩ := two_cells14 X2.out.obj
  go_upto_region 4 with (go_at_call 18; refine (G3.out _ _ _ _ _ _ _ _ X2.out).mono ?_; rintro e w3 ⟨ta, tc, tb, td, TK, TI, rfl, -, -, -, -, -, hb⟩; have X3 := Lib.hid (X2.out.step (below_more (o' := .cells #[.slice ta TK.length tc, .slice tb TI.length td] IxT) (Below.refl _ V2) hb)); have Y3 := Lib.hid (Y2.out.step (below_more (o' := .cells #[.slice ta TK.length tc, .slice tb TI.length td] IxT) (Below.refl _ V2) hb)); have B3 := Lib.hid (below_more (o' := .cells #[.slice ta TK.length tc, .slice tb TI.length td] IxT) B2.out hb); clear hb G3 X2 Y2 B2)
  generalize w3.alloc (.cells #[.slice ta TK.length tc, .slice tb TI.length td] IxT) = V3 at *
  obtain ⟨f0, f1, _, _⟩ := two_cells14 Y3.out.obj
  go_upto_region 5 with (go_at_call 19; refine (G4.out _ _ _ _ _ _ _ _ Y3.out).mono ?_; rintro e w4 ⟨za, zc, zb, zd, ZK, ZI, rfl, hiz, -, hsz, hz0, -, hb⟩; have Z4 := Lib.hid (out_var (W := w4) hiz hsz (hz0 rfl)); have X4 := Lib.hid (X3.out.step (below_next (o' := .cells #[.slice za ZK.length zc, .slice zb ZI.length zd] IxT) (Below.refl _ V3) hb)); have Y4 := Lib.hid (Y3.out.step (below_next (o' := .cells #[.slice za ZK.length zc, .slice zb ZI.length zd] IxT) (Below.refl _ V3) hb)); have B4 := Lib.hid (below_next (o' := .cells #[.slice za ZK.length zc, .slice zb ZI.length zd] IxT) B3.out hb); clear hiz hsz hz0 hb G4 X3 Y3 B3)
  generalize w4.alloc (.cells #[.slice za ZK.length zc, .slice zb ZI.length zd] IxT) = V4 at *
  generalize w4.heap.size = g4 at *
  obtain ⟨h0, h1, _, _⟩ := two_cells14 X4.out.obj
  go_upto_region 6 with (go_at_call 19; refine (G5.out _ _ _ _ _ _ _ _ X4.out).mono ?_; rintro e w5 ⟨ua, uc, ub, ud, UK, UI, rfl, -, -, -, -, -, hb⟩; have X5 := Lib.hid (X4.out.step (below_next (o' := .cells #[.slice ua UK.length uc, .slice ub UI.length ud] IxT) (Below.refl _ V4) hb)); have Y5 := Lib.hid (Y4.out.step (below_next (o' := .cells #[.slice ua UK.length uc, .slice ub UI.length ud] IxT) (Below.refl _ V4) hb)); have Z5 := Lib.hid (Z4.out.step (below_next (o' := .cells #[.slice ua UK.length uc, .slice ub UI.length ud] IxT) (Below.refl _ V4) hb)); have B5 := Lib.hid (below_next (o' := .cells #[.slice ua UK.length uc, .slice ub UI.length ud] IxT) B4.out hb); clear hb G5 X4 Y4 Z4 B4)
  generalize w5.alloc (.cells #[.slice ua UK.length uc, .slice ub UI.length ud] IxT) = V5 at *
  obtain ⟨i0, i1, _, _⟩ := two_cells14 X5.out.obj
  go_wp2_with (first
    | (go_at_call 11; refine (G6.out _ _ _ _ _ _ _ _ X5.out).mono ?_; rintro e w6 ⟨oa, oc, rfl, ho, hb⟩; have O6 := Lib.hid ho; have Y6 := Lib.hid (Y5.out.step hb); have Z6 := Lib.hid (Z5.out.step hb); have B6 := Lib.hid (B5.out.trans (hb.mono B5.out.size)); clear ho hb G6 X5 Y5 Z5 B5)
    | (go_at_call 14; refine (G10.out _ _ _ O6.out).mono ?_; rintro e w7 ⟨rfl, hb⟩; have Y7 := Lib.hid (Y6.out.step hb); have Z7 := Lib.hid (Z6.out.step hb); have B7 := Lib.hid (B6.out.trans (hb.mono B6.out.size)); obtain ⟨j0, j1, _, _⟩ := two_cells14 Y7.out.obj; clear hb G10 Y6 Z6 B6)
    | (go_at_call 12; refine (G7.out _ _ _ _ _ _ _ _ Y7.out).mono ?_; rintro e w8 ⟨va, vc, rfl, hv, hb⟩; have U8 := Lib.hid hv; have Y8 := Lib.hid (Y7.out.step hb); have Z8 := Lib.hid (Z7.out.step hb); have B8 := Lib.hid (B7.out.trans (hb.mono B7.out.size)); clear hv hb G7 Y7 Z7 B7)
    | (go_at_call 16; refine (G11.out _ _ _ U8.out).mono ?_; rintro e w9 ⟨rfl, hb⟩; have Y9 := Lib.hid (Y8.out.step hb); have Z9 := Lib.hid (Z8.out.step hb); have B9 := Lib.hid (B8.out.trans (hb.mono B8.out.size)); obtain ⟨k0, k1, _, _⟩ := two_cells14 Y9.out.obj; clear hb G11 Y8 Z8 B8)
    | (go_at_call 13; refine (G8.out _ _ _ _ _ _ _ _ _ Y9.out).mono ?_; rintro e w10 ⟨rfl, hb⟩; have Z10 := Lib.hid (Z9.out.step hb); have B10 := Lib.hid (B9.out.trans (hb.mono B9.out.size)); obtain ⟨l0, l1, _, _⟩ := two_cells14 Z10.out.obj; clear hb Y9 Z9 B9)
    | (go_at_call 13; refine (G8.out _ _ _ _ _ _ _ _ _ Z10.out).mono ?_; rintro e w11 ⟨rfl, hb⟩; have B11 := Lib.hid (B10.out.trans (hb.mono B10.out.size)); clear hb Z10 B10)
    | (go_at_call 10; refine (G9.out _).mono ?_; rintro e w12 ⟨rfl, hb⟩; have B12 := Lib.hid (B11.out.trans (hb.mono B11.out.size)); clear hb B11))
  go_ret
  exact ⟨rfl, B12.out⟩
end Go.Proofs.Ytnbmccfaomhppaa
