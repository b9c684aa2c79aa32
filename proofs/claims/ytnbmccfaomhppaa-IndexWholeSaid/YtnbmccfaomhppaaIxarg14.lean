/- An index by value: how it comes in, the law's bound on it, and whether it is the document's pairs. -/
import Derived.Test.YtnbmccfaomhppaaFew13
import Derived.Test.YtnbmccfaomhppaaRefE14
import Derived.WideShapes
import Derived.Deep.Slices
namespace Go.Proofs.Ytnbmccfaomhppaa
open Go.RowKit Go.ChangeShapes

/-- An index's two slices. -/
structure IxV (w : World) (ka : Option Addr) (kc : Nat) (ia : Option Addr) (ic : Nat) (K : List (List UInt8)) (I : List (List Int)) : Prop where
  keys : Txs 0 w.heap.size w ka K
  ids : Lists 0 w.heap.size w ia I
  kcap : K.length ≤ kc
  icap : I.length ≤ ic
theorem IxV.step {w w' : World} {ka : Option Addr} {kc : Nat} {ia : Option Addr} {ic : Nat} {K : List (List UInt8)} {I : List (List Int)} (h : IxV w ka kc ia ic K I) (hb : Below w.heap.size w w') : IxV w' ka kc ia ic K I :=
  ⟨h.keys.step hb, h.ids.step hb, h.kcap, h.icap⟩
abbrev ixVal (ka : Option Addr) (kc : Nat) (ia : Option Addr) (ic : Nat) (K : List (List UInt8)) (I : List (List Int)) : Value := .agg #[.slice ka K.length kc, .slice ia I.length ic]
theorem list_lists {I : Nat → List Int} {n : Nat} : (List.ofFn fun j : Fin n => I j.val).length = n ∧ ∀ j, j < n → numsAt (List.ofFn fun j : Fin n => I j.val) j = I j := by
  refine ⟨by simp, fun j hj => ?_⟩
  unfold numsAt
  rw [List.getD_eq_getElem?_getD, List.getElem?_eq_getElem (by simpa using hj)]
  simp
/-- A slice of slices of numbers that came in, read as the form reads it. -/
theorem lists_of {H : Type} {enc : TypeId × Value → H} {base : Nat} {held : Bool} {fuel : Nat} {cs : List Value} {W : World} {x : DataW H × List MemPlace}
    (h : DataW.trod enc Try.prog W base (fun _ => true) held fuel 23 cs = some x) :
    ∃ (a : Option Addr) (cap : Nat) (I : List (List Int)), cs = [.slice a I.length cap] ∧ I.length ≤ cap ∧ Lists 0 W.heap.size W a I := by
  have c1 : Try.prog.cellsOf 33 = 1 := by kernel_rfl
  rcases Go.Deep.open_slice1 Try.underlying23 c1 h with ⟨hcs, _⟩ | ⟨a, len, cap, m, n, V, D, Pl, rfl, hb, hl, hm, hmm, _, hx⟩
  · exact ⟨none, 0, [], hcs, Nat.le_refl _, Or.inl rfl⟩
  · simp only [if_true] at hmm
    have key : ∀ j, j < len → ∃ y : Option Addr × Nat × List Int, W.cell? (a.add j) = some (.slice y.1 y.2.2.length y.2.1) ∧ y.2.2.length ≤ y.2.1 ∧ Ints W.heap.size W y.1 y.2.2 := by
      intro j hj
      obtain ⟨hc, htr⟩ := hx j (by omega)
      obtain ⟨aj, lj, cj, hV⟩ : ∃ aj lj cj, V j = .slice aj lj cj := by
        rcases DataW.trod_slice Try.underlying33 htr with ⟨hcs, _⟩ | ⟨b, l, c, _, _, _, _, hcs, _⟩
        · exact ⟨none, 0, 0, by simpa using hcs⟩
        · exact ⟨some b, l, c, by simpa using hcs⟩
      rw [hV] at hc htr
      obtain ⟨xs, hxl, hcap, _, hi⟩ := ints_cap (a := aj) (len := lj) (cap := cj) Try.underlying33 Try.underlying3 (by kernel_rfl) htr
      subst hxl
      exact ⟨(aj, cj, xs), hc, hcap, hi⟩
    obtain ⟨y, hy⟩ := Go.Deep.choose_lt key
    have hlist := list_lists (I := fun j => (y j).2.2) (n := len)
    refine ⟨some a, cap, List.ofFn fun j : Fin len => (y j.val).2.2, by rw [hlist.1], by rw [hlist.1]; exact hl, ?_⟩
    rcases Nat.eq_zero_or_pos len with h0 | h0
    · exact Or.inl (List.length_eq_zero_iff.1 (by rw [hlist.1]; exact h0))
    · obtain ⟨b, off, spot⟩ := a
      have hc0 := (hy 0 h0).1
      have hspot : spot = none := by simpa [Addr.add] using World.cell?_spot hc0
      subst hspot
      have hbl : b < W.heap.size := by
        have := World.block_lt_of_cell? W _ hc0
        simpa [Addr.add] using this
      refine Or.inr ⟨b, off, rfl, Nat.zero_le _, hbl, fun j hj => ?_⟩
      rw [hlist.1] at hj
      have h1 := hy j hj
      rw [hlist.2 j hj]
      refine ⟨(y j).1, (y j).2.1, ?_, h1.2.1, h1.2.2⟩
      rcases Nat.eq_zero_or_pos j with hj0 | hj0
      · subst hj0; simpa [Addr.add] using h1.1
      · simpa [Addr.add, Nat.ne_of_gt hj0] using h1.1
theorem two_of_cells {cs : List Value} {a b : Value} (hl : cs.length = 2) (h0 : (cs.drop 0).take 1 = [a]) (h1 : (cs.drop 1).take 1 = [b]) : cs = [a, b] := by
  match cs, hl with
  | [_, _], _ => simp at h0 h1; simp [h0, h1]
theorem ix_cells {H : Type} {enc : TypeId × Value → H} {base : Nat} {held : Bool} {fuel : Nat} {cs : List Value} {W : World} {x : DataW H × List MemPlace} {ch : TypeId} {q0 q1 : Field}
    (hch : Try.prog.underlying ch = some (.struct #[q0, q1])) (hcc : Try.prog.cellsOf ch = 2) (r0 : q0.type = 22) (r1 : q1.type = 23) (p0 : q0.offset = 0) (p1 : q1.offset = 1)
    (h : DataW.trod enc Try.prog W base (fun _ => true) held fuel ch cs = some x) :
    ∃ ka kc ia ic K I, cs = [.slice ka (List.length K) kc, .slice ia (List.length I) ic] ∧ IxV W ka kc ia ic K I := by
  have k0 : Try.prog.cellsOf 22 = 1 := by kernel_rfl
  have k1 : Try.prog.cellsOf 23 = 1 := by kernel_rfl
  obtain ⟨zs, n', _, _, hlen, hzl, hz⟩ := DataW.trod_struct hch h
  have z0 := hz 0 q0 rfl
  have z1 := hz 1 q1 rfl
  rw [r0, p0, k0] at z0
  rw [r1, p1, k1] at z1
  match zs, hzl with
  | [u0, u1], _ =>
    obtain ⟨ia, ic, I, hi, hic, hI⟩ := lists_of z1
    obtain ⟨ka, kn, kc, hk⟩ : ∃ ka kn kc, (cs.drop 0).take 1 = [Value.slice ka kn kc] := by
      rcases DataW.trod_slice Try.underlying22 z0 with ⟨hcs, _⟩ | ⟨b, l, c, _, _, _, _, hcs, _⟩
      · exact ⟨none, 0, 0, hcs⟩
      · exact ⟨some b, l, c, hcs⟩
    rw [hk] at z0
    obtain ⟨K, hKl, hkc, _, hK⟩ := txs_of (a := ka) (len := kn) (cap := kc) Try.underlying22 Try.underlying9 (by kernel_rfl) z0
    subst hKl
    rw [hcc] at hlen
    exact ⟨ka, kc, ia, ic, K, I, two_of_cells hlen hk hi, ⟨hK, hI, hkc, hic⟩⟩
theorem ix_agg {P : Program} {w : World} {r : Reach} {b0 : Nat} {v : Value} {e : TypeId} {fs : Array Field} (he : P.underlying e = some (.struct fs)) (hv : Value.okWide P w r b0 e v) : ∃ cs : Array Value, v = .agg cs := by
  obtain ⟨cs, h, _⟩ := WideShapes.okWide_struct he hv
  exact ⟨cs, h⟩
set_option maxRecDepth 100000 in
theorem index_of {H : Type} {enc : TypeId × Value → H} {w : World} {base : Nat} {held : Bool} {r : Reach} {b0 : Nat} {v : Value} {d : DataW H} {p : List MemPlace}
    (hv : Value.okWide Try.prog w r b0 25 v) (h : DataW.Trod enc Try.prog w base (fun _ => true) held 25 v d p) :
    ∃ ka kc ia ic K I, v = ixVal ka kc ia ic K I ∧ IxV w ka kc ia ic K I := by
  obtain ⟨cs, hcs⟩ := ix_agg Try.underlying25 hv
  subst hcs
  obtain ⟨fuel, hf⟩ := h
  obtain ⟨ka, kc, ia, ic, K, I, ha, hb⟩ := ix_cells Try.underlying25 (by kernel_rfl) rfl rfl rfl rfl hf
  refine ⟨ka, kc, ia, ic, K, I, ?_, hb⟩
  obtain ⟨l⟩ := cs
  simp only [Value.cells] at ha
  rw [ha]

/-- An index that came in by value lies in a block of its own. -/
def BoxI (w W : World) (ka : Option Addr) (kc : Nat) (ia : Option Addr) (ic : Nat) (K : List (List UInt8)) (I : List (List Int)) : Prop :=
  Below w.heap.size w W ∧ W.cell? ⟨w.heap.size, 0, none⟩ = some (.slice ka K.length kc) ∧ W.cell? ⟨w.heap.size, 1, none⟩ = some (.slice ia I.length ic)
theorem boxI_start (w : World) (ka : Option Addr) (kc : Nat) (ia : Option Addr) (ic : Nat) (K : List (List UInt8)) (I : List (List Int)) : BoxI w (w.alloc (.cells #[.slice ka K.length kc, .slice ia I.length ic] 25)) ka kc ia ic K I := by
  have h0 := lit_cell w #[.slice ka K.length kc, .slice ia I.length ic] 25 0 _ rfl
  have h1 := lit_cell w #[.slice ka K.length kc, .slice ia I.length ic] 25 1 _ rfl
  exact ⟨(Below.refl _ w).alloc (Nat.le_refl _) _, h0, by rw [Nat.zero_add] at h1; exact h1⟩
theorem BoxI.step {w W V : World} {ka : Option Addr} {kc : Nat} {ia : Option Addr} {ic : Nat} {K : List (List UInt8)} {I : List (List Int)} (h : BoxI w W ka kc ia ic K I) (hb : Below W.heap.size W V) : BoxI w V ka kc ia ic K I :=
  have hlt := World.block_lt_of_cell? W _ h.2.1
  ⟨h.1.trans (hb.mono h.1.size), (hb.cell (p := ⟨w.heap.size, 0, none⟩) hlt).trans h.2.1, (hb.cell (p := ⟨w.heap.size, 1, none⟩) hlt).trans h.2.2⟩
/-- The law's bound. -/
def fewX (K : List (List UInt8)) (I : List (List Int)) : Bool := decide (K.length ≤ 100 ∧ I.length ≤ 100 ∧ (∀ j, j < I.length → (numsAt I j).length ≤ 2100) ∧ ∀ j, j < K.length → (rowAt K j).length ≤ 100)
theorem sum_bound : ∀ {I : List (List Int)} {B : Nat}, (∀ j, j < I.length → (numsAt I j).length ≤ B) → sumK I ≤ I.length * B
  | [], _, _ => by simp [sumK]
  | l :: I, B, h => by
    have h1 := h 0 (by simp)
    have h2 := sum_bound (I := I) (B := B) fun j hj => h (j + 1) (by simpa using hj)
    unfold sumK at h2 ⊢
    rw [List.map_cons, List.sum_cons, List.length_cons, Nat.succ_mul]
    have h3 : (numsAt (l :: I) 0).length = l.length := rfl
    omega
theorem few_sum {K : List (List UInt8)} {I : List (List Int)} (h : fewX K I = true) : K.length ≤ 100 ∧ I.length ≤ 100 ∧ sumK I ≤ 210000 := by
  have h := of_decide_eq_true h
  have := sum_bound (B := 2100) h.2.2.1
  exact ⟨h.1, h.2.1, Nat.le_trans this (Nat.mul_le_mul h.2.1 (Nat.le_refl 2100))⟩
set_option maxHeartbeats 4000000 in
theorem few14_any (ka : Option Addr) (kc : Nat) (ia : Option Addr) (ic : Nat) (K : List (List UInt8)) (I : List (List Int)) (w : World) (hx : IxV w ka kc ia ic K I) :
    Calls Try.prog 7 #[ixVal ka kc ia ic K I] w fun e w' => e = .returned (.bool (fewX K I)) ∧ Below w.heap.size w w' := by
  by_cases h1 : 100 < K.length
  · have e1 : decide (100 < (K.length : Int)) = true := decide_eq_true (by omega)
    have e1' : decide (100 < K.length) = true := decide_eq_true h1
    have HR : Hid (fewX K I = false) := Lib.hid (decide_eq_false fun q => by omega)
    obtain ⟨hb, c0, c1⟩ := boxI_start w ka kc ia ic K I
    have HB := Lib.hid hb
    clear h1 hx hb
    go_enter Try.func7, Try.ntmps7
    go_wp2
    go_ret
    exact ⟨by rw [HR.out]; rfl, HB.out⟩
  have e1 : decide (100 < (K.length : Int)) = false := decide_eq_false (by omega)
  have e1' : decide (100 < K.length) = false := decide_eq_false h1
  by_cases h2 : 100 < I.length
  · have e2 : decide (100 < (I.length : Int)) = true := decide_eq_true (by omega)
    have e2' : decide (100 < I.length) = true := decide_eq_true h2
    have HR : Hid (fewX K I = false) := Lib.hid (decide_eq_false fun q => by omega)
    obtain ⟨hb, c0, c1⟩ := boxI_start w ka kc ia ic K I
    have HB := Lib.hid hb
    clear h1 h2 hx hb
    go_enter Try.func7, Try.ntmps7
    go_wp2
    go_ret
    exact ⟨by rw [HR.out]; rfl, HB.out⟩
  have e2 : decide (100 < (I.length : Int)) = false := decide_eq_false (by omega)
  have e2' : decide (100 < I.length) = false := decide_eq_false h2
  have hkl : K.length ≤ 100 := by omega
  have hil : I.length ≤ 100 := by omega
  obtain ⟨hb, c0, c1⟩ := boxI_start w ka kc ia ic K I
  have HB := Lib.hid hb
  have HX := Lib.hid (hx.step hb)
  have HW : Hid (∀ V : World, V = w.alloc (.cells #[.slice ka K.length kc, .slice ia I.length ic] 25) → IxV V ka kc ia ic K I ∧ Below w.heap.size w V) := Lib.hid fun V hV => by subst hV; exact ⟨HX.out, HB.out⟩
  clear h1 h2 hx hb HX HB
  go_enter Try.func7, Try.ntmps7
  go_upto_region 4 with fail
  obtain ⟨V, hV⟩ : ∃ V, V = w.alloc (.cells #[.slice ka K.length kc, .slice ia I.length ic] 25) := ⟨_, rfl⟩
  have HV := Lib.hid (HW.out V hV)
  rw [← hV] at c0 c1 ⊢
  clear HW hV
  go_loop [3] (fun s3 => ∃ k : Nat, s3 = .int .i64 k ∧ k ≤ I.length ∧ Hid (∀ j, j < k → (numsAt I j).length ≤ 2100)) (fun i => I.length + 1 - (intOf i).toNat)
  case atStart => exact ⟨0, rfl, by omega, Lib.hid fun j hj => absurd hj (by omega)⟩
  case round =>
    obtain ⟨k, rfl, hk, HK⟩ := hrel
    by_cases hlt : k < I.length
    · have i1 : (k : Int) < (I.length : Int) := by omega
      have i3 : (0 : Int) ≤ (k : Int) := by omega
      obtain ⟨ib, ioff, ei, _, aj, cj, cI, _, _⟩ := HV.out.1.ids.at hlt
      subst ei
      by_cases hq : 2100 < (numsAt I k).length
      · have d1 : decide (2100 < ((numsAt I k).length : Int)) = true := decide_eq_true (by omega)
        have d1' : decide (2100 < (numsAt I k).length) = true := decide_eq_true hq
        have HR : Hid (fewX K I = false) := Lib.hid (decide_eq_false fun q => by have := q.2.2.1 k hlt; omega)
        clear hq
        go_wp2
        go_ret
        exact ⟨by rw [HR.out]; rfl, HV.out.2⟩
      · have d1 : decide (2100 < ((numsAt I k).length : Int)) = false := decide_eq_false (by omega)
        have d1' : decide (2100 < (numsAt I k).length) = false := decide_eq_false hq
        have HK2 : Hid (∀ j, j < k + 1 → (numsAt I j).length ≤ 2100) := Lib.hid fun j hj => by
          rcases (by omega : j < k ∨ j = k) with q | q
          · exact HK.out j q
          · rw [q]; omega
        clear hq
        go_wp2
        go_round
        case rel => exact ⟨k + 1, by go_num, by omega, HK2⟩
        case measure => first | (simp [intOf]; omega) | simp [intOf]
    · obtain rfl : k = I.length := by omega
      go_upto_region 9 with fail
      go_loop [4] (fun s4 => ∃ k : Nat, s4 = .int .i64 k ∧ k ≤ K.length ∧ Hid (∀ j, j < k → (rowAt K j).length ≤ 100)) (fun i => K.length + 1 - (intOf i).toNat)
      case atStart => exact ⟨0, rfl, by omega, Lib.hid fun j hj => absurd hj (by omega)⟩
      case round =>
        obtain ⟨k, rfl, hk2, HK3⟩ := hrel
        by_cases hlt2 : k < K.length
        · have i1 : (k : Int) < (K.length : Int) := by omega
          have i3 : (0 : Int) ≤ (k : Int) := by omega
          obtain ⟨kb, koff, ek, _, cK⟩ : ∃ kb koff, ka = some ⟨kb, koff, none⟩ ∧ kb < V.heap.size ∧ V.cell? ⟨kb, koff + k, none⟩ = some (.string (tx (rowAt K k))) := by
            rcases HV.out.1.keys with h | ⟨b, off, ha, _, h2, hc⟩
            · exfalso; rw [h] at hlt2; simp at hlt2
            · exact ⟨b, off, ha, h2, hc k hlt2⟩
          subst ek
          have hts : (tx (rowAt K k)).size = (rowAt K k).length := tx_size _
          by_cases hq : 100 < (rowAt K k).length
          · have d1 : decide (100 < ((tx (rowAt K k)).size : Int)) = true := decide_eq_true (by omega)
            have d1' : decide (100 < (tx (rowAt K k)).size) = true := decide_eq_true (by omega)
            have HR : Hid (fewX K I = false) := Lib.hid (decide_eq_false fun q => by have := q.2.2.2 k hlt2; omega)
            clear hq hts
            generalize tx (rowAt K k) = T at *
            go_wp2
            go_ret
            exact ⟨by rw [HR.out]; rfl, HV.out.2⟩
          · have d1 : decide (100 < ((tx (rowAt K k)).size : Int)) = false := decide_eq_false (by omega)
            have d1' : decide (100 < (tx (rowAt K k)).size) = false := decide_eq_false (by omega)
            have HK4 : Hid (∀ j, j < k + 1 → (rowAt K j).length ≤ 100) := Lib.hid fun j hj => by
              rcases (by omega : j < k ∨ j = k) with q | q
              · exact HK3.out j q
              · rw [q]; omega
            clear hq hts
            generalize tx (rowAt K k) = T at *
            go_wp2
            go_round
            case rel => exact ⟨k + 1, by go_num, by omega, HK4⟩
            case measure => first | (simp [intOf]; omega) | simp [intOf]
        · obtain rfl : k = K.length := by omega
          have HR : Hid (fewX K I = true) := Lib.hid (decide_eq_true ⟨hkl, hil, HK.out, HK3.out⟩)
          go_wp2
          go_ret
          exact ⟨by rw [HR.out]; rfl, HV.out.2⟩
set_option maxHeartbeats 2000000 in
theorem same14_true (ka : Option Addr) (kc : Nat) (ia : Option Addr) (ic : Nat) (K : List (List UInt8)) (I : List (List Int)) (a : Option Addr) (cap : Nat) (l : List Pr) (w : World) (hx : IxV w ka kc ia ic K I) (hl : Prs 0 w.heap.size w a l) (hk : K.length ≤ 100000) (hs : sumK I ≤ 600000) (hO : pairsO K I = true) (hV : pairsV K I = l) (hn : l.length ≤ 900000) :
    Calls Try.prog 21 #[ixVal ka kc ia ic K I, .slice a l.length cap] w fun e w' => e = .returned (.bool true) ∧ Below w.heap.size w w' := by
  obtain ⟨hb, c0, c1⟩ := boxI_start w ka kc ia ic K I
  have hp := rpairs_any ka kc K ia ic I 0 _ (hx.step hb).keys (hx.step hb).ids hk hs
  rw [hO, hV] at hp
  have HB := Lib.hid hb
  have HL := Lib.hid (Rw.step hl hb)
  have HW : Hid (∀ (V : World) (b : Option Addr) (c : Nat), Prs 0 V.heap.size V a l → Prs 0 V.heap.size V b l → Calls Try.prog 36 #[.slice b l.length c, .slice a l.length cap] V fun e w' => e = .returned (.bool true) ∧ Below V.heap.size V w') := Lib.hid fun V b c h1 h2 => rsame14_true b a c cap l 0 0 V h2 h1 hn
  clear hx hl hb
  go_enter Try.func21, Try.ntmps21
  go_wp2_with (first
    | (go_at_call 9; refine hp.mono ?_; rintro e w1 ⟨b, c, rfl, _, hpr, hb1⟩; have HP := Lib.hid hpr; have HL1 := Lib.hid (Rw.step HL.out hb1); have HB1 := Lib.hid (HB.out.trans (hb1.mono HB.out.size)); clear hpr hb1)
    | (go_at_call 36; refine (HW.out _ _ _ HL1.out HP.out).mono ?_; rintro e w2 ⟨rfl, hb2⟩; have HB2 := Lib.hid (HB1.out.trans (hb2.mono HB1.out.size)); clear hb2))
  go_ret
  exact ⟨rfl, HB2.out⟩
end Go.Proofs.Ytnbmccfaomhppaa
