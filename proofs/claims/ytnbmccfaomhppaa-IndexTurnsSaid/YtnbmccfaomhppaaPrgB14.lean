/- The pairs of an index, as the program's iterator hands them on. -/
import Derived.Test.YtnbmccfaomhppaaPrgA14
import Derived.Test.YtnbmccfaomhppaaRange10
import Derived.Shelf.Abstract
import Derived.Shelf.RegionOpen
import Derived.OwnWalkIn
import Derived.TacticsInMore
import Derived.LoopNIn
import Derived.LoopIn
import Derived.Maps.AppendAt
namespace Go.Proofs.Ytnbmccfaomhppaa
open Go.RowKit Go.Shelf
attribute [local go_sem] Oper.semAt_some

abbrev prEnc (p : Pr) : Array Value := #[.string (tx p.1), .int .i64 p.2]
theorem pairs14_any (ka : Option Addr) (kc : Nat) (ia : Option Addr) (ic : Nat) (K : List (List UInt8)) (I : List (List Int)) (w : World) :
    Calls Try.prog 27 #[ixVal ka kc ia ic K I] w fun e w' => e = .returned (.func (.func 37) #[] #[.pointer (some ⟨w.heap.size, 0, none⟩)]) ∧ w' = w.alloc (.cells #[.slice ka K.length kc, .slice ia I.length ic] 25) := by
  go_enter Try.func27, Try.ntmps27
  go_wp2
  go_ret
  exact ⟨rfl, rfl⟩
/-- What a round keeps: what lay below n₀, and the block b. -/
def KeptX (n₀ b : Nat) (W W' : World) : Prop := Below n₀ W W' ∧ W'.heap[b]? = W.heap[b]?
theorem keptx_trans {n b : Nat} {A B C : World} (h : KeptX n b A B) (k : KeptX n b B C) : KeptX n b A C := ⟨h.1.trans k.1, k.2.trans h.2⟩
theorem keptx_alloc {n b : Nat} (W : World) (o : Obj) (hn : n ≤ W.heap.size) (hb : b < W.heap.size) : KeptX n b W (W.alloc o) := ⟨(Below.refl n W).alloc hn o, Below.heap_alloc W o b hb⟩
theorem heap_set14 (w : World) (g o k : Nat) (v : Value) (h : k ≠ g) : (w.setCell ⟨g, o, none⟩ v).heap[k]? = w.heap[k]? := by
  simp [World.setCell, Array.getElem?_modify, Ne.symm h]
theorem keptx_set {n b : Nat} {W : World} {g o : Nat} (hn : n ≤ g) (hb : b ≠ g) (v : Value) : KeptX n b W (W.setCell ⟨g, o, none⟩ v) := ⟨(Below.refl n W).setCell (p := ⟨g, o, none⟩) hn v, heap_set14 W g o b v hb⟩
theorem keptx_row {n b m : Nat} {W W' : World} {e : TypeId} {v : Value} {k : Nat} {xs : List Value} (hr : W.ownsRow m e 1 v k xs) (hg : W.grownBy W' v.ownBlock) (hn : n ≤ m) (hb : b < m) (hs : n ≤ W.heap.size) (hbs : b < W.heap.size) : KeptX n b W W' :=
  ⟨(Below.refl n W).grown hg hs (fun j e => by have := (hr.lt j e).1; omega), hg.block b hbs (fun e => by have := (hr.lt b e.symm).1; omega)⟩
theorem keptx_put {n b m : Nat} (hn : n ≤ m) (hb : b < m) (W : World) (l : Nat) (o o' : Obj) (hl : m ≤ l) (h : W.heap[l]? = some o) (_ho : o.isCells = false) : KeptX n b W (W.putObj l o') := by
  have hg := grownBy_putObj' W l o'
  have hlt := (Array.getElem?_eq_some_iff.1 h).1
  exact ⟨(Below.refl n W).grown hg (by omega) (fun k e => by cases e; omega), World.putObj_heap_other (by omega)⟩
theorem two_read {w : World} {g : Nat} {x y : Value} {t : TypeId} {fr : Nat × Nat} (h : w.heap[g]? = some (.cells #[x, y] t fr)) : w.cell? ⟨g, 0, none⟩ = some x ∧ w.cell? ⟨g, 1, none⟩ = some y := ⟨cell_of h rfl, cell_of h rfl⟩
theorem txs_at {A B : Nat} {w : World} {a : Option Addr} {K : List (List UInt8)} (h : Txs A B w a K) {j : Nat} (hj : j < K.length) : ∃ b off, a = some ⟨b, off, none⟩ ∧ b < B ∧ w.cell? ⟨b, off + j, none⟩ = some (.string (tx (rowAt K j))) := by
  rcases h with h | ⟨b, off, ha, _, h2, hc⟩
  · exfalso; rw [h] at hj; simp at hj
  · exact ⟨b, off, ha, h2, hc j hj⟩
set_option maxRecDepth 100000 in
set_option maxHeartbeats 4000000 in
theorem pairs_seq (n : Nat) (hn : 1 ≤ n) (T : TypeId) (ka : Option Addr) (kc : Nat) (ia : Option Addr) (ic : Nat) (K : List (List UInt8)) (I : List (List Int)) (w0 w : World) (hx : IxV w0 ka kc ia ic K I) (hs : Small14 K I) (b : Nat) (hw : Below w0.heap.size w0 w) (hb : b < w.heap.size) (hc : w.heap[b]? = some (.cells #[.slice ka K.length kc, .slice ia I.length ic] 25 (0, 0))) :
    SeqVar T Fence.wide n Try.prog 37 #[.pointer (some ⟨b, 0, none⟩)] prEnc (KeptX w0.heap.size b) (fun xs => xs = okL (pairsO K I) (pairsV K I)) (fun _ => True) 2000 w := by
  intro l J Jx W hW hJ _ hY h0
  have hW2 := hw.trans (hW.mono hw.size)
  have hcheck := pcheck14_any ka kc ia ic K I W (hx.step hW2) hs
  have HX := Lib.hid hx
  have hcW := old_obj hW hc
  have HC := Lib.hid hcW
  obtain ⟨c0, c1⟩ := two_read hcW
  have HW := Lib.hid hW2
  have HS := Lib.hid hs
  have HJ := Lib.hid hJ
  have HB : Hid (b < W.heap.size) := Lib.hid (by have := hW.size; omega)
  clear hx hW hJ hW2 hw hc hcW hb hs
  cases hok : pairsO K I with
  | false =>
    rw [hok] at hcheck
    unfold okE at hcheck
    simp only [Bool.false_eq_true, if_false] at hcheck
    clear hok
    refine callsIn_of_wp Try.func37 rfl trivial ?_ rfl
    simp only [Try.ntmps37, List.size_toArray, List.length_cons, List.length_nil, Nat.reduceAdd, Nat.reduceSub, Array.replicate_succ, Array.replicate_zero, List.push_toArray, List.append_toArray, List.nil_append, List.cons_append]
    gi_wp2_with (refine ⟨trivial, ?_⟩; gi_at_call 10; refine (callsIn_wide.2 hcheck).mono ?_; rintro e w2 ⟨rfl, hb2⟩; have HB2 := Lib.hid hb2; clear hb2)
    refine bodyPost_ret (results_none rfl _ _ _) rfl ?_
    exact ⟨⟨_, rfl⟩, .inl ⟨[], rfl, HJ.out.later h0 HB2.out⟩⟩
  | true =>
    have hfn : fineK K I ∧ sumK I ≤ 2000 := of_decide_eq_true hok
    have HF := Lib.hid hfn
    have hP : pairsV K I = pairsK K I := (pairs_fine hfn.1).1
    have hlen : K.length = I.length := hfn.1.2.1
    have hkb : K.length ≤ 5000 := HS.out.1
    have HN := Lib.hid hlen
    have HP := Lib.hid hP
    rw [hok] at hcheck
    unfold okE at hcheck
    simp only [if_true] at hcheck
    clear hok hfn hP hlen
    refine callsIn_of_wp Try.func37 rfl trivial ?_ rfl
    simp only [Try.ntmps37, List.size_toArray, List.length_cons, List.length_nil, Nat.reduceAdd, Nat.reduceSub, Array.replicate_succ, Array.replicate_zero, List.push_toArray, List.append_toArray, List.nil_append, List.cons_append]
    gi_wp2_with (refine ⟨trivial, ?_⟩; gi_at_call 10; refine (callsIn_wide.2 hcheck).mono ?_; rintro e w2 ⟨rfl, hb2⟩; have J2 := Lib.hid (HJ.out.later h0 hb2); have C2 := Lib.hid (old_obj hb2 HC.out); have W2 := Lib.hid (HW.out.trans (hb2.mono HW.out.size)); obtain ⟨f0, f1⟩ := two_read C2.out; clear hb2)
    gi_loopw [13] (fun i wr => ∃ k : Nat, i = .int .i64 k ∧ k ≤ K.length ∧ Hid (J (pairsK (K.take k) (I.take k)) wr) ∧ Hid (Below w0.heap.size w0 wr) ∧ Hid (wr.heap[b]? = some (.cells #[.slice ka K.length kc, .slice ia I.length ic] 25 (0, 0))))
      (fun i _ => K.length + 1 - (intOf i).toNat)
    case atStart => exact ⟨0, rfl, by omega, J2, W2, C2⟩
    case round =>
      clear J2 W2 C2 f0 f1
      obtain ⟨k, rfl, hk, HJs, HBr, HCr⟩ := hrel
      by_cases hlt : k < K.length
      · have i1 : (k : Int) < (K.length : Int) := by omega
        have hlI : k < I.length := by have := HN.out; omega
        have i1' : (k : Int) < (I.length : Int) := by omega
        have i3 : (0 : Int) ≤ (k : Int) := by omega
        obtain ⟨g0, g1⟩ := two_read HCr.out
        obtain ⟨kb, koff, ek, hkb2, hkc⟩ := txs_at HX.out.keys hlt
        obtain ⟨ib, ioff, ei, hib, aj, cj, cI, _, hnt⟩ := HX.out.ids.at hlI
        have hnext := pairsK_take (K := K) (I := I) (i := k) hlt hlI
        have hLb := Nat.le_trans (sum_mem (numsAt_mem hlI)) HF.out.2
        have hbd : (pairsK (K.take (k + 1)) (I.take (k + 1))).length ≤ 2000 := by
          rw [len_pairsK (by rw [List.length_take, List.length_take]; omega)]
          exact Nat.le_trans (sum_take I (k + 1)) HF.out.2
        obtain ⟨L, hL⟩ : ∃ L, numsAt I k = L := ⟨_, rfl⟩
        obtain ⟨s, hS⟩ : ∃ s, rowAt K k = s := ⟨_, rfl⟩
        obtain ⟨m, hm⟩ : ∃ m, pairsK (K.take k) (I.take k) = m := ⟨_, rfl⟩
        rw [hL] at cI hnt hLb hnext
        rw [hS] at hkc hnext
        rw [hm] at HJs hnext
        have HNX := Lib.hid hnext
        have HBD := Lib.hid hbd
        have HA : Hid (∀ V, Below w0.heap.size w0 V → V.cell? ⟨ib, ioff + k, none⟩ = some (.slice aj L.length cj) ∧ V.cell? ⟨kb, koff + k, none⟩ = some (.string (tx s)) ∧ Ints w0.heap.size V aj L) := Lib.hid fun V hV => ⟨(hV.cell (p := ⟨ib, ioff + k, none⟩) hib).trans cI, (hV.cell (p := ⟨kb, koff + k, none⟩) hkb2).trans hkc, hnt.below hV⟩
        obtain ⟨a0, a1, _⟩ := HA.out wr HBr.out
        subst ek ei
        clear hnext hbd hnt hL hS hm hib hkb2 hlI cI hkc
        gi_wp2
        gi_loopw [24] (fun j wr2 => ∃ q : Nat, j = .int .i64 q ∧ q ≤ L.length ∧ Hid (J (m ++ (L.take q).map fun n => (s, n)) wr2) ∧ Hid (Below w0.heap.size w0 wr2) ∧ Hid (wr2.heap[b]? = some (.cells #[.slice (some ⟨kb, koff, none⟩) K.length kc, .slice (some ⟨ib, ioff, none⟩) I.length ic] 25 (0, 0))))
          (fun j _ => L.length + 1 - (intOf j).toNat)
        case atStart => exact ⟨0, rfl, by omega, Lib.hid (by simpa using HJs.out), HBr, HCr⟩
        case round =>
          clear HJs g0 g1 a0 a1
          obtain ⟨q, rfl, hq, HJq, HBq, HCq⟩ := hrel
          by_cases hlq : q < L.length
          · have j1 : (q : Int) < (L.length : Int) := by omega
            have j3 : (0 : Int) ≤ (q : Int) := by omega
            rcases (HA.out wr HBq.out).2.2 with h | ⟨nb, noff, en, hnb, hnc⟩
            · exfalso; rw [h] at hlq; simp at hlq
            have cN := hnc q hlq
            have hmb : (m ++ (L.take q).map fun n => (s, n)).length < 2000 := by
              have h1 := HBD.out
              rw [HNX.out, List.length_append, List.length_map] at h1
              rw [List.length_append, List.length_map, List.length_take]
              omega
            obtain ⟨x, hxn⟩ : ∃ x, numAt L q = x := ⟨_, rfl⟩
            rw [hxn] at cN
            have HM3 : Hid ((m ++ (L.take q).map fun n => (s, n)) ++ [(s, x)] = m ++ (L.take (q + 1)).map fun n => (s, n)) := Lib.hid (by rw [take_more L q hlq, List.map_append, List.append_assoc, hxn]; rfl)
            obtain ⟨fn, tmps, assign, body, hy, hR⟩ := hY _ (s, x) wr HJq.out hmb
            dsimp only [prEnc] at hy
            subst en
            clear hnc hxn hmb
            gi_wp2
            refine hR.mono ?_
            rintro e W3 (⟨rfl, hJ3, hk3⟩ | ⟨rfl, hJx3⟩)
            · rw [HM3.out] at hJ3
              have HJ3 := Lib.hid hJ3
              have HB3 := Lib.hid (HBq.out.trans hk3.1)
              have HC3 := Lib.hid (hk3.2.trans HCq.out)
              clear hJ3 hk3
              gi_wp2
              go_roundw
              case rel => exact ⟨q + 1, by first | rfl | go_num, by omega, HJ3, HB3, HC3⟩
              case measure => first | (simp [intOf]; omega) | simp [intOf]
            · gi_wp2
              refine bodyPost_ret (results_none rfl _ _ _) rfl ?_
              exact ⟨⟨_, rfl⟩, .inr ⟨_, trivial, hJx3⟩⟩
          · obtain rfl : q = L.length := by omega
            have HJ2 : Hid (J (pairsK (K.take (k + 1)) (I.take (k + 1))) wr) := Lib.hid (by rw [HNX.out]; have := HJq.out; rw [List.take_length] at this; exact this)
            gi_wp2
            go_roundw
            case rel => exact ⟨k + 1, by first | rfl | go_num, by omega, HJ2, HBq, HCq⟩
            case measure => first | (simp [intOf]; omega) | simp [intOf]
      · obtain rfl : k = K.length := by omega
        gi_wp2
        go_end0
        refine ⟨⟨_, rfl⟩, .inl ⟨_, ?_, HJs.out⟩⟩
        unfold okL
        rw [if_pos rfl, HP.out, List.take_length, List.take_of_length_le (by have := HN.out; omega)]
end Go.Proofs.Ytnbmccfaomhppaa
