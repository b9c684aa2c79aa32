/- The document's own Scan of frames, for every text and epoch, in every world. -/
import Derived.Test.YtpjahfobjnajcaaDoorRget10
namespace Go.Proofs.YtpjahfobjnajcaaDoor
open Go.RowKit

theorem own_on {w w' : World} {B k : Nat} {e : TypeId} {v : Value} {xs : List Value} (h : w.ownsRow B e 1 v k xs) (hb : Below w.heap.size w w') : w'.ownsRow B e 1 v k xs := by
  refine ⟨h.1, ?_⟩
  rcases h.2 with h1 | ⟨g, cap, cur, h1, h2, h3, h4⟩
  · exact Or.inl h1
  · exact Or.inr ⟨g, cap, cur, h1, h2, old_obj hb h3, h4⟩
set_option maxHeartbeats 1000000 in
theorem rscan10_any (s : ByteArray) (hs : s.size ≤ 281474976710656) (ep : Int) (w : World) :
    Calls Tryd.prog 11 #[.string s, .int .i64 ep] w fun e w' => ∃ a c, e = .returned (.tuple #[.slice a (scanV s.data.toList ep).1.length c, .int .i64 ((scanV s.data.toList ep).2 : Nat)]) ∧ (scanV s.data.toList ep).1.length ≤ c ∧ Txs w.heap.size w'.heap.size w' a (scanV s.data.toList ep).1 ∧ Below w.heap.size w w' := by
  have HG : Hid (∀ (q : Nat) (v : World), 64 * q ≤ s.size → Calls Tryd.prog 9 #[.string s, .int .i64 q] v fun e w' => e = .returned (res10 s.data.toList q) ∧ Below v.heap.size v w') := Lib.hid fun q v hq => rget10_any s hs q (by omega) (by omega) v
  have HS := Lib.hid hs
  have hz := text_size s
  obtain ⟨L, hL⟩ : ∃ L, s.data.toList = L := ⟨_, rfl⟩
  rw [hL] at HG hz ⊢
  have HZ := Lib.hid hz
  clear hs hz hL
  go_enter Tryd.func11, Tryd.ntmps11
  go_upto_region 3 with fail
  go_loopw [6, 7] (fun v' i' wr => ∃ (a : Option Addr) (cap q : Nat) (xs : List (List UInt8)), v' = .slice a xs.length cap ∧ i' = .int .i64 q ∧ wr.ownsRow w.heap.size 9 1 (.slice a xs.length cap) xs.length (txCells xs) ∧ Hid (Below w.heap.size w wr) ∧ Hid (Sc L ep xs q)) (fun _ i _ => s.size - (intOf i).toNat)
  case atStart => exact ⟨none, 0, 0, [], rfl, rfl, World.ownsRow_nil _ _ _ _, Lib.hid (Below.refl _ _), Lib.hid (sc_start L ep)⟩
  case round =>
    obtain ⟨a, cap, q, xs, rfl, rfl, ho, hb, hsc⟩ := hrel
    have HO := Lib.hid ho
    have hlen := sc_len hsc.out
    have hs := HS.out
    have hz := HZ.out
    have hg := HG.out q wr (by omega)
    have HLN := Lib.hid (And.intro hlen (And.intro hs hz))
    clear ho hlen hs hz
    have hbad := fun h => get_bad10 (L := L) (p := (q : Int)) h
    unfold res10 at hg
    have hstop := fun h => sc_stop hsc.out h
    have hstep := fun h1 h2 h3 => sc_step hsc.out h1 h2 h3
    obtain ⟨E, hE⟩ : ∃ E, getE10 L q = E := ⟨_, rfl⟩
    obtain ⟨X, hX⟩ : ∃ E, getEp L q = E := ⟨_, rfl⟩
    obtain ⟨Q, hQ⟩ : ∃ E, getSq L q = E := ⟨_, rfl⟩
    obtain ⟨T2, hto⟩ : ∃ E, getTo L q = E := ⟨_, rfl⟩
    rw [hE, hX, hQ, hto] at hg
    rw [hE, hX, hQ] at hstop
    rw [hE, hX, hQ, hto] at hstep
    have i1 : IntKind.i64.wrap ((xs.length : Int) + 1) = (xs.length : Int) + 1 := IntWalk.i64_in _ (by have := HLN.out; omega)
    have HSTOP := Lib.hid hstop
    have HSTEP := Lib.hid hstep
    clear hstop hstep hbad hE hX hQ hto
    go_upto_region 4 with (go_at_call 9; refine hg.mono ?_; rintro e w2 ⟨rfl, hb2⟩; have HB2 := Lib.hid hb2; clear hb2)
    have b3 : Below wr.heap.size wr (w2.alloc (.cells #[.int .i64 X, .int .i64 Q, .string (tx (getB L q))] 28)) := HB2.out.alloc HB2.out.size _
    have ho3 := own_on HO.out b3
    have bw := hb.out.trans (b3.mono hb.out.size)
    obtain ⟨c0, c1, c2, _, _, _⟩ := three_cells (heap_alloc_new w2 (.cells #[.int .i64 X, .int .i64 Q, .string (tx (getB L q))] 28))
    have HO3 := Lib.hid ho3
    have BW := Lib.hid bw
    clear b3 ho3 bw hg
    generalize w2.alloc (.cells #[.int .i64 X, .int .i64 Q, .string (tx (getB L q))] 28) = W3 at *
    by_cases h1 : E = 0
    · have e1 : (E != 0) = false := by rw [h1]; rfl
      by_cases h2 : X = ep
      · have e2 : (X != ep) = false := by rw [h2]; simp
        by_cases h3 : Q = (xs.length : Int) + 1
        · have e3 : (Q != (xs.length : Int) + 1) = false := by rw [h3]; simp
          obtain ⟨t, ht, hlt, hle, hsc2⟩ := HSTEP.out h1 h2 h3
          have HN := Lib.hid (And.intro hlt (And.intro hle hsc2))
          subst ht
          clear h1 h2 h3 hlt hle hsc2
          go_wp2_with (at_builtin; refine append_tx rfl _ _ rfl w.heap.size xs.length _ (txCells xs) rfl HO3.out (tx (getB L q)) _ rfl ?c3 ?c4 ?c2 ?_)
          case c2 => exact BW.out.size
          case c3 => rfl
          case c4 => have := HLN.out; omega
          intro v' w4 ho4 hg4
          rw [txCells_more] at ho4
          have ho5 : w4.ownsRow w.heap.size 9 1 v' (xs ++ [getB L q]).length (txCells (xs ++ [getB L q])) := by rw [List.length_append]; exact ho4
          obtain ⟨a', cap', hv, _, _⟩ := txs_own ho5
          subst hv
          have b4 : Below w.heap.size w w4 := by
            refine BW.out.trans ?_
            refine ((Below.refl w.heap.size W3).alloc BW.out.size (.cells #[.string (tx (getB L q))] 9)).grown hg4 (by have := BW.out.size; simp; omega) fun k hk => ?_
            exact (HO3.out.lt k hk).1
          have HO5 := Lib.hid ho5
          have B4 := Lib.hid b4
          clear ho4 ho5 b4 hg4 c0 c1 c2
          go_wp2
          go_roundw
          case rel => exact ⟨a', cap', t, xs ++ [getB L q], rfl, by first | rfl | go_num, HO5.out, B4, Lib.hid HN.out.2.2⟩
          case measure => have := HN.out; have := HLN.out; simp [intOf]; omega
        · have e3 : (Q != (xs.length : Int) + 1) = true := by rw [bne_iff_ne]; exact h3
          have HR := Lib.hid (HSTOP.out (fun h => h3 h.2.2))
          obtain ⟨a', cap', hv, hc, ht⟩ := txs_own HO3.out
          injection hv with hv1 _ hv3
          subst hv1 hv3
          have HT := Lib.hid ht
          clear h1 h2 h3 ht
          go_wp2
          go_ret2
          exact ⟨a, cap, by rw [HR.out]; rfl, by rw [HR.out]; exact hc, by rw [HR.out]; exact HT.out, BW.out⟩
      · have e2 : (X != ep) = true := by rw [bne_iff_ne]; exact h2
        have HR := Lib.hid (HSTOP.out (fun h => h2 h.2.1))
        obtain ⟨a', cap', hv, hc, ht⟩ := txs_own HO3.out
        injection hv with hv1 _ hv3
        subst hv1 hv3
        have HT := Lib.hid ht
        clear h1 h2 ht
        go_wp2
        go_ret2
        exact ⟨a, cap, by rw [HR.out]; rfl, by rw [HR.out]; exact hc, by rw [HR.out]; exact HT.out, BW.out⟩
    · have e1 : (E != 0) = true := by rw [bne_iff_ne]; exact h1
      have HR := Lib.hid (HSTOP.out (fun h => h1 h.1))
      obtain ⟨a', cap', hv, hc, ht⟩ := txs_own HO3.out
      injection hv with hv1 _ hv3
      subst hv1 hv3
      have HT := Lib.hid ht
      clear h1 ht
      go_wp2
      go_ret2
      exact ⟨a, cap, by rw [HR.out]; rfl, by rw [HR.out]; exact hc, by rw [HR.out]; exact HT.out, BW.out⟩
end Go.Proofs.YtpjahfobjnajcaaDoor
