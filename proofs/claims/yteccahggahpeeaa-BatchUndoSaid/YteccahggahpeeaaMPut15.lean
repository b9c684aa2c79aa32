/- The program's Put. -/
import Derived.Test.YteccahggahpeeaaDif15
import Derived.Test.YteccahggahpeeaaMLeaf
import Derived.Test.YteccahggahpeeaaMOenc
import Derived.Deep.OwnRows
import Derived.RegionTactic
import Derived.BigRegion
import Derived.ChangeAlike
namespace Go.Proofs.Yteccahggahpeeaa
open Go.RowKit

theorem pnumber_any (n x : Int) (hE : putE n x = 0) (hn : n ≤ 9223372036854775807) (w : World) :
    Calls Try.prog 42 #[.int .i64 n, .int .i64 x] w fun e w' => e = .returned (.string (tx (putL n x))) ∧ Below w.heap.size w w' := by
  have hp := oput_any n x hn w
  rw [hE] at hp
  have HP := Lib.hid hp
  clear hp hE hn
  go_enter Try.func42, Try.ntmps42
  go_wp2_with (go_at_call 67; refine HP.out.mono ?_; rintro e w2 ⟨t, rfl, ht, hb⟩; have HB := Lib.hid hb; have HT := Lib.hid ht; clear hb ht)
  go_ret
  exact ⟨by rw [← tx_of HT.out.out]; rfl, HB.out⟩
set_option maxRecDepth 100000 in
set_option maxHeartbeats 2000000 in
theorem str_kept15 (B b : Nat) (bs : List Value) (s : ByteArray) (w : World) (h : Lib.IsBuilderF 90 5 B b bs w) (hlen : bs.length + s.size ≤ 140737488355328) (hs : 0 < s.size) (hBw : B ≤ w.heap.size) :
    Calls Try.prog 41 #[.pointer (some ⟨b, 0, none⟩), .string s] w fun e w' => e = .returned (.tuple #[.int .i64 s.size, .nilIface]) ∧ (Lib.IsBuilderF 90 5 B b (bs ++ Lib.byteCells s.data.toList) w' ∧ Below B w w' ∧ Lib.OthersKept 5 (some b) w w') := by
  obtain ⟨i0, hi, hz0, hz1, hz2⟩ := info_parts infoByte8
  go_enter Try.func41, Try.ntmps41
  go_wp2_with (go_at_call 66; refine (copied_any B b bs _ h).mono ?_)
  rintro e w1 ⟨rfl, h1, hb1, hk1⟩
  obtain ⟨hB, v, hbk, hown, hne⟩ := h1
  have hsz := hb1.size
  have hlt : b < w1.heap.size := (Array.getElem?_eq_some_iff.1 hbk).1
  have c0 : w1.cell? ⟨b, 0, none⟩ = some (.pointer (some ⟨b, 0, none⟩)) := by rw [Lib.cell_of_heap hbk]; rfl
  have c1 : w1.cell? ⟨b, 1, none⟩ = some v := by rw [Lib.cell_of_heap hbk]; rfl
  go_wp2_with (at_builtin; refine Lib.wpList_append_own_stringF _ rfl _ _ 88 9 rfl B 5 i0 Try.underlying88 Try.underlying9 hi hz0 hz1 hz2 _ _ _ rfl hown s rfl ?c3 ?c4 ?c5 ?_)
  case c3 => unfold maxLen; omega
  case c4 => omega
  case c5 => omega
  intro v' w2 hown' hgrow _
  have hb2 : w2.heap[b]? = some (.cells #[.pointer (some ⟨b, 0, none⟩), v] 90 (0, 0)) := by
    rw [hgrow.block b hlt (fun e => hne e.symm)]
    exact hbk
  have d0 : w2.cell? ⟨b, 0, none⟩ = some (.pointer (some ⟨b, 0, none⟩)) := by rw [Lib.cell_of_heap hb2]; rfl
  have d1 : w2.cell? ⟨b, 1, none⟩ = some v := by rw [Lib.cell_of_heap hb2]; rfl
  have f1 : w2.frozen? ⟨b, 1, none⟩ = false := Lib.frozen_of_heap hb2 1
  obtain ⟨g, cap, rfl⟩ : ∃ g cap, v' = .slice (some ⟨g, 0, none⟩) (bs.length + s.size) cap := by
    rcases hown'.2 with ⟨_, h0⟩ | ⟨g, cap, cur, fz, hv, _⟩
    · omega
    · exact ⟨g, cap, hv⟩
  go_wp2
  go_ret2
  refine ⟨rfl, Or.inr (Lib.BuilderAtF.put (T := 90) (e := 5) hB hb2 (bs' := bs ++ Lib.byteCells s.data.toList) (by
    have e : (bs ++ Lib.byteCells s.data.toList).length = bs.length + s.size := by rw [List.length_append, Lib.byteCells_length, ← text_size]
    rw [e]; exact hown') (by decide)), ?_, (hk1.grown hgrow (Lib.ownsRowF_kind hown)).setCell ⟨b, 1, none⟩ rfl _⟩
  exact (hb1.grown hgrow (by omega) (fun k hk => (hown.lt k hk).1)).setCell (p := ⟨b, 1, none⟩) hB _
/-- Where Put is: the store lies boxed, and so much is written. -/
structure Pb15 (w : World) (a : Option Addr) (c : Nat) (S : St15) (b : Nat) (bs : List UInt8) (W : World) : Prop where
  old : Below w.heap.size w W
  lt : w.heap.size < b
  box : W.heap[w.heap.size]? = some (.cells #[.slice a S.length c] 24 (0, 0))
  bld : Lib.IsBuilderF 90 5 b b (Lib.byteCells bs) W
  le : b ≤ W.heap.size
theorem below_kept15 {w w' : World} (h : Below w.heap.size w w') (row : Option Nat) : w.grownBy w' row := ⟨h.os, h.tape, h.output, h.size, fun k hk _ => h.block k hk⟩
theorem bld_below {T e : TypeId} {B b : Nat} {bs : List Value} {W V : World} (h : Lib.IsBuilderF T e B b bs W) (hb : Below W.heap.size W V) : Lib.IsBuilderF T e B b bs V := by
  have one : ∀ p, Lib.BuilderAtF T e B b p bs W → Lib.BuilderAtF T e B b p bs V := fun p ⟨h1, v, h2, h3, h4⟩ =>
    ⟨h1, v, old_obj hb h2, h3.kept (below_kept15 hb none) (by cases hq : v.ownBlock with | none => exact Or.inl rfl | some k => exact Or.inr (by simp)), h4⟩
  rcases h with h | h
  · exact Or.inl (one _ h)
  · exact Or.inr (one _ h)
theorem Pb15.step {w : World} {a : Option Addr} {c : Nat} {S : St15} {b : Nat} {bs : List UInt8} {W V : World} (h : Pb15 w a c S b bs W) (hb : Below W.heap.size W V) : Pb15 w a c S b bs V :=
  ⟨h.old.trans (hb.mono h.old.size), h.lt, old_obj hb h.box, bld_below h.bld hb, Nat.le_trans h.le hb.size⟩
theorem Pb15.write {w : World} {a : Option Addr} {c : Nat} {S : St15} {b : Nat} {bs : List UInt8} {W V : World} (h : Pb15 w a c S b bs W) {l : List UInt8} (hI : Lib.IsBuilderF 90 5 b b (Lib.byteCells bs ++ Lib.byteCells (tx l).data.toList) V) (hb : Below b W V) : Pb15 w a c S b (bs ++ l) V := by
  have hl := h.lt
  refine ⟨h.old.trans (hb.mono (by omega)), hl, by rw [hb.block _ hl]; exact h.box, ?_, Nat.le_trans h.le hb.size⟩
  rw [tx_list] at hI
  have e : Lib.byteCells bs ++ Lib.byteCells l = Lib.byteCells (bs ++ l) := by simp [Lib.byteCells]
  rw [← e]; exact hI
theorem Pb15.fact {w : World} {a : Option Addr} {c : Nat} {S : St15} {b : Nat} {bs : List UInt8} {W : World} (h : Pb15 w a c S b bs W) : W.cell? ⟨w.heap.size, 0, none⟩ = some (.slice a S.length c) := cell_of h.box rfl
theorem Pb15.call {w : World} {a : Option Addr} {c : Nat} {S : St15} {b : Nat} {bs : List UInt8} {W : World} (h : Pb15 w a c S b bs W) (l : List UInt8) (h0 : 0 < l.length) (hlen : bs.length + l.length ≤ 10000000) :
    Calls Try.prog 41 #[.pointer (some ⟨b, 0, none⟩), .string (tx l)] W fun e w' => e = .returned (.tuple #[.int .i64 (tx l).size, .nilIface]) ∧ Pb15 w a c S b (bs ++ l) w' ∧ Lib.OthersKept 5 (some b) W w' := by
  refine (str_kept15 b b (Lib.byteCells bs) (tx l) W h.bld (by rw [Lib.byteCells_length, tx_size]; omega) (by rw [tx_size]; exact h0) h.le).mono ?_
  rintro e w' ⟨rfl, h1, h2, h3⟩
  exact ⟨rfl, h.write h1 h2, h3⟩
end Go.Proofs.Yteccahggahpeeaa
namespace Go.Proofs.Yteccahggahpeeaa
open Go.RowKit

theorem putL_long {n x : Int} (h : putE n x = 0) : (putL n x).length = x.toNat := by unfold putL; rw [if_pos h, be_len]
theorem tabs_next (S : St15) {i : Nat} (h : i < S.length) : (S.take (i + 1)).flatMap tabL = (S.take i).flatMap tabL ++ tabL (tab S (i : Int)) := by
  rw [take_tab15 S h, List.flatMap_append, List.flatMap_cons, List.flatMap_nil, List.append_nil]
theorem recs_next (T : Tb15) {k : Nat} (h : k < T.length) : (T.take (k + 1)).flatMap recL = (T.take k).flatMap recL ++ recL (recAt T k) := by
  rw [List.take_add_one, recAt_get h, List.flatMap_append]
  show _ ++ List.flatMap _ [recAt T k] = _
  rw [List.flatMap_cons, List.flatMap_nil, List.append_nil]
theorem kept_row15 {W V : World} {b g : Nat} {arr : Array Value} (h : W.heap[g]? = some (.cells arr 67 (0, 0))) (hk : Lib.OthersKept 5 (some b) W V) (hb : g ≠ b) : V.heap[g]? = some (.cells arr 67 (0, 0)) :=
  hk g _ h (fun e => by injection e with e; exact hb e) (fun c fz e => by injection e with _ e2 _; exact absurd e2 (by decide))
set_option maxRecDepth 100000 in
set_option maxHeartbeats 16000000 in
theorem pput15_any (a : Option Addr) (c : Nat) (S : St15) (w : World) (h : StV w a c S) : Calls Try.prog 23 #[stVal a c S] w fun e w' => e = .returned (.tuple #[.string (tx (putS S)), .int .i64 (checkS S)]) ∧ Below w.heap.size w w' := by
  have hb0 := (Below.refl w.heap.size w).alloc (Nat.le_refl _) (.cells #[.slice a S.length c] 24)
  have HO := Lib.hid (heap_alloc_new w (.cells #[.slice a S.length c] 24))
  have HB := Lib.hid hb0
  have HCK := Lib.hid (pcheck15_any a c S _ (h.step hb0))
  have HX := Lib.hid h.1
  have HSZ : Hid ((w.alloc (.cells #[.slice a S.length c] 24)).heap.size = w.heap.size + 1) := Lib.hid (by simp)
  clear h hb0
  by_cases hk : checkS S = 0
  · have hok := checkS_ok.1 hk
    have HPS : Hid (putS S = putL S.length 1 ++ S.flatMap tabL) := Lib.hid (by unfold putS; rw [if_pos hk]; rfl)
    rw [hk] at HCK ⊢
    have hl8 := hok.len
    have hE0 : putE S.length 1 = 0 := put_fine (by unfold wideW; omega) (by omega) (by show (S.length : Int) < 256; omega)
    have HN0 := Lib.hid (fun W => pnumber_any S.length 1 hE0 (by omega) W)
    have HL0 := Lib.hid (putL_long hE0)
    have HTT : Hid (∀ i : Nat, i < S.length → OkT (tab S (i : Int))) := Lib.hid fun i hi => hok.tab _ (by rw [tab_at hi]; exact List.getElem_mem hi)
    have HTL : Hid (∀ i, ((S.take i).flatMap tabL).length ≤ 100000) := Lib.hid fun i => by
      have h1 := tabs_len (S := S.take i) (fun T hT => hok.tab T (List.mem_of_mem_take hT))
      have h2 := List.length_take_le' i S
      omega
    clear hk hok hE0
    go_enter Try.func23, Try.ntmps23
    go_upto_region 1 with fail
    generalize w.alloc (.cells #[.slice a S.length c] 24) = V at *
    have c0 := cell_of HO.out (j := 0) rfl
    go_upto_region 5 with (go_at_call 19; refine HCK.out.mono ?_; rintro e w2 ⟨rfl, hb⟩; have HB2 := Lib.hid (And.intro (HB.out.trans (hb.mono HB.out.size)) (And.intro (old_obj hb HO.out) hb.size)); clear hb c0)
    have HP0 : Hid (Pb15 w a c S w2.heap.size [] (w2.alloc (.cells #[.pointer none, .slice none 0 0] 90))) := Lib.hid (by
      have h1 := (Below.refl w2.heap.size w2).alloc (Nat.le_refl _) (.cells #[.pointer none, .slice none 0 0] 90)
      exact ⟨HB2.out.1.trans (h1.mono HB2.out.1.size), by have := HB2.out.2.2; have := HSZ.out; omega, old_obj h1 HB2.out.2.1, Lib.IsBuilderF.of (Lib.fresh_isBuilder 90 5 w2), h1.size⟩)
    generalize w2.alloc (.cells #[.pointer none, .slice none 0 0] 90) = V2 at *
    generalize w2.heap.size = b at *
    have c1 := HP0.out.fact
    go_upto_region 6 with (first
      | (go_at_call 42; refine (HN0.out _).mono ?_; rintro e w3 ⟨rfl, hb⟩; have HP1 := Lib.hid (HP0.out.step hb); clear hb c1)
      | (go_at_call 41; refine (HP1.out.call (putL S.length 1) (by rw [HL0.out]; decide) (by rw [HL0.out]; decide)).mono ?_; rintro e w4 ⟨rfl, hp, -⟩; have HP2 := Lib.hid hp; have c2 := hp.fact; clear hp))
    have HP3 : Hid (Pb15 w a c S b (putL S.length 1 ++ (S.take 0).flatMap tabL) w4) := Lib.hid (by
      have := HP2.out
      rw [List.nil_append] at this
      show Pb15 w a c S b (putL S.length 1 ++ []) w4
      rw [List.append_nil]; exact this)
    clear HP0 HP1 HP2
    go_upto_region 7 with fail
    go_loopw [25] (fun s25 wr => ∃ i : Nat, s25 = .int .i64 i ∧ i ≤ S.length ∧ Hid (Pb15 w a c S b (putL S.length 1 ++ (S.take i).flatMap tabL) wr)) (fun i _ => S.length + 1 - (intOf i).toNat)
    case atStart => exact ⟨0, rfl, by omega, HP3⟩
    case round =>
      clear HP3 c2
      obtain ⟨i, rfl, hi, HP⟩ := hrel
      by_cases hlt : i < S.length
      · have i1 : (i : Int) < (S.length : Int) := by omega
        have i3 : (0 : Int) ≤ (i : Int) := by omega
        obtain ⟨tb, toff, ea, _, aj, cj, x0, _, x1⟩ := (HX.out.step HP.out.old).at hlt
        have hT := HTT.out i hlt
        have HTX : Hid (∀ W, Below w.heap.size w W → Els recE 0 W.heap.size W aj (tab S (i : Int))) := Lib.hid fun W hW => by
          obtain ⟨b2, o2, e2, hb2, a2, c2, y0, _, y1⟩ := HX.out.at hlt
          rw [ea] at e2; cases e2
          have y2 := (HP.out.old.cell (p := ⟨tb, toff + i, none⟩) hb2).trans y0
          rw [x0] at y2
          injection y2 with y2
          injection y2 with q1 _ _
          rw [q1]; exact y1.step hW
        have HNX := Lib.hid (tabs_next S hlt)
        have HPL := Lib.hid (HTL.out i)
        have hEt : putE (tab S (i : Int)).length 1 = 0 := put_fine (by unfold wideW; omega) (by omega) (by have := hT.len; show ((tab S (i : Int)).length : Int) < 256; omega)
        have HOKT := Lib.hid hT
        subst ea
        clear x1 hT
        generalize tab S (i : Int) = T at *
        have HN1 := Lib.hid (fun W => pnumber_any T.length 1 hEt (by have := HOKT.out.len; omega) W)
        have HL1 := Lib.hid (putL_long hEt)
        clear hEt
        go_upto_region 10 with (first
          | (go_at_call 42; refine (HN1.out _).mono ?_; rintro e w5 ⟨rfl, hb⟩; have HQ1 := Lib.hid (HP.out.step hb); clear hb x0)
          | (go_at_call 41; refine (HQ1.out.call (putL T.length 1) (by rw [HL1.out]; decide) (by rw [HL1.out, List.length_append, HL0.out]; have := HPL.out; show 1 + _ + 1 ≤ _; omega)).mono ?_; rintro e w6 ⟨rfl, hp, -⟩; have HQ2 := Lib.hid hp; clear hp))
        have HQ3 : Hid (Pb15 w (some ⟨tb, toff, none⟩) c S b (putL S.length 1 ++ (S.take i).flatMap tabL ++ putL T.length 1 ++ (T.take 0).flatMap recL) w6) := Lib.hid (by
          show Pb15 w (some ⟨tb, toff, none⟩) c S b (putL S.length 1 ++ (S.take i).flatMap tabL ++ putL T.length 1 ++ []) w6
          rw [List.append_nil]; exact HQ2.out)
        have hT60 := HOKT.out.len
        clear HQ1 HQ2 HP
        go_upto_region 11 with fail
        go_loopw [35] (fun s35 wr => ∃ k : Nat, s35 = .int .i64 k ∧ k ≤ T.length ∧ Hid (Pb15 w (some ⟨tb, toff, none⟩) c S b (putL S.length 1 ++ (S.take i).flatMap tabL ++ putL T.length 1 ++ (T.take k).flatMap recL) wr)) (fun k _ => T.length + 1 - (intOf k).toNat)
        case atStart => exact ⟨0, rfl, by omega, HQ3⟩
        case round =>
          clear HQ3
          obtain ⟨k, rfl, hk, HP⟩ := hrel
          by_cases hlt2 : k < T.length
          · have j1 : (k : Int) < (T.length : Int) := by omega
            have j3 : (0 : Int) ≤ (k : Int) := by omega
            obtain ⟨rb, roff, er, _, o0, o1⟩ := recs_at (HTX.out _ HP.out.old) hlt2
            have hmem : recAt T k ∈ T := by
              have := recAt_get hlt2
              exact List.mem_of_getElem? this
            have hid := HOKT.out.ids _ hmem
            have htx := HOKT.out.txt _ hmem
            have HRN := Lib.hid (recs_next T hlt2)
            have hEi : putE (recAt T k).1 4 = 0 := put_fine (by unfold wideW; omega) (by omega) (by show (recAt T k).1 < 4294967296; omega)
            have HN2 := Lib.hid (fun W => pnumber_any (recAt T k).1 4 hEi (by omega) W)
            have HL2 := Lib.hid (putL_long hEi)
            have HLY : Hid (∀ W, Calls Try.prog 43 #[.string (tx (recAt T k).2)] W fun e w' => e = .returned (.tuple #[.string (tx (layL (recAt T k).2)), .int .i64 0]) ∧ Below W.heap.size W w') := Lib.hid fun W => by
              refine (olay_any (tx (recAt T k).2) (by rw [tx_size]; omega) W).mono ?_
              rintro e w' ⟨t, rfl, ht, hb⟩
              have h1 := ht.out
              rw [tx_list] at h1 ⊢
              refine ⟨?_, hb⟩
              rw [tx_of h1]
              have : layE (recAt T k).2 = 0 := by unfold layE; rw [if_pos (by omega)]
              rw [this]
            have HLL : Hid (0 < (layL (recAt T k).2).length ∧ (layL (recAt T k).2).length ≤ 202) := Lib.hid (by
              have : layE (recAt T k).2 = 0 := by unfold layE; rw [if_pos (by omega)]
              unfold layL
              rw [if_pos this, List.length_append, be_len]; omega)
            have HRL : Hid (((T.take k).flatMap recL).length ≤ 100000) := Lib.hid (by
              have h1 := recs_len (T := T.take k) (fun q hq => HOKT.out.txt q (List.mem_of_mem_take hq))
              have h2 := List.length_take_le' k T
              omega)
            have hw1 := (Below.refl wr.heap.size wr).alloc (Nat.le_refl _) (.cells #[.int .i64 (recAt T k).1, .string (tx (recAt T k).2)] 67)
            have HP1 := Lib.hid (HP.out.step hw1)
            have HV1 := Lib.hid (heap_alloc_new wr (.cells #[.int .i64 (recAt T k).1, .string (tx (recAt T k).2)] 67))
            have HNE : Hid (wr.heap.size ≠ b) := Lib.hid (by
              have : b < wr.heap.size := by
                rcases HP.out.bld with ⟨_, v, q, _⟩ | ⟨_, v, q, _⟩
                · exact obj_lt q
                · exact obj_lt q
              omega)
            subst er
            clear hw1 hmem hid htx hEi
            generalize recAt T k = r at *
            go_upto_region 13 with fail
            generalize wr.alloc (.cells #[.int .i64 r.1, .string (tx r.2)] 67) = W1 at *
            have v0 := cell_of HV1.out (j := 0) rfl
            go_upto_region 14 with (first
              | (go_at_call 42; refine (HN2.out _).mono ?_; rintro e w7 ⟨rfl, hb⟩; have HQ1 := Lib.hid (HP1.out.step hb); have HV2 := Lib.hid (old_obj hb HV1.out); clear hb v0)
              | (go_at_call 41; refine (HQ1.out.call (putL r.1 4) (by rw [HL2.out]; decide) (by rw [HL2.out]; simp only [List.length_append, HL0.out, HL1.out]; have := HPL.out; have := HRL.out; show 1 + _ + 1 + _ + 4 ≤ _; omega)).mono ?_; rintro e w8 ⟨rfl, hp, hkk⟩; have HQ2 := Lib.hid hp; have HV3 := Lib.hid (kept_row15 HV2.out hkk HNE.out); clear hp hkk))
            have v1 := cell_of HV3.out (j := 1) rfl
            go_upto_region 16 with (first
              | (go_at_call 43; refine (HLY.out _).mono ?_; rintro e w9 ⟨rfl, hb⟩; have HQ3 := Lib.hid (HQ2.out.step hb); clear hb v1)
              | (go_at_call 41; refine (HQ3.out.call (layL r.2) HLL.out.1 (by simp only [List.length_append, HL0.out, HL1.out, HL2.out]; have := HPL.out; have := HRL.out; have := HLL.out.2; show 1 + _ + 1 + _ + 4 + _ ≤ _; omega)).mono ?_; rintro e wa ⟨rfl, hp, -⟩; have HQ4 := Lib.hid hp; clear hp))
            have HQ5 : Hid (Pb15 w (some ⟨tb, toff, none⟩) c S b (putL S.length 1 ++ (S.take i).flatMap tabL ++ putL T.length 1 ++ (T.take (k + 1)).flatMap recL) wa) := Lib.hid (by
              rw [HRN.out]
              have := HQ4.out
              unfold recL
              simp only [List.append_assoc] at this ⊢
              exact this)
            go_wp2
            go_roundw
            case rel => exact ⟨k + 1, by first | rfl | go_num, by omega, HQ5⟩
            case measure => first | (simp [intOf]; omega) | simp [intOf]
          · obtain rfl : k = T.length := by omega
            have HQ5 : Hid (Pb15 w (some ⟨tb, toff, none⟩) c S b (putL S.length 1 ++ (S.take (i + 1)).flatMap tabL) wr) := Lib.hid (by
              rw [HNX.out]
              have := HP.out
              rw [List.take_length] at this
              unfold tabL
              simp only [List.append_assoc] at this ⊢
              exact this)
            go_wp2
            go_roundw
            case rel => exact ⟨i + 1, by first | rfl | go_num, by omega, HQ5⟩
            case measure => first | (simp [intOf]; omega) | simp [intOf]
      · obtain rfl : i = S.length := by omega
        have HQ : Hid (Pb15 w a c S b (putS S) wr) := Lib.hid (by
          have := HP.out
          rw [List.take_length] at this
          rw [HPS.out]; exact this)
        clear HP
        go_wp2_with (go_at_call 44; refine (Try.Builder_String_any_k b b (putS S) _ HQ.out.bld HQ.out.le).mono ?_; rintro e w3 ⟨rfl, g1, b1, k1⟩)
        go_ret2
        exact ⟨rfl, HQ.out.old.trans (b1.mono (Nat.le_of_lt HQ.out.lt))⟩
  · have hk2 := (check_two15 S).resolve_left hk
    have hP : putS S = [] := by unfold putS; rw [if_neg hk]
    rw [hk2] at HCK ⊢
    rw [hP]
    clear hk hk2 hP
    go_enter Try.func23, Try.ntmps23
    go_upto_region 1 with fail
    generalize w.alloc (.cells #[.slice a S.length c] 24) = V at *
    have c0 := cell_of HO.out (j := 0) rfl
    go_wp2_with (go_at_call 19; refine HCK.out.mono ?_; rintro e w2 ⟨rfl, hb⟩; have HB2 := Lib.hid (HB.out.trans (hb.mono HB.out.size)); clear hb c0)
    go_ret2
    exact ⟨rfl, HB2.out⟩
end Go.Proofs.Yteccahggahpeeaa
