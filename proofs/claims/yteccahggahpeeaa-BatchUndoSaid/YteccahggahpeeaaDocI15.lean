/- The document's Put of a store, for every store and in every world. -/
import Derived.Test.YteccahggahpeeaaBatD15
import Derived.Test.YteccahggahpeeaaMBits5
import Derived.Test.YteccahggahpeeaaMDocA15
namespace Go.Proofs.Yteccahggahpeeaa
open Go.RowKit

theorem byte_put {n : Nat} (h : n ≤ 255) : putL (n : Int) 1 = [UInt8.ofNat n] := by
  have hp : putE (n : Int) 1 = 0 := put_fine (Or.inl rfl) (by omega) (by rw [show (256 : Int) ^ (1 : Int).toNat = 256 from by decide]; omega)
  unfold putL
  rw [if_pos hp, Int.toNat_natCast, show (1 : Int).toNat = 1 from rfl]
  show be 0 (n / 256) ++ [UInt8.ofNat (n % 256)] = _
  rw [Nat.mod_eq_of_lt (by omega)]
  rfl
theorem cells_split {S : St15} {i : Nat} (h : i < S.length) : cellsF 0 S = cellsF 0 (S.take i) ++ (rowC (i : Int) (tab S (i : Int)) ++ cellsF (i + 1) (S.drop (i + 1))) := by
  conv => lhs; rw [split_at h]
  rw [cells_append, List.length_take, Nat.min_eq_left (by omega), tab_at h]
  show _ ++ (rowC ((0 + i : Nat) : Int) S[i] ++ cellsF (0 + i + 1) _) = _
  rw [Nat.zero_add]
def cellK (S : St15) (i : Nat) : Nat := (cellsF 0 (S.take i)).length
theorem cellK_step {S : St15} {i : Nat} (h : i < S.length) : cellK S (i + 1) = cellK S i + (tab S (i : Int)).length := by
  unfold cellK
  have e : S.take (i + 1) = S.take i ++ [tab S (i : Int)] := by rw [List.take_add_one, List.getElem?_eq_getElem h, tab_at h]; rfl
  rw [e, cells_append, List.length_append]
  congr 1
  show (rowC _ _ ++ []).length = _
  rw [List.append_nil]
  unfold rowC
  rw [List.length_map]
theorem cell_in {S : St15} {i q : Nat} (h : i < S.length) (hq : q < (tab S (i : Int)).length) : cellK S i + q < (cellsF 0 S).length ∧ clAt (cellsF 0 S) (cellK S i + q) = ((i : Int), ((tab S (i : Int)).getD q (0, [])).1, ((tab S (i : Int)).getD q (0, [])).2) := by
  have hl : (rowC (i : Int) (tab S (i : Int))).length = (tab S (i : Int)).length := by unfold rowC; rw [List.length_map]
  have hs := cells_split h
  refine ⟨by rw [hs, List.length_append, List.length_append, hl]; unfold cellK; omega, ?_⟩
  rw [hs]
  unfold clAt cellK
  rw [List.getD_eq_getElem?_getD, List.getElem?_append_right (by omega), Nat.add_sub_cancel_left, List.getElem?_append_left (by omega)]
  unfold rowC
  rw [List.getElem?_map, List.getElem?_eq_getElem hq, List.getD_eq_getElem?_getD, List.getElem?_eq_getElem hq]
  rfl
theorem cell_past {S : St15} {i : Nat} (h : i < S.length) (hk : cellK S i + (tab S (i : Int)).length < (cellsF 0 S).length) : (clAt (cellsF 0 S) (cellK S i + (tab S (i : Int)).length)).1 ≠ (i : Int) := by
  have hl : (rowC (i : Int) (tab S (i : Int))).length = (tab S (i : Int)).length := by unfold rowC; rw [List.length_map]
  have hs := cells_split h
  rw [hs, List.length_append, List.length_append, hl] at hk
  unfold cellK at hk
  have hz : 0 < (cellsF (i + 1) (S.drop (i + 1))).length := by omega
  have e : clAt (cellsF 0 S) (cellK S i + (tab S (i : Int)).length) = clAt (cellsF (i + 1) (S.drop (i + 1))) 0 := by
    rw [hs]
    unfold clAt cellK
    rw [List.getD_eq_getElem?_getD, List.getElem?_append_right (by omega), Nat.add_sub_cancel_left, List.getElem?_append_right (by omega), hl, Nat.sub_self, List.getD_eq_getElem?_getD]
  rw [e]
  have hm : clAt (cellsF (i + 1) (S.drop (i + 1))) 0 ∈ cellsF (i + 1) (S.drop (i + 1)) := List.mem_of_getElem? (clAt_get hz)
  have := cells_tab hm
  omega
theorem rec_len {T : Tb15} (h : OkT T) {r : Rec15} (hr : r ∈ T) : (putL r.1 4).length ≤ 4 ∧ (layL r.2).length ≤ 202 := by
  constructor
  · unfold putL
    split
    · rw [be_len]; exact Nat.le_refl _
    · exact Nat.zero_le _
  · have := h.txt r hr
    unfold layL
    split
    · rw [List.length_append, be_len]; omega
    · exact Nat.zero_le _
/-- The bytes ahead of a table. -/
def preL (S : St15) (i : Nat) : List UInt8 := putL S.length 1 ++ (S.take i).flatMap tabL
theorem preL_step {S : St15} {i : Nat} (h : i < S.length) : preL S (i + 1) = preL S i ++ (putL (tab S (i : Int)).length 1 ++ (tab S (i : Int)).flatMap recL) := by
  unfold preL
  have e : S.take (i + 1) = S.take i ++ [tab S (i : Int)] := by rw [List.take_add_one, List.getElem?_eq_getElem h, tab_at h]; rfl
  rw [e, List.flatMap_append, ← List.append_assoc]
  simp [tabL]
theorem rec_step {T : Tb15} {q : Nat} (h : q < T.length) : (T.take (q + 1)).flatMap recL = (T.take q).flatMap recL ++ (putL (T.getD q (0, [])).1 4 ++ layL (T.getD q (0, [])).2) := by
  rw [List.take_add_one, List.getElem?_eq_getElem h, List.flatMap_append, List.getD_eq_getElem?_getD, List.getElem?_eq_getElem h]
  simp [recL]
set_option maxRecDepth 100000 in
set_option maxHeartbeats 8000000 in
theorem rput15_any (S : St15) (a : Option Addr) (c : Nat) (w : World) (h : Els clE 0 w.heap.size w a (cellsF 0 S)) (hcn : S.length ≤ 100000) (hn : (cellsF 0 S).length ≤ 50000) :
    Calls Try.prog 24 #[docVal S.length a c (cellsF 0 S)] w fun e w' => e = .returned (.tuple #[.string (tx (putS S)), .int .i64 (checkS S)]) ∧ Below w.heap.size w w' := by
  have hb0 := boxD_start w S.length a c (cellsF 0 S)
  have hck := rcheck15_any S.length a c (cellsF 0 S) _ (h.step hb0.1) hcn (by omega)
  have HB := Lib.hid hb0
  have HX := Lib.hid h
  obtain ⟨_, c0, c1⟩ := hb0
  have HPS : Hid (putS S = if checkS S = 0 then storeL S else []) := Lib.hid rfl
  have HCS : Hid (checkS S = checkC S.length (cellsF 0 S)) := Lib.hid rfl
  clear h
  by_cases hok : ¬ OkS S
  · have hq : checkC S.length (cellsF 0 S) = 40 := by
      rcases check_two15 S with q | q
      · exact absurd (checkS_ok.1 q) hok
      · exact q
    have HR : Hid (putS S = [] ∧ checkS S = 40) := Lib.hid ⟨by rw [HPS.out, HCS.out, hq, if_neg (by decide)], by rw [HCS.out, hq]⟩
    rw [hq] at hck
    clear hok hq
    go_enter Try.func24, Try.ntmps24
    go_wp2_with (go_at_call 20; refine hck.mono ?_; rintro e w2 ⟨rfl, hb⟩; have B2 := Lib.hid (HB.out.step hb); clear hb)
    go_ret2
    rw [HR.out.1, HR.out.2]
    exact ⟨rfl, B2.out.below⟩
  have hok := Classical.not_not.1 hok
  have hq : checkC S.length (cellsF 0 S) = 0 := checkS_ok.2 hok
  have HR : Hid (putS S = storeL S ∧ checkS S = 0) := Lib.hid ⟨by rw [HPS.out, HCS.out, hq, if_pos rfl], by rw [HCS.out, hq]⟩
  rw [hq] at hck
  have HOK := Lib.hid hok
  have hl8 : S.length ≤ 8 := hok.len
  have HCI : Hid (∀ i q, i < S.length → q < (tab S (i : Int)).length → cellK S i + q < (cellsF 0 S).length ∧ clAt (cellsF 0 S) (cellK S i + q) = ((i : Int), ((tab S (i : Int)).getD q (0, [])).1, ((tab S (i : Int)).getD q (0, [])).2)) := Lib.hid fun i q h h2 => cell_in h h2
  have HCP : Hid (∀ i, i < S.length → cellK S i + (tab S (i : Int)).length < (cellsF 0 S).length → (clAt (cellsF 0 S) (cellK S i + (tab S (i : Int)).length)).1 ≠ (i : Int)) := Lib.hid fun i h h2 => cell_past h h2
  have HKL : Hid (∀ j, cellK S j ≤ (cellsF 0 S).length) := Lib.hid fun j => by
    have := cells_append 0 (S.take j) (S.drop j)
    rw [List.take_append_drop] at this
    rw [this, List.length_append]
    exact Nat.le_add_right _ _
  have HMY : Hid (∀ (t : Int) (W : World), BoxD w W S.length a c (cellsF 0 S) → Calls Try.prog 39 #[docVal S.length a c (cellsF 0 S), .int .i64 t] W fun e w' => e = .returned (.int .i64 (tab S t).length) ∧ Below W.heap.size W w') := Lib.hid fun t W hW => by
    have := rmany15_any S.length a c (cellsF 0 S) t W (HX.out.step hW.1) (by omega)
    rw [many_tab] at this
    exact this
  have iw : IntKind.u8.wrap (S.length : Int) = (S.length : Int) := IntWalk.u8_in _ (by omega)
  have hcv := conv_one5
  have HT0 : Hid ((⟨#[UInt8.ofNat S.length]⟩ : ByteArray).data.toList = preL S 0) := Lib.hid (by unfold preL; rw [byte_put (by omega)]; rfl)
  clear hok hq HPS HCS
  obtain ⟨cs, hcs⟩ : ∃ cs, cellsF 0 S = cs := ⟨_, rfl⟩
  rw [hcs] at hck HB HX c0 c1 HCI HCP HKL HMY hn ⊢
  clear hcs
  go_enter Try.func24, Try.ntmps24
  go_upto_region 6 with (go_at_call 20; refine hck.mono ?_; rintro e w2 ⟨rfl, hb⟩; have B2 := Lib.hid (HB.out.step hb); obtain ⟨_, d0, d1⟩ := B2.out; clear hb hck)
  clear c0 c1 d0 d1
  go_loopw [4, 5, 6] (fun s4 s5 s6 wr => ∃ (i K : Nat) (T : ByteArray), s4 = .string T ∧ s5 = .int .i64 K ∧ s6 = .int .i64 i ∧ i ≤ S.length ∧ K ≤ 50000 ∧ Hid (K = cellK S i) ∧ Hid (BoxD w wr S.length a c cs) ∧ Hid (T.data.toList = preL S i) ∧ Hid (T.size ≤ 10 + i * 20000)) (fun _ _ i _ => S.length + 1 - (intOf i).toNat)
  case atStart => exact ⟨0, 0, _, rfl, rfl, rfl, by omega, by omega, Lib.hid (by simp [cellK, cellsF]), Lib.hid (B2.out.step ((Below.refl _ _).alloc (Nat.le_refl _) _)), HT0, Lib.hid (by simp [ByteArray.size])⟩
  case round =>
    clear B2 HT0
    obtain ⟨i, K, T, rfl, rfl, rfl, hi, hK, HK, HBi, HT, HSZ⟩ := hrel
    obtain ⟨_, b0, b1⟩ := HBi.out
    by_cases hlt : i < S.length
    · have i1 : (i : Int) < (S.length : Int) := by omega
      have hTl : (tab S (i : Int)).length ≤ 60 := (HOK.out.tab _ (tab_mem (t := (i : Int)) (by omega) (by omega)).1).len
      have hm := HMY.out (i : Int) wr HBi.out
      have iw2 : IntKind.u8.wrap ((tab S (i : Int)).length : Int) = ((tab S (i : Int)).length : Int) := IntWalk.u8_in _ (by omega)
      have hsz : ¬ 9223372036854775807 < T.size + 1 := by have := HSZ.out; omega
      have HPS : Hid (preL S (i + 1) = preL S i ++ (putL (tab S (i : Int)).length 1 ++ (tab S (i : Int)).flatMap recL)) := Lib.hid (preL_step hlt)
      have HKS := Lib.hid (cellK_step hlt)
      have HOT : Hid (OkT (tab S (i : Int))) := Lib.hid (HOK.out.tab _ (tab_mem (t := (i : Int)) (by omega) (by omega)).1)
      have HC1 : Hid (∀ q, q < (tab S (i : Int)).length → K + q < cs.length ∧ clAt cs (K + q) = ((i : Int), ((tab S (i : Int)).getD q (0, [])).1, ((tab S (i : Int)).getD q (0, [])).2)) := Lib.hid fun q hq => by rw [HK.out]; exact HCI.out i q hlt hq
      have HC2 : Hid (K + (tab S (i : Int)).length < cs.length → (clAt cs (K + (tab S (i : Int)).length)).1 ≠ (i : Int)) := Lib.hid fun hq => by rw [HK.out] at hq ⊢; exact HCP.out i hlt hq
      have HT1 : Hid ((T ++ ⟨#[UInt8.ofNat (tab S (i : Int)).length]⟩ : ByteArray).data.toList = preL S i ++ putL (tab S (i : Int)).length 1 ++ ((tab S (i : Int)).take 0).flatMap recL) := Lib.hid (by rw [byte_put (by omega), ← HT.out]; simp)
      obtain ⟨U, hU⟩ : ∃ U, tab S (i : Int) = U := ⟨_, rfl⟩
      rw [hU] at hTl hm iw2 HPS HKS HOT HC1 HC2 HT1
      clear hU
      go_upto_region 9 with (go_at_call 39; refine hm.mono ?_; rintro e w3 ⟨rfl, hb⟩; have B3 := Lib.hid (HBi.out.step hb); clear hb hm)
      clear b0 b1 hsz
      go_loopw [4, 5] (fun s4 s5 wr => ∃ (q : Nat) (T : ByteArray), s4 = .string T ∧ s5 = .int .i64 ((K + q : Nat) : Int) ∧ q ≤ U.length ∧ Hid (BoxD w wr S.length a c cs) ∧ Hid (T.data.toList = preL S i ++ putL U.length 1 ++ (U.take q).flatMap recL) ∧ Hid (T.size ≤ 11 + i * 20000 + q * 206)) (fun _ s _ => K + U.length + 1 - (intOf s).toNat)
      case atStart => exact ⟨0, _, rfl, by first | rfl | simp, by omega, Lib.hid (B3.out.step ((Below.refl _ _).alloc (Nat.le_refl _) _)), HT1, Lib.hid (by have := HSZ.out; rw [ByteArray.size_append]; have : (⟨#[UInt8.ofNat U.length]⟩ : ByteArray).size = 1 := rfl; omega)⟩
      case round =>
        clear B3 HT1 HT HSZ HBi
        obtain ⟨q, T, rfl, rfl, hq, HBq, HT, HSZ⟩ := hrel
        obtain ⟨_, b0, b1⟩ := HBq.out
        by_cases hlq : q < U.length
        · obtain ⟨hk1, hk2⟩ := HC1.out q hlq
          have hmem : U.getD q (0, []) ∈ U := by rw [List.getD_eq_getElem?_getD, List.getElem?_eq_getElem hlq]; exact List.getElem_mem hlq
          have hid := HOT.out.ids _ hmem
          obtain ⟨hn1, hn2⟩ := rec_len HOT.out hmem
          have hx2 := HOT.out.txt _ hmem
          have HTS : Hid (preL S i ++ putL U.length 1 ++ (U.take (q + 1)).flatMap recL = preL S i ++ putL U.length 1 ++ (U.take q).flatMap recL ++ (putL (U.getD q (0, [])).1 4 ++ layL (U.getD q (0, [])).2)) := Lib.hid (by rw [rec_step hlq, List.append_assoc (preL S i ++ putL U.length 1)])
          have HC : Hid (∀ W, BoxD w W S.length a c cs → ∃ b off, a = some ⟨b, off, none⟩ ∧ W.cell? ⟨b, off + (K + q) * 3, none⟩ = some (.int .i64 i) ∧ W.cell? ⟨b, off + (K + q) * 3 + 1, none⟩ = some (.int .i64 (U.getD q (0, [])).1) ∧ W.cell? ⟨b, off + (K + q) * 3 + 2, none⟩ = some (.string (tx (U.getD q (0, [])).2))) := Lib.hid fun W hW => by
            obtain ⟨b, off, ea, _, x0, x1, x2⟩ := cls_at (HX.out.step hW.1) hk1
            rw [hk2] at x0 x1 x2
            exact ⟨b, off, ea, x0, x1, x2⟩
          obtain ⟨v, hv⟩ : ∃ v, (U.getD q (0, [])).1 = v := ⟨_, rfl⟩
          obtain ⟨x, hx⟩ : ∃ x, (U.getD q (0, [])).2 = x := ⟨_, rfl⟩
          rw [hv, hx] at HTS HC
          rw [hv] at hid hn1
          rw [hx] at hn2 hx2
          clear hk2 hmem hv hx
          have hpt : ∀ W, Calls Try.prog 45 #[.int .i64 v, .int .i64 4] W fun e w' => e = .returned (.tuple #[.string (bt (putL v 4)), .int .i64 (putE v 4)]) ∧ Below W.heap.size W w' := fun W => rput_bt v 4 (by omega) W
          have hly : ∀ W, Calls Try.prog 46 #[.string (tx x)] W fun e w' => e = .returned (.tuple #[.string (bt (layL x)), .int .i64 (layE x)]) ∧ Below W.heap.size W w' := fun W => by
            have := rlay_bt (tx x) (by rw [tx_size]; omega) W
            rw [tx_list] at this
            exact this
          obtain ⟨e1, he1⟩ : ∃ e1, putE v 4 = e1 := ⟨_, rfl⟩
          obtain ⟨e2, he2⟩ : ∃ e2, layE x = e2 := ⟨_, rfl⟩
          have HB1 : Hid ((bt (putL v 4)).data.toList = putL v 4 ∧ (bt (layL x)).data.toList = layL x) := Lib.hid ⟨bt_list _, bt_list _⟩
          have hz1 : (bt (putL v 4)).size ≤ 4 := by rw [← text_size, HB1.out.1]; exact hn1
          have hz2 : (bt (layL x)).size ≤ 202 := by rw [← text_size, HB1.out.2]; exact hn2
          obtain ⟨t1, ht1⟩ : ∃ t1, bt (putL v 4) = t1 := ⟨_, rfl⟩
          obtain ⟨t2, ht2⟩ : ∃ t2, bt (layL x) = t2 := ⟨_, rfl⟩
          simp only [he1, ht1] at hpt
          simp only [he2, ht2] at hly
          rw [ht1] at HB1 hz1
          rw [ht2] at HB1 hz2
          have HTR : Hid ((T ++ t1 ++ t2).data.toList = preL S i ++ putL U.length 1 ++ (U.take (q + 1)).flatMap recL) := Lib.hid (by
            rw [HTS.out, ← HT.out, ← HB1.out.1, ← HB1.out.2]; simp)
          have HSR : Hid ((T ++ t1 ++ t2).size ≤ 11 + i * 20000 + (q + 1) * 206) := Lib.hid (by rw [ByteArray.size_append, ByteArray.size_append]; have := HSZ.out; omega)
          have hs1 : ¬ 9223372036854775807 < T.size + t1.size := by have := HSZ.out; omega
          have hs2 : ¬ 9223372036854775807 < (T ++ t1).size + t2.size := by have := HSZ.out; rw [ByteArray.size_append]; omega
          clear he1 he2 ht1 ht2 HT HSZ HTS hn1 hn2 hx2 hid hz1 hz2
          have i1 : ((K + q : Nat) : Int) < (cs.length : Int) := by omega
          have i3 : (0 : Int) ≤ ((K + q : Nat) : Int) := by omega
          obtain ⟨b, off, ea, x0, x1, x2⟩ := HC.out _ HBq.out
          have HD : Hid (∀ W, BoxD w W S.length a c cs → W.cell? ⟨b, off + (K + q) * 3, none⟩ = some (.int .i64 i) ∧ W.cell? ⟨b, off + (K + q) * 3 + 1, none⟩ = some (.int .i64 v) ∧ W.cell? ⟨b, off + (K + q) * 3 + 2, none⟩ = some (.string (tx x))) := Lib.hid fun W hW => by
            obtain ⟨b', off', ea', h'⟩ := HC.out W hW
            rw [ea] at ea'
            cases ea'
            exact h'
          subst ea
          go_wp2_with (first
            | (go_at_call 45; refine (hpt _).mono ?_; rintro e w1 ⟨rfl, hb⟩; have B1 := Lib.hid (HBq.out.step hb); obtain ⟨_, f0, f1⟩ := B1.out; obtain ⟨y0, y1, y2⟩ := HD.out _ B1.out; clear hb)
            | (go_at_call 46; refine (hly _).mono ?_; rintro e w2 ⟨rfl, hb⟩; have B2 := Lib.hid (B1.out.step hb); clear hb))
          go_round
          case rel => exact ⟨q + 1, _, rfl, by go_num, by omega, B2, HTR, HSR⟩
          case measure => first | (simp [intOf]; omega) | simp [intOf]
        · obtain rfl : q = U.length := by omega
          have HTR : Hid (T.data.toList = preL S (i + 1)) := Lib.hid (by rw [HT.out, HPS.out, List.take_length, List.append_assoc])
          have HSR : Hid (T.size ≤ 10 + (i + 1) * 20000) := Lib.hid (by have := HSZ.out; omega)
          have HKR : Hid (K + U.length = cellK S (i + 1)) := Lib.hid (by rw [HKS.out, ← HK.out])
          have hKL : K + U.length ≤ 50000 := by rw [HKR.out]; exact Nat.le_trans (HKL.out _) hn
          clear HT HSZ
          by_cases hlk : K + U.length < cs.length
          · have i1 : ((K + U.length : Nat) : Int) < (cs.length : Int) := by omega
            have i3 : (0 : Int) ≤ ((K + U.length : Nat) : Int) := by omega
            obtain ⟨b, off, ea, _, x0, x1, x2⟩ := cls_at (HX.out.step HBq.out.1) hlk
            obtain ⟨u, hu⟩ : ∃ u, (clAt cs (K + U.length)).1 = u := ⟨_, rfl⟩
            have d1 : (u == (i : Int)) = false := beq_eq_false_iff_ne.2 (by rw [← hu]; exact HC2.out hlk)
            rw [hu] at x0
            clear hu x1 x2
            subst ea
            go_wp2
            go_round
            case rel => exact ⟨i + 1, K + U.length, T, rfl, rfl, by go_num, by omega, hKL, HKR, HBq, HTR, HSR⟩
            case measure => first | (simp [intOf]; omega) | simp [intOf]
          · have i1 : ¬ ((K + U.length : Nat) : Int) < (cs.length : Int) := by omega
            go_wp2
            go_round
            case rel => exact ⟨i + 1, K + U.length, T, rfl, rfl, by go_num, by omega, hKL, HKR, HBq, HTR, HSR⟩
            case measure => first | (simp [intOf]; omega) | simp [intOf]
    · obtain rfl : i = S.length := by omega
      have HF : Hid (T = tx (putS S)) := Lib.hid (tx_of (by rw [HT.out, HR.out.1]; unfold preL storeL; rw [List.take_length]))
      go_wp2
      go_ret2
      rw [HR.out.2, ← HF.out]
      exact ⟨rfl, HBi.out.below⟩
end Go.Proofs.Yteccahggahpeeaa
