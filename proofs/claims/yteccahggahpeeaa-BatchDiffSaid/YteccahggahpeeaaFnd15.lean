/- Where a row is, in plain words; the program's has, find and Get. -/
import Derived.Test.YteccahggahpeeaaMMk15
namespace Go.Proofs.Yteccahggahpeeaa
open Go.RowKit

abbrev atN (T : Tb15) (id : Int) : Nat := findN (idsT T) id
theorem hits_has (T : Tb15) (id : Int) : findB13 (idsT T) id = hasT T id := by
  unfold findB13 hits hasT idsT
  rw [List.findIdx?_isSome, List.any_map]
  congr 1
theorem tab_cut {T : Tb15} {q : Nat} (h : q < T.length) : T = T.take q ++ T[q] :: T.drop (q + 1) := by
  rw [List.getElem_cons_drop, List.take_append_drop]
/-- A row that is there. -/
theorem at_has {T : Tb15} {id : Int} (h : hasT T id = true) : atN T id < T.length ∧ (recAt T (atN T id)).1 = id := by
  rw [← hits_has] at h
  rcases hit_or (idsT T) id with ⟨k, hk, e, _, hh⟩ | ⟨_, hh⟩
  · have := (find_hit hh).1
    unfold atN
    rw [this]
    rw [idsT_len] at hk
    refine ⟨hk, ?_⟩
    rw [idsT_at hk] at e
    have h2 := recAt_get hk
    rw [List.getElem?_eq_getElem hk] at h2
    rw [← Option.some.inj h2]; exact e
  · rw [(find_none hh).2] at h; cases h
theorem at_le (T : Tb15) (id : Int) : atN T id ≤ T.length := by
  have := find_le (idsT T) id
  rw [idsT_len] at this
  exact this
theorem cut_srt {A B : Tb15} {r : Rec15} (h : SrtT (A ++ r :: B)) : (∀ x ∈ A, x.1 < r.1) ∧ ∀ x ∈ B, r.1 < x.1 := by
  have h1 := List.pairwise_append.1 h
  exact ⟨fun x hx => h1.2.2 x hx r (List.mem_cons_self ..), fun x hx => (List.pairwise_cons.1 h1.2.1).1 x hx⟩
theorem set_mid {A B : Tb15} {r n : Rec15} (h : SrtT (A ++ r :: B)) (hn : n.1 = r.1) : setT (A ++ r :: B) n = A ++ n :: B := by
  obtain ⟨h1, h2⟩ := cut_srt h
  have e1 : A.map (fun x => if x.1 = n.1 then n else x) = A := by
    conv => rhs; rw [← List.map_id A]
    exact List.map_congr_left fun x hx => by have := h1 x hx; rw [if_neg (by omega)]; rfl
  have e2 : B.map (fun x => if x.1 = n.1 then n else x) = B := by
    conv => rhs; rw [← List.map_id B]
    exact List.map_congr_left fun x hx => by have := h2 x hx; rw [if_neg (by omega)]; rfl
  unfold setT
  rw [List.map_append, List.map_cons, e1, e2, if_pos hn.symm]
theorem drop_mid {A B : Tb15} {r : Rec15} (h : SrtT (A ++ r :: B)) : dropT (A ++ r :: B) r.1 = A ++ B := by
  obtain ⟨h1, h2⟩ := cut_srt h
  unfold dropT
  rw [List.filter_append, List.filter_cons, List.filter_eq_self.2 fun x hx => by have := h1 x hx; simp; omega, List.filter_eq_self.2 fun x hx => by have := h2 x hx; simp; omega]
  simp
theorem ins_mid {A B : Tb15} {n : Rec15} (h1 : ∀ x ∈ A, x.1 < n.1) (h2 : ∀ x ∈ B, n.1 < x.1) : insT (A ++ B) n = A ++ n :: B := by
  induction A with
  | nil =>
    cases B with
    | nil => rfl
    | cons b B => show (if n.1 < b.1 then _ else _) = _; rw [if_pos (h2 b (List.mem_cons_self ..))]; rfl
  | cons a A ih =>
    have h3 := h1 a (List.mem_cons_self ..)
    show (if n.1 < a.1 then _ else _) = _
    rw [if_neg (by omega)]
    show a :: insT (A ++ B) n = _
    rw [ih fun x hx => h1 x (List.mem_cons_of_mem _ hx)]; rfl
theorem at_set {T : Tb15} (hs : SrtT T) {id : Int} (h : hasT T id = true) (x : List UInt8) : setT T (id, x) = T.take (atN T id) ++ [(id, x)] ++ T.drop (atN T id + 1) ∧ dropT T id = T.take (atN T id) ++ T.drop (atN T id + 1) ∧ textT T id = (recAt T (atN T id)).2 := by
  obtain ⟨h1, h2⟩ := at_has h
  have e := tab_cut h1
  have h3 := recAt_get h1
  rw [List.getElem?_eq_getElem h1] at h3
  have h4 : T[atN T id] = recAt T (atN T id) := Option.some.inj h3
  rw [h4] at e
  refine ⟨?_, ?_, ?_⟩
  · conv => lhs; rw [e]
    rw [set_mid (by rw [← e]; exact hs) h2.symm, List.append_assoc]; rfl
  · have := drop_mid (A := T.take (atN T id)) (B := T.drop (atN T id + 1)) (r := recAt T (atN T id)) (by rw [← e]; exact hs)
    rw [← e, h2] at this
    exact this
  · refine textT_in hs ?_
    have hm := List.getElem_mem h1
    rw [h4] at hm
    have e2 : (id, (recAt T (atN T id)).2) = recAt T (atN T id) := Prod.ext h2.symm rfl
    rw [e2]; exact hm
theorem at_new {T : Tb15} (hr : risingE (idsT T) = 0) {id : Int} (h : hasT T id = false) (x : List UInt8) : insT T (id, x) = T.take (atN T id) ++ [(id, x)] ++ T.drop (atN T id) := by
  rw [← hits_has] at h
  rcases hit_or (idsT T) id with ⟨k, hk, e, _, hh⟩ | ⟨h0, hh⟩
  · rw [(find_hit hh).2] at h; cases h
  · have e1 : atN T id = _ := (find_none hh).1
    rw [if_pos hr] at e1
    obtain ⟨s1, s2, s3⟩ := low_spec (idsT T) id (idsT T).length
    rw [← e1] at s1 s2 s3
    have hq := at_le T id
    have hri := (rising_iff _).1 hr
    rw [idsT_len] at s2 h0
    have c : insT (T.take (atN T id) ++ T.drop (atN T id)) (id, x) = T.take (atN T id) ++ (id, x) :: T.drop (atN T id) := by
      refine ins_mid (fun y hy => ?_) (fun y hy => ?_)
      · obtain ⟨j, hj, rfl⟩ := List.mem_iff_getElem.1 hy
        have hj2 : j < atN T id := by rw [List.length_take] at hj; exact Nat.lt_of_lt_of_le hj (Nat.min_le_left ..)
        rw [List.getElem_take]
        have h3 := s3 (by omega)
        have h4 := rises_le hri (show j ≤ atN T id - 1 by omega) (by rw [idsT_len]; omega)
        have h5 := h0 j (by omega)
        rw [idsT_at (by omega)] at h4 h5
        show _ < id
        omega
      · obtain ⟨j, hj, rfl⟩ := List.mem_iff_getElem.1 hy
        have hj2 : atN T id + j < T.length := by rw [List.length_drop] at hj; omega
        rw [List.getElem_drop]
        have h4 := s2 (atN T id + j) (by omega) (by omega)
        rw [idsT_at (by omega)] at h4
        exact h4
    rw [List.take_append_drop] at c
    rw [c, List.append_assoc]; rfl
theorem boxS_obj {w W : World} {a : Option Addr} {c : Nat} {S : St15} (h : BoxS w W a c S) : W.cell? ⟨w.heap.size, 0, none⟩ = some (.slice a S.length c) := h.2
theorem phas15_any (a : Option Addr) (c : Nat) (S : St15) (t : Int) (w : World) : Calls Try.prog 34 #[stVal a c S, .int .i64 t] w fun e w' => e = .returned (.bool (decide (0 ≤ t ∧ t < S.length))) ∧ Below w.heap.size w w' := by
  obtain ⟨hb, c0⟩ := boxS_start w a c S
  have HB := Lib.hid hb
  clear hb
  by_cases h0 : 0 ≤ t
  · have d1 : decide (0 ≤ t) = true := decide_eq_true h0
    have HR : Hid (decide (0 ≤ t ∧ t < S.length) = decide (t < (S.length : Int))) := Lib.hid (by simp [h0])
    clear h0
    go_enter Try.func34, Try.ntmps34
    go_wp2
    go_ret
    exact ⟨by rw [HR.out]; rfl, HB.out⟩
  · have d1 : decide (0 ≤ t) = false := decide_eq_false h0
    have HR : Hid (decide (0 ≤ t ∧ t < S.length) = false) := Lib.hid (by simp [h0])
    clear h0
    go_enter Try.func34, Try.ntmps34
    go_wp2
    go_ret
    exact ⟨by rw [HR.out]; rfl, HB.out⟩
set_option maxHeartbeats 1000000 in
theorem pfind15_any (ao : Option Addr) (cap : Nat) (T : Tb15) (id : Int) (A : Nat) (w : World) (hx : Els recE A w.heap.size w ao T) (hn : T.length ≤ 100000) :
    Calls Try.prog 35 #[.slice ao T.length cap, .int .i64 id] w fun e w' => e = .returned (.tuple #[.int .i64 (atN T id : Nat), .bool (hasT T id)]) ∧ Below w.heap.size w w' := by
  have HI := Lib.hid (pids_any ao cap T A w hx hn)
  have HIL := Lib.hid (idsT_len T)
  have HF : Hid (∀ (W : World) (a : Option Addr) (c : Nat), Ints W.heap.size W a (idsT T) → Calls Try.prog 60 #[.slice a (idsT T).length c, .int .i64 id] W fun e w' => e = .returned (.tuple #[.int .i64 (atN T id : Nat), .bool (hasT T id)]) ∧ Below W.heap.size W w') := Lib.hid fun W a c h => (pfind_any a c (idsT T) id W.heap.size W h (by rw [HIL.out]; omega)).mono (by rintro e w' ⟨rfl, m, rfl⟩; rw [hits_has]; exact ⟨rfl, drawn_below (Below.refl _ _) _⟩)
  clear hx hn
  generalize atN T id = q at *
  generalize hasT T id = b at *
  go_enter Try.func35, Try.ntmps35
  go_wp2_with (first
    | (go_at_call 61; refine HI.out.mono ?_; rintro e w2 ⟨a2, c2, rfl, h2, hb⟩; have HB2 := Lib.hid hb; have HI2 := Lib.hid h2; clear h2 hb)
    | (go_at_call 60; refine (HF.out _ _ _ HI2.out).mono ?_; rintro e w3 ⟨rfl, hb⟩; have HB3 := Lib.hid (HB2.out.trans (hb.mono HB2.out.size)); clear hb))
  go_ret2
  exact ⟨rfl, HB3.out⟩
set_option maxRecDepth 100000 in
set_option maxHeartbeats 4000000 in
theorem pget15_any (a : Option Addr) (c : Nat) (S : St15) (t id : Int) (w : World) (h : StV w a c S) : Calls Try.prog 17 #[stVal a c S, .int .i64 t, .int .i64 id] w fun e w' => e = .returned (.tuple #[.string (tx (getV15 S t id)), .bool (getB15 S t id)]) ∧ Below w.heap.size w w' := by
  have hbs := boxS_start w a c S
  have HBS := Lib.hid hbs
  obtain ⟨hb, c0⟩ := hbs
  have HCK := Lib.hid (pcheck15_any a c S _ (h.step hb))
  have HX := Lib.hid (h.step hb)
  have HH : Hid (∀ W, Calls Try.prog 34 #[stVal a c S, .int .i64 t] W fun e w' => e = .returned (.bool (decide (0 ≤ t ∧ t < S.length))) ∧ Below W.heap.size W w') := Lib.hid fun W => phas15_any a c S t W
  clear hb
  by_cases hk : checkS S = 0
  · rw [hk] at HCK
    have hok := checkS_ok.1 hk
    by_cases ht : 0 ≤ t ∧ t < S.length
    · rw [decide_eq_true ht] at HH
      obtain ⟨i, rfl⟩ : ∃ i : Nat, t = i := ⟨t.toNat, by omega⟩
      have hlt : i < S.length := by omega
      have i1 : (i : Int) < (S.length : Int) := ht.2
      have i3 : (0 : Int) ≤ (i : Int) := by omega
      have hT60 := (hok.tab _ (by rw [tab_at hlt]; exact List.getElem_mem hlt) : OkT (tab S (i : Int)))
      have HTB : Hid (∀ W, BoxS w W a c S → Below (w.alloc (.cells #[.slice a S.length c] 24)).heap.size (w.alloc (.cells #[.slice a S.length c] 24)) W → ∃ b off, a = some ⟨b, off, none⟩ ∧ ∃ (aj : Option Addr) (cj : Nat), W.cell? ⟨b, off + i, none⟩ = some (.slice aj (tab S (i : Int)).length cj) ∧ Els recE 0 W.heap.size W aj (tab S (i : Int))) := Lib.hid fun W h1 h2 => by
        obtain ⟨b, off, e, _, aj, cj, x0, _, x1⟩ := (HX.out.1.step h2).at hlt
        exact ⟨b, off, e, aj, cj, x0, x1⟩
      obtain ⟨b, off, ea, hbb, aj, cj, x0, _, x1⟩ := HX.out.1.at hlt
      subst ea
      have HFD : Hid (∀ W, Below (w.alloc (.cells #[.slice (some ⟨b, off, none⟩) S.length c] 24)).heap.size (w.alloc (.cells #[.slice (some ⟨b, off, none⟩) S.length c] 24)) W → Calls Try.prog 35 #[.slice aj (tab S (i : Int)).length cj, .int .i64 id] W fun e w' => e = .returned (.tuple #[.int .i64 (atN (tab S (i : Int)) id : Nat), .bool (hasT (tab S (i : Int)) id)]) ∧ Below W.heap.size W w') := Lib.hid fun W hW => pfind15_any aj cj (tab S (i : Int)) id 0 W (x1.step hW) (by have := hT60.len; omega)
      have HT : Hid (∀ W, Below (w.alloc (.cells #[.slice (some ⟨b, off, none⟩) S.length c] 24)).heap.size (w.alloc (.cells #[.slice (some ⟨b, off, none⟩) S.length c] 24)) W → W.cell? ⟨w.heap.size, 0, none⟩ = some (.slice (some ⟨b, off, none⟩) S.length c) ∧ W.cell? ⟨b, off + i, none⟩ = some (.slice aj (tab S (i : Int)).length cj)) := Lib.hid fun W hW => ⟨(HBS.out.step hW).2, (hW.cell (p := ⟨b, off + i, none⟩) hbb).trans x0⟩
      have HX1 := Lib.hid x1
      have HB0 := Lib.hid HBS.out.1
      clear x1 HTB hbb h HX
      cases hq : hasT (tab S (i : Int)) id with
      | true =>
        have HG : Hid (getV15 S (i : Int) id = (recAt (tab S (i : Int)) (atN (tab S (i : Int)) id)).2 ∧ getB15 S (i : Int) id = true) := Lib.hid ⟨by unfold getV15; rw [if_pos ⟨hk, hq⟩]; exact (at_set hT60.srt hq []).2.2, by unfold getB15; exact decide_eq_true ⟨hk, hq⟩⟩
        have hat := (at_has hq).1
        have HTX : Hid (∀ W, Below (w.alloc (.cells #[.slice (some ⟨b, off, none⟩) S.length c] 24)).heap.size (w.alloc (.cells #[.slice (some ⟨b, off, none⟩) S.length c] 24)) W → ∃ b2 o2, aj = some ⟨b2, o2, none⟩ ∧ W.cell? ⟨b2, o2 + atN (tab S (i : Int)) id * 2 + 1, none⟩ = some (.string (tx (recAt (tab S (i : Int)) (atN (tab S (i : Int)) id)).2))) := Lib.hid fun W hW => by
          obtain ⟨b2, o2, e2, _, _, y1⟩ := recs_at (HX1.out.step hW) hat
          exact ⟨b2, o2, e2, y1⟩
        have j1 : ((atN (tab S (i : Int)) id : Nat) : Int) < ((tab S (i : Int)).length : Int) := by omega
        have j3 : (0 : Int) ≤ ((atN (tab S (i : Int)) id : Nat) : Int) := by omega
        rw [hq] at HFD
        rw [HG.out.1, HG.out.2]
        clear hq hk hok hT60 HG hat
        generalize (recAt (tab S (i : Int)) (atN (tab S (i : Int)) id)).2 = X at *
        generalize atN (tab S (i : Int)) id = q at *
        generalize tab S (i : Int) = T at *
        go_enter Try.func17, Try.ntmps17
        go_upto_region 4 with (first
          | (go_at_call 19; refine HCK.out.mono ?_; rintro e w2 ⟨rfl, hb⟩; have HB2 := Lib.hid hb; obtain ⟨e0, e1⟩ := HT.out _ hb; clear hb)
          | (go_at_call 34; refine (HH.out _).mono ?_; rintro e w3 ⟨rfl, hb⟩; have HB3 := Lib.hid (HB2.out.trans (hb.mono HB2.out.size)); obtain ⟨e2, e3⟩ := HT.out _ HB3.out; clear hb)
          | (go_at_call 35; refine (HFD.out _ HB3.out).mono ?_; rintro e w4 ⟨rfl, hb⟩; have HB4 := Lib.hid (HB3.out.trans (hb.mono HB3.out.size)); obtain ⟨e4, e5⟩ := HT.out _ HB4.out; clear hb))
        obtain ⟨b2, o2, e6, e7⟩ := HTX.out _ HB4.out
        subst e6
        go_wp2
        go_ret2
        exact ⟨rfl, HB0.out.trans (HB4.out.mono HB0.out.size)⟩
      | false =>
        have HG : Hid (getV15 S (i : Int) id = [] ∧ getB15 S (i : Int) id = false) := Lib.hid ⟨by unfold getV15; rw [if_neg fun z => by rw [hq] at z; cases z.2], by unfold getB15; exact decide_eq_false fun z => by rw [hq] at z; cases z.2⟩
        rw [hq] at HFD
        rw [HG.out.1, HG.out.2]
        clear hq hk hok hT60 HG
        generalize atN (tab S (i : Int)) id = q at *
        generalize tab S (i : Int) = T at *
        go_enter Try.func17, Try.ntmps17
        go_wp2_with (first
          | (go_at_call 19; refine HCK.out.mono ?_; rintro e w2 ⟨rfl, hb⟩; have HB2 := Lib.hid hb; obtain ⟨e0, e1⟩ := HT.out _ hb; clear hb)
          | (go_at_call 34; refine (HH.out _).mono ?_; rintro e w3 ⟨rfl, hb⟩; have HB3 := Lib.hid (HB2.out.trans (hb.mono HB2.out.size)); obtain ⟨e2, e3⟩ := HT.out _ HB3.out; clear hb)
          | (go_at_call 35; refine (HFD.out _ HB3.out).mono ?_; rintro e w4 ⟨rfl, hb⟩; have HB4 := Lib.hid (HB3.out.trans (hb.mono HB3.out.size)); clear hb))
        go_ret2
        exact ⟨rfl, HB0.out.trans (HB4.out.mono HB0.out.size)⟩
    · rw [decide_eq_false ht] at HH
      have hq : hasT (tab S t) id = false := by rw [tab_out (by omega)]; rfl
      have HG : Hid (getV15 S t id = [] ∧ getB15 S t id = false) := Lib.hid ⟨by unfold getV15; rw [if_neg fun z => by rw [hq] at z; cases z.2], by unfold getB15; exact decide_eq_false fun z => by rw [hq] at z; cases z.2⟩
      rw [HG.out.1, HG.out.2]
      have HB0 := Lib.hid HBS.out.1
      clear hq hk hok HG ht HX h
      go_enter Try.func17, Try.ntmps17
      go_wp2_with (first
        | (go_at_call 19; refine HCK.out.mono ?_; rintro e w2 ⟨rfl, hb⟩; have HB2 := Lib.hid (HBS.out.step hb); have e0 := HB2.out.2; clear hb)
        | (go_at_call 34; refine (HH.out _).mono ?_; rintro e w3 ⟨rfl, hb⟩; have HB3 := Lib.hid (HB2.out.step hb); clear hb))
      go_ret2
      exact ⟨rfl, HB3.out.1⟩
  · have hk2 := (check_two15 S).resolve_left hk
    rw [hk2] at HCK
    have HG : Hid (getV15 S t id = [] ∧ getB15 S t id = false) := Lib.hid ⟨by unfold getV15; rw [if_neg fun z => hk z.1], by unfold getB15; exact decide_eq_false fun z => hk z.1⟩
    rw [HG.out.1, HG.out.2]
    clear hk hk2 HG HX h
    go_enter Try.func17, Try.ntmps17
    go_wp2_with (go_at_call 19; refine HCK.out.mono ?_; rintro e w2 ⟨rfl, hb⟩; have HB2 := Lib.hid (HBS.out.step hb); clear hb)
    go_ret2
    exact ⟨rfl, HB2.out.1⟩
end Go.Proofs.Yteccahggahpeeaa
