/- The program's Write. -/
import Derived.Test.YtcbmecpeockdeaaGreatDoorMMap8
import Derived.Test.YtcbmecpeockdeaaGreatDoorMRest8
import Derived.RegionTactic
import Derived.BigRegion
import Derived.ChangeAlike
namespace Go.Proofs.YtcbmecpeockdeaaGreatDoor
open Go.RowKit Go.Maps

theorem calm_wrote {l : List Sec} (h : Calm l) (p : Nat) (t : ByteArray) (i : Nat) : Calm (wrote l p t i) := by
  intro c hc
  obtain ⟨k, hk, rfl⟩ := List.getElem_of_mem hc
  have hk' : k < l.length := by rw [wrote_len] at hk; exact hk
  simp only [wrote, List.getElem_mapIdx]
  split
  · intro x; cases x
  · exact h _ (List.getElem_mem hk')
/-- Behind i sectors written, with the armed one still to come. -/
theorem Dv.Ok.wrote {d : Dv} (h : d.Ok) (p : Nat) (t : ByteArray) (n i : Nat) (ht : t.size = 64 * n) (hi : i ≤ n) (hf : ¬ (1 ≤ d.armed ∧ d.armed ≤ i)) : (d.wrote p t i).Ok := by
  have h0 := h.armed0
  have h1 := h.armed1
  have h2 := h.ops0
  refine ⟨fit_wrote h.fit p t i n ht hi, calm_wrote h.calm p t i, ?_, ?_, ?_, ?_, ?_⟩
  · show 0 < (Go.Proofs.YtcbmecpeockdeaaGreatDoor.wrote d.cells p t i).length; rw [wrote_len]; exact h.some
  · show (Go.Proofs.YtcbmecpeockdeaaGreatDoor.wrote d.cells p t i).length ≤ 2000; rw [wrote_len]; exact h.few
  · show 0 ≤ (if 0 < d.armed then d.armed - i else d.armed); split <;> omega
  · show (if 0 < d.armed then d.armed - i else d.armed) ≤ 9223372036854775807; split <;> omega
  · show 0 ≤ d.ops + i; omega
theorem wrote_step (d : Dv) (hd : d.dead = false) (p : Nat) (t : ByteArray) (i : Nat) (h0 : 0 ≤ d.armed) (hf : ¬ (1 ≤ d.armed ∧ d.armed ≤ i)) :
    Dv.count ⟨wrote d.cells p t (i + 1), (d.wrote p t i).ops, (d.wrote p t i).armed, (d.wrote p t i).dead⟩ = d.wrote p t (i + 1) ∧ Dv.hit ⟨wrote d.cells p t (i + 1), (d.wrote p t i).ops, (d.wrote p t i).armed, (d.wrote p t i).dead⟩ = decide (d.armed = i + 1) := by
  unfold Dv.count Dv.hit Dv.wrote
  simp only
  rw [hd]
  constructor
  · congr 1
    · omega
    · by_cases ha : 0 < d.armed
      · rw [if_pos ha, if_pos ha, if_pos (by omega)]; omega
      · rw [if_neg ha, if_neg ha, if_neg ha]
    · by_cases ha : 0 < d.armed
      · rw [if_pos ha]
        by_cases hb : d.armed = i + 1
        · rw [if_pos (by omega), if_pos (by omega)]
        · rw [if_neg (by omega), if_neg (by omega), if_neg (by omega)]
      · rw [if_neg ha, if_neg (by omega), if_neg (by omega), if_neg (by omega)]
  · by_cases ha : 0 < d.armed
    · rw [if_pos ha]
      exact decide_eq_decide.2 (by omega)
    · rw [if_neg ha]
      exact decide_eq_decide.2 (by omega)
theorem wrote_zero (d : Dv) (p : Nat) (t : ByteArray) (h : d.dead = false) : d.wrote p t 0 = d := by
  unfold Dv.wrote
  rw [wrote_none]
  cases d with
  | mk c o a dd =>
    simp only at h ⊢
    rw [h]
    congr 1
    · omega
    · split <;> omega
    · rw [if_neg (by omega)]
set_option maxHeartbeats 2000000 in
theorem pwrite_any {w : World} {b g cap m : Nat} {d : Dv} (h : PDev w b g cap m d) (hd : d.Ok) (ho : d.ops < 9223372036854773807) (x : Int) (t : ByteArray) (ht : t.size ≤ 4611686018427387904) :
    Calls Tryz.prog 40 #[.pointer (some ⟨b, 0, none⟩), .int .i64 x, .string t] w fun e w' => e = .returned (.int .i64 (d.writeE x t)) ∧ PDev w' b g cap m (d.write x t) ∧ But b g m w w' := by
  have hde := pdead_any h hd
  have H := Lib.hid h
  have HD := Lib.hid hd
  have hbad : d.writable x t = false → d.write x t = d := fun h => by unfold Dv.write; rw [h, if_neg (by decide)]
  have hwf : ¬ (d.dead = false ∧ t.size ≠ 0 ∧ t.size % 64 = 0 ∧ 0 ≤ x ∧ x + (t.size / 64 : Nat) ≤ d.cells.length) → d.writable x t = false := fun h => by unfold Dv.writable; exact decide_eq_false h
  cases hdd : d.dead with
  | true =>
    have hf := hbad (hwf (by rw [hdd]; simp))
    have he : d.writeE x t = 20 := by unfold Dv.writeE; rw [if_pos hdd]
    rw [hdd, if_pos rfl] at hde
    rw [hf, he]
    clear hf he h hd hdd hbad hwf
    go_enter Tryz.func40, Tryz.ntmps40
    go_wp2_with (go_at_call 59; refine hde.mono ?_; rintro e w1 ⟨rfl, rfl⟩)
    go_ret
    exact ⟨rfl, H.out, But.refl _ _ _ _⟩
  | false =>
    rw [hdd, if_neg (by decide)] at hde
    by_cases hs : t.size % 64 = 0
    · have e2 : ((t.size : Int) % 64 != 0) = false := by
        have : (t.size : Int) % 64 = 0 := by omega
        rw [this]; rfl
      obtain ⟨n, hn⟩ : ∃ n, t.size / 64 = n := ⟨_, rfl⟩
      have htn : t.size = 64 * n := by omega
      have hdn : (t.size : Int) / 64 = (n : Int) := by omega
      have hou := poutside_any h hd x n (by omega)
      by_cases hok : outE d.cells.length x n = 0
      · have hin : 1 ≤ n ∧ 0 ≤ x ∧ x + n ≤ d.cells.length := by
          unfold outE at hok
          by_cases q1 : (n : Int) < 1
          · rw [if_pos q1] at hok; omega
          · rw [if_neg q1] at hok
            by_cases q2 : 0 ≤ x ∧ x + n ≤ d.cells.length
            · exact ⟨by omega, q2⟩
            · rw [if_neg q2] at hok; omega
        obtain ⟨p, rfl⟩ : ∃ p : Nat, x = p := ⟨x.toNat, by omega⟩
        have hwr : d.write p t = d.wrote p t (d.reach n) ∧ d.writeE p t = if d.falls n = true then 20 else 0 := ⟨by
            unfold Dv.write
            rw [if_pos ((writable_iff d p t).2 ⟨hdd, by omega, by omega, by omega, by rw [hn]; omega⟩), hn, Int.toNat_natCast], by
            unfold Dv.writeE
            rw [hdd, if_neg (by decide), if_neg (by omega), hn, if_pos (by omega)]⟩
        rw [hok] at hou
        have HWR := Lib.hid hwr
        have hPn : p + n ≤ d.cells.length := by omega
        have hn2 : n ≤ 2000 := by have := hd.few; omega
        have HDD := Lib.hid hdd
        have HTN := Lib.hid htn
        have HPN := Lib.hid hPn
        clear hbad hwf hs hn hin htn h hd hok hwr
        go_enter Tryz.func40, Tryz.ntmps40
        go_wp2_with (first
          | (go_at_call 59; refine hde.mono ?_; rintro e w1 ⟨rfl, rfl⟩)
          | (go_at_call 60; refine hou.mono ?_; rintro e w1 ⟨rfl, rfl⟩))
        clear hde hou
        go_loopw [32] (fun i' wr => ∃ i : Nat, i' = .int .i64 i ∧ i ≤ n ∧ Hid (¬ (1 ≤ d.armed ∧ d.armed ≤ i)) ∧ Hid (PDev wr b g cap m (d.wrote p t i)) ∧ Hid (But b g m w wr)) (fun i _ => n - (intOf i).toNat)
        case atStart => exact ⟨0, rfl, by omega, Lib.hid (by omega), Lib.hid (by rw [wrote_zero d p t HDD.out]; exact H.out), Lib.hid (But.refl _ _ _ _)⟩
        case round =>
          obtain ⟨i, rfl, hi, hf, hP, hB⟩ := hrel
          by_cases hlt : i < n
          · have i1 : (i : Int) < (n : Int) := by omega
            have hpi : p + i < d.cells.length := by omega
            have hOK := HD.out.wrote p t n i HTN.out hi hf.out
            obtain ⟨T, hT⟩ : ∃ T, T = t.extract (i * 64) t.size := ⟨_, rfl⟩
            have hTs : T.size = t.size - i * 64 := by rw [hT, ByteArray.size_extract]; omega
            have hcut : ∀ W, (Instr.slice 9 (.string t) (some (.int .i64 ((i : Int) * 64))) none none).run Tryz.prog W = .ok (.string T) W := fun W => by
              have := cut_from t ((i : Int) * 64) (by omega) (by have := HTN.out; omega) W
              rw [this, hT, show ((i : Int) * 64).toNat = i * 64 by omega]
            have hsec : T.extract 0 64 = secOf t i := by
              rw [hT]
              unfold secOf
              refine text_eq ?_
              rw [cut_list, cut_list, cut_list]
              rw [List.drop_zero, List.take_take, Nat.min_eq_left (by have := HTN.out; omega), show 64 * i = i * 64 by omega, Nat.add_sub_cancel_left, Nat.sub_zero]
            have hwl : (d.wrote p t i).cells.length = d.cells.length := wrote_len _ _ _ _
            have hsafe : ((d.wrote p t i).cells.getD (p + i) sec0).safe = (d.cells[p + i]).safe := by
              show ((wrote d.cells p t i).getD (p + i) sec0).safe = _
              rw [List.getD_eq_getElem?_getD, List.getElem?_eq_getElem (by rw [wrote_len]; exact hpi), Option.getD_some, wrote_at d.cells p t i (p + i) hpi (Nat.le_refl _)]
            have hput := pput_any hP.out hOK (p + i) (by rw [hwl]; exact hpi) T (by have := HTN.out; omega) ⟨secOf t i, (d.cells[p + i]).safe, true⟩ (by rw [hsec, hsafe])
            have hmore := wrote_more d.cells p t i hpi
            have hput2 : Calls Tryz.prog 61 #[.pointer (some ⟨b, 0, none⟩), .int .i64 ((p : Int) + (i : Int)), .string T] wr fun e w' => e = .returned (.tuple #[]) ∧ PDev w' b g cap m ⟨wrote d.cells p t (i + 1), (d.wrote p t i).ops, (d.wrote p t i).armed, (d.wrote p t i).dead⟩ ∧ But b g m wr w' := by
              rw [hmore]
              rw [Int.natCast_add] at hput
              exact hput
            obtain ⟨D1, hD1⟩ : ∃ D1 : Dv, D1 = ⟨wrote d.cells p t (i + 1), (d.wrote p t i).ops, (d.wrote p t i).armed, (d.wrote p t i).dead⟩ := ⟨_, rfl⟩
            have hOK1 : D1.Ok := by
              rw [hD1]
              exact ⟨fit_wrote HD.out.fit p t (i + 1) n HTN.out (by omega), calm_wrote HD.out.calm p t (i + 1), by show 0 < (wrote d.cells p t (i + 1)).length; rw [wrote_len]; omega, by show (wrote d.cells p t (i + 1)).length ≤ 2000; rw [wrote_len]; exact HD.out.few, hOK.armed0, hOK.armed1, hOK.ops0⟩
            have hst1 := wrote_step d HDD.out p t i HD.out.armed0 hf.out
            have hop1 : D1.ops < 9223372036854775807 := by rw [hD1]; show d.ops + i < _; omega
            rw [← hD1] at hput2 hst1
            have HOK1 := Lib.hid hOK1
            have HOP1 := Lib.hid hop1
            have HS1 := Lib.hid hst1.1
            have hw1 : IntKind.i64.wrap ((p : Int) + (i : Int)) = (p : Int) + (i : Int) := IntWalk.i64_in _ (by have := HD.out.few; omega)
            have hw2 : IntKind.i64.wrap ((i : Int) * 64) = (i : Int) * 64 := IntWalk.i64_in _ (by omega)
            by_cases hit : d.armed = (i : Int) + 1
            · have hcode : (if D1.hit = true then (20 : Int) else 0) = 20 := by rw [hst1.2, if_pos (decide_eq_true hit)]
              have HRE : Hid (d.write p t = d.wrote p t (i + 1) ∧ d.writeE p t = 20) := Lib.hid (by
                obtain ⟨q1, q2⟩ := HWR.out
                have hr : d.reach n = i + 1 := by unfold Dv.reach; rw [if_pos (by omega)]; omega
                have hfl : d.falls n = true := by unfold Dv.falls; exact decide_eq_true (by omega)
                exact ⟨by rw [q1, hr], by rw [q2, if_pos hfl]⟩)
              have HCO := Lib.hid hcode
              clear hOK hT hTs hsec hwl hsafe hput hmore hOK1 hst1 hop1 hcode hit hD1 hpi
              go_wp2_with (first
                | (go_at_call 61; refine hput2.mono ?_; rintro e w4 ⟨rfl, hp4, hb4⟩; have HP4 := Lib.hid hp4; have HB4 := Lib.hid hb4; clear hp4 hb4)
                | (go_at_call 62; refine (pstep_any HP4.out HOK1.out HOP1.out).mono ?_; rw [HCO.out, HS1.out]; rintro e w5 ⟨rfl, hp5, hb5⟩; have HP5 := Lib.hid hp5; have HB5 := Lib.hid hb5; clear hp5 hb5))
              go_ret
              rw [HRE.out.1, HRE.out.2]
              exact ⟨rfl, HP5.out, (hB.out.trans HB4.out).trans HB5.out⟩
            · have hcode : (if D1.hit = true then (20 : Int) else 0) = 0 := by rw [hst1.2, decide_eq_false hit]; rfl
              have HCO := Lib.hid hcode
              have HF2 : Hid (¬ (1 ≤ d.armed ∧ d.armed ≤ ((i + 1 : Nat) : Int))) := Lib.hid (by have := hf.out; omega)
              clear hOK hT hTs hsec hwl hsafe hput hmore hOK1 hst1 hop1 hcode hit hD1 hpi
              go_wp2_with (first
                | (go_at_call 61; refine hput2.mono ?_; rintro e w4 ⟨rfl, hp4, hb4⟩; have HP4 := Lib.hid hp4; have HB4 := Lib.hid hb4; clear hp4 hb4)
                | (go_at_call 62; refine (pstep_any HP4.out HOK1.out HOP1.out).mono ?_; rw [HCO.out, HS1.out]; rintro e w5 ⟨rfl, hp5, hb5⟩; have HP5 := Lib.hid hp5; have HB5 := Lib.hid hb5; clear hp5 hb5))
              go_roundw
              case rel => exact ⟨i + 1, by go_num, by omega, HF2, HP5, Lib.hid ((hB.out.trans HB4.out).trans HB5.out)⟩
              case measure => simp [intOf]; omega
          · obtain rfl : i = n := by omega
            have HRE : Hid (d.write p t = d.wrote p t i ∧ d.writeE p t = 0) := Lib.hid (by
              obtain ⟨q1, q2⟩ := HWR.out
              have hr : d.reach i = i := by unfold Dv.reach; rw [if_neg hf.out]
              have hfl : d.falls i = false := by unfold Dv.falls; exact decide_eq_false hf.out
              exact ⟨by rw [q1, hr], by rw [q2, hfl]; rfl⟩)
            go_wp2
            go_ret
            rw [HRE.out.1, HRE.out.2]
            exact ⟨rfl, hP.out, hB.out⟩
      · have hf := hbad (hwf (by
          unfold outE at hok
          intro q
          apply hok
          rw [if_neg (by omega), if_pos (by omega)]))
        have he : d.writeE x t = outE d.cells.length x n := by
          unfold Dv.writeE outE
          rw [hdd, if_neg (by decide), hn]
          by_cases q : t.size = 0
          · rw [if_pos (Or.inl q), if_pos (by omega)]
          · rw [if_neg (by omega), if_neg (show ¬ ((n : Int) < 1) by omega)]
            by_cases q2 : 0 ≤ x ∧ x + n ≤ d.cells.length
            · exfalso; apply hok; unfold outE; rw [if_neg (by omega), if_pos q2]
            · rw [if_neg q2, if_neg q2]
        rw [hf, he]
        obtain ⟨E, hE⟩ : ∃ E, outE d.cells.length x n = E := ⟨_, rfl⟩
        rw [hE] at hou hok ⊢
        have hne : (E != 0) = true := bne_iff_ne.2 hok
        clear hbad hwf hs hn h hd hdd hf he hE hok htn
        go_enter Tryz.func40, Tryz.ntmps40
        go_wp2_with (first
          | (go_at_call 59; refine hde.mono ?_; rintro e w1 ⟨rfl, rfl⟩)
          | (go_at_call 60; refine hou.mono ?_; rintro e w1 ⟨rfl, rfl⟩))
        go_ret
        exact ⟨rfl, H.out, But.refl _ _ _ _⟩
    · have e2 : ((t.size : Int) % 64 != 0) = true := by rw [bne_iff_ne]; omega
      have hf := hbad (hwf (by omega))
      have he : d.writeE x t = 2 := by unfold Dv.writeE; rw [hdd, if_neg (by decide), if_pos (Or.inr hs)]
      rw [hf, he]
      clear hf he h hd hdd hbad hwf hs
      go_enter Tryz.func40, Tryz.ntmps40
      go_wp2_with (go_at_call 59; refine hde.mono ?_; rintro e w1 ⟨rfl, rfl⟩)
      go_ret
      exact ⟨rfl, H.out, But.refl _ _ _ _⟩
theorem pwrite_no {w : World} {v : Value} (h : NoDev w v) (x : Int) (t : ByteArray) :
    Calls Tryz.prog 40 #[v, .int .i64 x, .string t] w fun e w' => e = .returned (.int .i64 1) ∧ w = w' := by
  have hs := pdead_no h
  clear h
  go_enter Tryz.func40, Tryz.ntmps40
  go_wp2_with (go_at_call 59; refine hs.mono ?_; rintro e w1 ⟨rfl, rfl⟩)
  go_ret
  exact ⟨rfl, rfl⟩
theorem pflush_no {w : World} {v : Value} (h : NoDev w v) :
    Calls Tryz.prog 41 #[v] w fun e w' => e = .returned (.int .i64 1) ∧ w = w' := by
  have hs := pdead_no h
  clear h
  go_enter Tryz.func41, Tryz.ntmps41
  go_wp2_with (go_at_call 59; refine hs.mono ?_; rintro e w1 ⟨rfl, rfl⟩)
  go_ret
  exact ⟨rfl, rfl⟩
end Go.Proofs.YtcbmecpeockdeaaGreatDoor
namespace Go.Proofs.YtcbmecpeockdeaaGreatDoor
open Go.RowKit Go.Maps

/-- The bytes of a row of the call's own, as a text. -/
theorem own_text {w : World} {B g n cap : Nat} {T : ByteArray} (h : w.ownsRow B 5 1 (.slice (some ⟨g, 0, none⟩) n cap) n (bytesV T)) : (convert 51 9 (.slice (some ⟨g, 0, none⟩) n cap)).run Tryz.prog w = .ok (.string T) w := by
  have hn : T.size = n := by have := h.1; rw [bytesV_len] at this; omega
  rw [run_convert_bytes_string (P := Tryz.prog) _ 51 9 5 _ _ _ Tryz.underlying51 Tryz.underlying5 Tryz.underlying9]
  have hl : (loadCells ⟨g, 0, none⟩ n).run Tryz.prog w = .ok ((T.data.toList.map fun c => (c.toNat : Int)).map (Value.int .u8)).toArray w := by
    have := run_loadCells_list (P := Tryz.prog) w ⟨g, 0, none⟩ ((T.data.toList.map fun c => (c.toNat : Int)).map (Value.int .u8)) (fun j v hj => by
      have hj' : j < n := by
        have := (List.getElem?_eq_some_iff.1 hj).1
        simpa [hn] using this
      have hc := h.cellAt j (by omega)
      have e : (⟨g, 0, none⟩ : Addr).add j = ⟨g, j, none⟩ := by unfold Addr.add; split <;> simp_all
      rw [e, hc, ← hj]
      unfold bytesV
      rw [List.map_map]; rfl)
    simpa [hn] using this
  refine (run_bytesToString (P := Tryz.prog) _ _ n cap (T.data.toList.map fun c => (c.toNat : Int)) hl).trans ?_
  rw [push_fold]
  congr 2
theorem read_fits (d : Dv) (hd : d.dead = false) (x y : Int) : d.readE x y = outE d.cells.length x y := by
  unfold Dv.readE outE
  rw [hd, if_neg (by decide)]
theorem bytesV_cat (l : List ByteArray) (t : ByteArray) : bytesV (cat (l ++ [t])) = bytesV (cat l) ++ bytesV t := by rw [cat_snoc, bytesV_app]
set_option maxRecDepth 100000 in
set_option maxHeartbeats 400000 in
theorem pread_any {w : World} {b g cap m : Nat} {d : Dv} (h : PDev w b g cap m d) (hd : d.Ok) (x y : Int) (hy : y ≤ 9223372036854775807) :
    Calls Tryz.prog 46 #[.pointer (some ⟨b, 0, none⟩), .int .i64 x, .int .i64 y] w fun e w' => e = .returned (.tuple #[.string (d.readT x y), .int .i64 (d.readE x y)]) ∧ Below w.heap.size w w' := by
  have hde := pdead_any h hd
  have H := Lib.hid h
  have HD := Lib.hid hd
  have hbad : d.readE x y ≠ 0 → d.readT x y = ⟨#[]⟩ := fun h => by unfold Dv.readT; rw [if_neg h]
  cases hdd : d.dead with
  | true =>
    have he : d.readE x y = 20 := by unfold Dv.readE; rw [if_pos hdd]
    have ht := hbad (by omega)
    rw [hdd, if_pos rfl] at hde
    rw [he, ht]
    clear he ht h hd hdd hbad
    go_enter Tryz.func46, Tryz.ntmps46
    go_wp2_with (go_at_call 59; refine hde.mono ?_; rintro e w1 ⟨rfl, rfl⟩)
    go_ret2
    exact ⟨rfl, Below.refl _ _⟩
  | false =>
    rw [hdd, if_neg (by decide)] at hde
    have hre := read_fits d hdd x y
    have hou := poutside_any h hd x y hy
    by_cases hok : outE d.cells.length x y = 0
    · have hin : 1 ≤ y ∧ 0 ≤ x ∧ x + y ≤ d.cells.length := by
        unfold outE at hok
        by_cases q1 : y < 1
        · rw [if_pos q1] at hok; omega
        · rw [if_neg q1] at hok
          by_cases q2 : 0 ≤ x ∧ x + y ≤ d.cells.length
          · exact ⟨by omega, q2⟩
          · rw [if_neg q2] at hok; omega
      obtain ⟨p, rfl⟩ : ∃ p : Nat, x = p := ⟨x.toNat, by omega⟩
      obtain ⟨n, rfl⟩ : ∃ n : Nat, y = n := ⟨y.toNat, by omega⟩
      have hPn : p + n ≤ d.cells.length := by omega
      have hn1 : 1 ≤ n := by omega
      have hlen := hd.few
      rw [hok] at hre hou
      obtain ⟨F, hF⟩ : ∃ F : Nat → ByteArray, ∀ k, F k = cat (((d.cells.drop p).take k).map Sec.now) := ⟨_, fun _ => rfl⟩
      have HT : Hid (d.readT p n = F n) := Lib.hid (by unfold Dv.readT; rw [if_pos hre, Int.toNat_natCast, Int.toNat_natCast, hF])
      have HF0 : Hid (bytesV (F 0) = []) := Lib.hid (by rw [hF]; simp [cat, bytesV])
      have HMO : Hid (∀ k, k < n → bytesV (F (k + 1)) = bytesV (F k) ++ bytesV (d.cells.getD (p + k) sec0).now) := Lib.hid fun k hk => by
        rw [hF, hF]
        have hkd : k < (d.cells.drop p).length := by rw [List.length_drop]; omega
        rw [List.take_succ_eq_append_getElem hkd, List.map_append, List.map_cons, List.map_nil, bytesV_cat, List.getElem_drop, List.getD_eq_getElem?_getD, List.getElem?_eq_getElem (by omega)]
        rfl
      obtain ⟨i0, hi, hz0, hz1, hz2⟩ := info_parts infoU8
      have k0 := (five_cells h.box).1
      have hcap : p ≤ cap ∧ p + n ≤ cap ∧ cap ≤ maxLen := by obtain ⟨cur, _, q1, q2, _⟩ := h.row; exact ⟨by omega, by omega, q2⟩
      unfold maxLen at hcap
      rw [hre]
      clear hbad hre hok hin hF h hd hdd
      have i1 : (p : Int) ≤ (p : Int) + (n : Int) := by omega
      have i2 : (p : Int) + (n : Int) ≤ (cap : Int) := by omega
      have i3 : IntKind.i64.wrap ((p : Int) + (n : Int)) = (p : Int) + (n : Int) := IntWalk.i64_in _ (by omega)
      have i4 : IntKind.i64.wrap ((n : Int) * 64) = (n : Int) * 64 := IntWalk.i64_in _ (by omega)
      go_enter Tryz.func46, Tryz.ntmps46
      go_wp2_with (first
        | (go_at_call 59; refine hde.mono ?_; rintro e w1 ⟨rfl, rfl⟩)
        | (go_at_call 60; refine hou.mono ?_; rintro e w1 ⟨rfl, rfl⟩)
        | (at_make; refine wpList_make_own _ rfl _ _ 51 rfl w.heap.size 5 i0 (.int .u8 0) 1 Tryz.underlying51 hi hz0 hz1 .i64 .i64 _ (n * 64) rfl rfl (by omega) (by rw [hz2]; omega) (by unfold maxLen; omega) (Nat.le_refl _) ?_; intro w2 hown2 hg2; have HO2 := Lib.hid hown2; have HG2 := Lib.hid hg2; clear hown2 hg2; have c0 := (five_cells (H.out.step ((Below.refl _ w).grown HG2.out (Nat.le_refl _) (by simp))).box).1))
      clear c0 k0 hde hou
      rw [show p + n - p = n by omega]
      have HB2 : Hid (Below w.heap.size w w2) := Lib.hid ((Below.refl _ w).grown HG2.out (Nat.le_refl _) (by simp))
      go_loopw [10, 38] (fun o' i' wr => ∃ k : Nat, i' = .int .i64 k ∧ k ≤ n ∧ Hid (wr.ownsRow w.heap.size 5 1 o' (64 * k) (bytesV (F k))) ∧ Hid (Below w.heap.size w wr)) (fun _ i _ => n - (intOf i).toNat)
      case atStart => exact ⟨0, rfl, by omega, Lib.hid (by rw [HF0.out]; exact HO2.out), HB2⟩
      case round =>
        obtain ⟨k, rfl, hk, ho, hb⟩ := hrel
        by_cases hlt : k < n
        · have j1 : (k : Int) < (n : Int) := by omega
          have hpk : p + k < d.cells.length := by omega
          have hfa := fit_at HD.out.fit hpk
          have hul : (bytesV (d.cells.getD (p + k) sec0).now).length = 64 := by rw [bytesV_len, hfa.1]
          have hra : wr.rangeAt g (p * 64 + k * 64) (bytesV (d.cells.getD (p + k) sec0).now) := fun i v hv => by
            have hi : i < 64 := by
              have := (List.getElem?_eq_some_iff.1 hv).1
              rwa [hul] at this
            rw [show p * 64 + k * 64 = (p + k) * 64 by omega, (H.out.step hb.out).row.cell HD.out.fit hpk hi]; exact hv
          have hM := Lib.hid (HMO.out k hlt)
          have hst := stored64 wr ⟨bytesV (d.cells.getD (p + k) sec0).now⟩ hul (bytes_all _)
          have hU1 := byte_one (d.cells.getD (p + k) sec0).now
          generalize bytesV (d.cells.getD (p + k) sec0).now = U at *
          have hiU : (Tryz.prog.info? 102).map (·.size) = some U.length := by rw [hul]; kernel_rfl
          have hoa := ho.out.alloc (.cells ⟨U⟩ 102)
          have hcU := heap_alloc_new wr (.cells ⟨U⟩ 102)
          clear hfa
          go_upto_region 11 with (refine wpList_load_mid rfl 102 _ (by rfl) g (p * 64 + k * 64) (by rfl) U _ hra Tryz.underlying102 rfl hiU ?_)
          obtain ⟨W, hW⟩ : ∃ W, W = wr.alloc (.cells ⟨U⟩ 102) := ⟨_, rfl⟩
          have hbW : Below w.heap.size w W := by rw [hW]; exact hb.out.alloc hb.out.size _
          have hbase := hbW.size
          rw [← hW] at hoa hcU ⊢
          have hnews : ∀ j u, U[j]? = some u → W.cell? ((⟨wr.heap.size, 0, none⟩ : Addr).add j) = some u := fun j u hj => by rw [Addr.add_mid, Nat.zero_add]; exact cell_of hcU (by rw [List.getElem?_toArray]; exact hj)
          have HBW := Lib.hid hbW
          clear hst hW hra hiU hcU hbW
          obtain ⟨xs, hxs⟩ : ∃ xs, bytesV (F k) = xs := ⟨_, rfl⟩
          rw [hxs] at hoa hM
          clear hxs
          go_wp2_with (at_builtin; go_loud (refine wpList_append_own _ rfl _ _ 51 (by rfl) w.heap.size 5 i0 (.int .u8 0) 1 1 Tryz.underlying51 hi hz0 hz1 hz2 rfl (by decide) _ (64 * k) xs (by rfl) hoa ⟨wr.heap.size, 0, none⟩ 64 64 U (by rfl) (by rw [hul]) hnews hU1 (by unfold maxLen; omega) (by omega) hbase ?_); intro v4 w4 ho4 hg4 _; have HO4 := Lib.hid ho4; have HG4 := Lib.hid hg4; clear ho4 hg4)
          have HB4 : Hid (Below w.heap.size w w4) := Lib.hid (HBW.out.grown HG4.out hbase (fun j hj => (hoa.lt j hj).1))
          clear hoa hbase hnews
          go_wp2
          go_roundw
          case rel => exact ⟨k + 1, by go_num, by omega, Lib.hid (by rw [hM.out, show 64 * (k + 1) = 64 * k + 64 by omega]; exact HO4.out), HB4⟩
          case measure => simp [intOf]; omega
        · obtain rfl : k = n := by omega
          obtain ⟨gg, cp, rfl⟩ := Joins.ownsRow_form ho.out (by omega)
          have hcv := own_text ho.out
          clear hi hz0 hz1 hz2
          go_wp2
          go_ret2
          exact ⟨by rw [HT.out]; rfl, hb.out⟩
    · have ht := hbad (by rw [hre]; exact hok)
      rw [ht, hre]
      generalize outE d.cells.length x y = E at *
      have hne : (E != 0) = true := bne_iff_ne.2 hok
      clear ht hre hbad h hd hdd hok
      go_enter Tryz.func46, Tryz.ntmps46
      go_wp2_with (first
        | (go_at_call 59; refine hde.mono ?_; rintro e w1 ⟨rfl, rfl⟩)
        | (go_at_call 60; refine hou.mono ?_; rintro e w1 ⟨rfl, rfl⟩))
      go_ret2
      exact ⟨rfl, Below.refl _ _⟩
theorem pread_no {w : World} {v : Value} (h : NoDev w v) (x y : Int) :
    Calls Tryz.prog 46 #[v, .int .i64 x, .int .i64 y] w fun e w' => e = .returned (.tuple #[.string ⟨#[]⟩, .int .i64 1]) ∧ w = w' := by
  have hs := pdead_no h
  clear h
  go_enter Tryz.func46, Tryz.ntmps46
  go_wp2_with (go_at_call 59; refine hs.mono ?_; rintro e w1 ⟨rfl, rfl⟩)
  go_ret2
  exact ⟨rfl, rfl⟩
end Go.Proofs.YtcbmecpeockdeaaGreatDoor
