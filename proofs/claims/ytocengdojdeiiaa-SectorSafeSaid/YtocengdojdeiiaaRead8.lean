/- The program's Read. -/
import Derived.Test.YtocengdojdeiiaaWrite8
namespace Go.Proofs.Ytocengdojdeiiaa
open Go.RowKit Go.Maps

/-- The bytes of a row of the call's own, as a text. -/
theorem own_text {w : World} {B g n cap : Nat} {T : ByteArray} (h : w.ownsRow B 5 1 (.slice (some ⟨g, 0, none⟩) n cap) n (bytesV T)) : (convert 78 9 (.slice (some ⟨g, 0, none⟩) n cap)).run Try.prog w = .ok (.string T) w := by
  have hn : T.size = n := by have := h.1; rw [bytesV_len] at this; omega
  rw [run_convert_bytes_string (P := Try.prog) _ 78 9 5 _ _ _ Try.underlying78 Try.underlying5 Try.underlying9]
  have hl : (loadCells ⟨g, 0, none⟩ n).run Try.prog w = .ok ((T.data.toList.map fun c => (c.toNat : Int)).map (Value.int .u8)).toArray w := by
    have := run_loadCells_list (P := Try.prog) w ⟨g, 0, none⟩ ((T.data.toList.map fun c => (c.toNat : Int)).map (Value.int .u8)) (fun j v hj => by
      have hj' : j < n := by
        have := (List.getElem?_eq_some_iff.1 hj).1
        simpa [hn] using this
      have hc := h.cellAt j (by omega)
      have e : (⟨g, 0, none⟩ : Addr).add j = ⟨g, j, none⟩ := by unfold Addr.add; split <;> simp_all
      rw [e, hc, ← hj]
      unfold bytesV
      rw [List.map_map]; rfl)
    simpa [hn] using this
  refine (run_bytesToString (P := Try.prog) _ _ n cap (T.data.toList.map fun c => (c.toNat : Int)) hl).trans ?_
  rw [push_fold]
  congr 2
theorem read_fits (d : Dv) (hd : d.dead = false) (x y : Int) : d.readE x y = outE d.cells.length x y := by
  unfold Dv.readE outE
  rw [hd, if_neg (by decide)]
theorem bytesV_cat (l : List ByteArray) (t : ByteArray) : bytesV (cat (l ++ [t])) = bytesV (cat l) ++ bytesV t := by rw [cat_snoc, bytesV_app]
set_option maxRecDepth 100000 in
set_option maxHeartbeats 400000 in
theorem pread_any {w : World} {b g cap m : Nat} {d : Dv} (h : PDev w b g cap m d) (hd : d.Ok) (x y : Int) (hy : y ≤ 9223372036854775807) :
    Calls Try.prog 14 #[.pointer (some ⟨b, 0, none⟩), .int .i64 x, .int .i64 y] w fun e w' => e = .returned (.tuple #[.string (d.readT x y), .int .i64 (d.readE x y)]) ∧ Below w.heap.size w w' := by
  have hde := pdead_any h hd
  have H := Lib.hid h
  have HD := Lib.hid hd
  have hbad : d.readE x y ≠ 0 → d.readT x y = ⟨#[]⟩ := fun h => by unfold Dv.readT; rw [if_neg h]
  cases hdd : d.dead with
  | true =>
    have he : d.readE x y = 20 := by unfold Dv.readE; rw [if_pos hdd]
    have ht := hbad (by omega)
    rw [hdd, if_pos rfl] at hde
    rw [he, ht]
    clear he ht h hd hdd hbad
    go_enter Try.func14, Try.ntmps14
    go_wp2_with (go_at_call 36; refine hde.mono ?_; rintro e w1 ⟨rfl, rfl⟩)
    go_ret2
    exact ⟨rfl, Below.refl _ _⟩
  | false =>
    rw [hdd, if_neg (by decide)] at hde
    have hre := read_fits d hdd x y
    have hou := poutside_any h hd x y hy
    by_cases hok : outE d.cells.length x y = 0
    · have hin : 1 ≤ y ∧ 0 ≤ x ∧ x + y ≤ d.cells.length := by
        unfold outE at hok
        by_cases q1 : y < 1
        · rw [if_pos q1] at hok; omega
        · rw [if_neg q1] at hok
          by_cases q2 : 0 ≤ x ∧ x + y ≤ d.cells.length
          · exact ⟨by omega, q2⟩
          · rw [if_neg q2] at hok; omega
      obtain ⟨p, rfl⟩ : ∃ p : Nat, x = p := ⟨x.toNat, by omega⟩
      obtain ⟨n, rfl⟩ : ∃ n : Nat, y = n := ⟨y.toNat, by omega⟩
      have hPn : p + n ≤ d.cells.length := by omega
      have hn1 : 1 ≤ n := by omega
      have hlen := hd.few
      rw [hok] at hre hou
      obtain ⟨F, hF⟩ : ∃ F : Nat → ByteArray, ∀ k, F k = cat (((d.cells.drop p).take k).map Sec.now) := ⟨_, fun _ => rfl⟩
      have HT : Hid (d.readT p n = F n) := Lib.hid (by unfold Dv.readT; rw [if_pos hre, Int.toNat_natCast, Int.toNat_natCast, hF])
      have HF0 : Hid (bytesV (F 0) = []) := Lib.hid (by rw [hF]; simp [cat, bytesV])
      have HMO : Hid (∀ k, k < n → bytesV (F (k + 1)) = bytesV (F k) ++ bytesV (d.cells.getD (p + k) sec0).now) := Lib.hid fun k hk => by
        rw [hF, hF]
        have hkd : k < (d.cells.drop p).length := by rw [List.length_drop]; omega
        rw [List.take_succ_eq_append_getElem hkd, List.map_append, List.map_cons, List.map_nil, bytesV_cat, List.getElem_drop, List.getD_eq_getElem?_getD, List.getElem?_eq_getElem (by omega)]
        rfl
      obtain ⟨i0, hi, hz0, hz1, hz2⟩ := info_parts infoU8
      have k0 := (five_cells h.box).1
      have hcap : p ≤ cap ∧ p + n ≤ cap ∧ cap ≤ maxLen := by obtain ⟨cur, _, q1, q2, _⟩ := h.row; exact ⟨by omega, by omega, q2⟩
      unfold maxLen at hcap
      rw [hre]
      clear hbad hre hok hin hF h hd hdd
      have i1 : (p : Int) ≤ (p : Int) + (n : Int) := by omega
      have i2 : (p : Int) + (n : Int) ≤ (cap : Int) := by omega
      have i3 : IntKind.i64.wrap ((p : Int) + (n : Int)) = (p : Int) + (n : Int) := IntWalk.i64_in _ (by omega)
      have i4 : IntKind.i64.wrap ((n : Int) * 64) = (n : Int) * 64 := IntWalk.i64_in _ (by omega)
      go_enter Try.func14, Try.ntmps14
      go_wp2_with (first
        | (go_at_call 36; refine hde.mono ?_; rintro e w1 ⟨rfl, rfl⟩)
        | (go_at_call 37; refine hou.mono ?_; rintro e w1 ⟨rfl, rfl⟩)
        | (at_make; refine wpList_make_own _ rfl _ _ 78 rfl w.heap.size 5 i0 (.int .u8 0) 1 Try.underlying78 hi hz0 hz1 .i64 .i64 _ (n * 64) rfl rfl (by omega) (by rw [hz2]; omega) (by unfold maxLen; omega) (Nat.le_refl _) ?_; intro w2 hown2 hg2; have HO2 := Lib.hid hown2; have HG2 := Lib.hid hg2; clear hown2 hg2; have c0 := (five_cells (H.out.step ((Below.refl _ w).grown HG2.out (Nat.le_refl _) (by simp))).box).1))
      clear c0 k0 hde hou
      rw [show p + n - p = n by omega]
      have HB2 : Hid (Below w.heap.size w w2) := Lib.hid ((Below.refl _ w).grown HG2.out (Nat.le_refl _) (by simp))
      go_loopw [10, 38] (fun o' i' wr => ∃ k : Nat, i' = .int .i64 k ∧ k ≤ n ∧ Hid (wr.ownsRow w.heap.size 5 1 o' (64 * k) (bytesV (F k))) ∧ Hid (Below w.heap.size w wr)) (fun _ i _ => n - (intOf i).toNat)
      case atStart => exact ⟨0, rfl, by omega, Lib.hid (by rw [HF0.out]; exact HO2.out), HB2⟩
      case round =>
        obtain ⟨k, rfl, hk, ho, hb⟩ := hrel
        by_cases hlt : k < n
        · have j1 : (k : Int) < (n : Int) := by omega
          have hpk : p + k < d.cells.length := by omega
          have hfa := fit_at HD.out.fit hpk
          have hul : (bytesV (d.cells.getD (p + k) sec0).now).length = 64 := by rw [bytesV_len, hfa.1]
          have hra : wr.rangeAt g (p * 64 + k * 64) (bytesV (d.cells.getD (p + k) sec0).now) := fun i v hv => by
            have hi : i < 64 := by
              have := (List.getElem?_eq_some_iff.1 hv).1
              rwa [hul] at this
            rw [show p * 64 + k * 64 = (p + k) * 64 by omega, (H.out.step hb.out).row.cell HD.out.fit hpk hi]; exact hv
          have hM := Lib.hid (HMO.out k hlt)
          have hst := stored64 wr ⟨bytesV (d.cells.getD (p + k) sec0).now⟩ hul (bytes_all _)
          have hU1 := byte_one (d.cells.getD (p + k) sec0).now
          generalize bytesV (d.cells.getD (p + k) sec0).now = U at *
          have hiU : (Try.prog.info? 80).map (·.size) = some U.length := by rw [hul]; kernel_rfl
          have hoa := ho.out.alloc (.cells ⟨U⟩ 80)
          have hcU := heap_alloc_new wr (.cells ⟨U⟩ 80)
          clear hfa
          go_upto_region 11 with (refine wpList_load_mid rfl 80 _ (by rfl) g (p * 64 + k * 64) (by rfl) U _ hra Try.underlying80 rfl hiU ?_)
          obtain ⟨W, hW⟩ : ∃ W, W = wr.alloc (.cells ⟨U⟩ 80) := ⟨_, rfl⟩
          have hbW : Below w.heap.size w W := by rw [hW]; exact hb.out.alloc hb.out.size _
          have hbase := hbW.size
          rw [← hW] at hoa hcU ⊢
          have hnews : ∀ j u, U[j]? = some u → W.cell? ((⟨wr.heap.size, 0, none⟩ : Addr).add j) = some u := fun j u hj => by rw [Addr.add_mid, Nat.zero_add]; exact cell_of hcU (by rw [List.getElem?_toArray]; exact hj)
          have HBW := Lib.hid hbW
          clear hst hW hra hiU hcU hbW
          obtain ⟨xs, hxs⟩ : ∃ xs, bytesV (F k) = xs := ⟨_, rfl⟩
          rw [hxs] at hoa hM
          clear hxs
          go_wp2_with (at_builtin; go_loud (refine wpList_append_own _ rfl _ _ 78 (by rfl) w.heap.size 5 i0 (.int .u8 0) 1 1 Try.underlying78 hi hz0 hz1 hz2 rfl (by decide) _ (64 * k) xs (by rfl) hoa ⟨wr.heap.size, 0, none⟩ 64 64 U (by rfl) (by rw [hul]) hnews hU1 (by unfold maxLen; omega) (by omega) hbase ?_); intro v4 w4 ho4 hg4 _; have HO4 := Lib.hid ho4; have HG4 := Lib.hid hg4; clear ho4 hg4)
          have HB4 : Hid (Below w.heap.size w w4) := Lib.hid (HBW.out.grown HG4.out hbase (fun j hj => (hoa.lt j hj).1))
          clear hoa hbase hnews
          go_wp2
          go_roundw
          case rel => exact ⟨k + 1, by go_num, by omega, Lib.hid (by rw [hM.out, show 64 * (k + 1) = 64 * k + 64 by omega]; exact HO4.out), HB4⟩
          case measure => simp [intOf]; omega
        · obtain rfl : k = n := by omega
          obtain ⟨gg, cp, rfl⟩ := Joins.ownsRow_form ho.out (by omega)
          have hcv := own_text ho.out
          clear hi hz0 hz1 hz2
          go_wp2
          go_ret2
          exact ⟨by rw [HT.out]; rfl, hb.out⟩
    · have ht := hbad (by rw [hre]; exact hok)
      rw [ht, hre]
      generalize outE d.cells.length x y = E at *
      have hne : (E != 0) = true := bne_iff_ne.2 hok
      clear ht hre hbad h hd hdd hok
      go_enter Try.func14, Try.ntmps14
      go_wp2_with (first
        | (go_at_call 36; refine hde.mono ?_; rintro e w1 ⟨rfl, rfl⟩)
        | (go_at_call 37; refine hou.mono ?_; rintro e w1 ⟨rfl, rfl⟩))
      go_ret2
      exact ⟨rfl, Below.refl _ _⟩
theorem pread_no {w : World} {v : Value} (h : NoDev w v) (x y : Int) :
    Calls Try.prog 14 #[v, .int .i64 x, .int .i64 y] w fun e w' => e = .returned (.tuple #[.string ⟨#[]⟩, .int .i64 1]) ∧ w = w' := by
  have hs := pdead_no h
  clear h
  go_enter Try.func14, Try.ntmps14
  go_wp2_with (go_at_call 36; refine hs.mono ?_; rintro e w1 ⟨rfl, rfl⟩)
  go_ret2
  exact ⟨rfl, rfl⟩
end Go.Proofs.Ytocengdojdeiiaa
